/-
  The walk of the law FailTells: it returns true, and leaves all that was there as it was. Conditions: the lists hold their texts, of at most 1048576 bytes and texts together; errors.errorType holds the type error (Laid).
-/
import Derived.Test.YtikaghinkpcknaaDoorFailRefText
import Derived.Test.YtikaghinkpcknaaDoorFailWorks
import Derived.Test.YtikaghinkpcknaaDoorSameTexts
import Derived.Test.YtikaghinkpcknaaDoorSpoilTexts
import Derived.Test.YtikaghinkpcknaaDoorRegionLoose
import Derived.Lib.QuietBelow
import Derived.Deep.QuietTactic
import Derived.BigQuiet
import Derived.StillTailTactics
namespace Go.Proofs.YtikaghinkpcknaaDoor.FailTellsWalk
open Go.RowKit Err Loose Go.Sort

/-- how many bytes and texts -/
def tot (l : List ByteArray) : Nat := (l.map fun x => x.size + 1).sum
theorem text_le_tot (p : List ByteArray) : (pathText p).length ≤ tot p := by
  cases p with
  | nil => simp [pathText, Lib.join_nil]
  | cons x r =>
    unfold pathText
    simp only [List.map_cons, Lib.join_length, List.length_singleton, Nat.one_mul, List.length_map]
    have h : ∀ l : List ByteArray, Lib.lens (l.map (·.data.toList)) + l.length = tot l := by
      intro l
      induction l with
      | nil => rfl
      | cons y l ih =>
        simp only [Lib.lens, tot, List.map_cons, List.sum_cons, List.length_cons, Array.length_toList] at ih ⊢
        have : y.data.size = y.size := rfl
        omega
    have := h (x :: r)
    simp only [List.map_cons, List.length_cons] at this
    omega
theorem tot_cons (x : ByteArray) (l : List ByteArray) : tot (x :: l) = x.size + 1 + tot l := by simp [tot]
theorem tot_take_succ (ys : List ByteArray) (k : Nat) (h : k < ys.length) : tot (ys.take (k + 1)) = tot (ys.take k) + (ys[k].size + 1) := by
  rw [List.take_succ_eq_append_getElem h]
  simp only [tot, List.map_append, List.sum_append, List.map_cons, List.map_nil, List.sum_cons, List.sum_nil]
  omega
theorem tot_pathOf (c : Int) (l : List ByteArray) : tot (pathOf c l) ≤ tot l := by
  unfold pathOf; split <;> simp [tot]
theorem len_pathOf (c : Int) (l : List ByteArray) : (pathOf c l).length ≤ l.length := by
  unfold pathOf; split <;> simp

/-- the document's answer lies at block g; no text lies there -/
def Box (w : World) (g : Nat) (c : Int) (A : Option Addr) (n cap : Nat) : Prop := w.heap[g]? = some (.cells #[.int .i64 c, .slice A n cap] 30 (0, 0))

theorem Box.lt {w : World} {g : Nat} {c : Int} {A : Option Addr} {n cap : Nat} (h : Box w g c A n cap) : g < w.heap.size := by
  rcases Nat.lt_or_ge g w.heap.size with hl | hl
  · exact hl
  · unfold Box at h; rw [Array.getElem?_eq_none hl] at h; cases h
theorem Box.keep {w w' : World} {g : Nat} {c : Int} {A : Option Addr} {n cap B : Nat} (h : Box w g c A n cap) (hb : Below B w w') (hg : g < B) : Box w' g c A n cap := (hb.block g hg).trans h
theorem Box.text {w : World} {g : Nat} {c : Int} {A : Option Addr} {n cap : Nat} (h : Box w g c A n cap) {a : Addr} {s : ByteArray} (hc : w.cell? a = some (.string s)) : a.block ≠ g := by
  rintro rfl
  unfold Box at h
  unfold World.cell? at hc
  rw [h] at hc
  simp only at hc
  split at hc
  · cases hc
  · match ho : a.off with
    | 0 => rw [ho] at hc; simp at hc
    | 1 => rw [ho] at hc; simp at hc
    | k + 2 => rw [ho] at hc; simp at hc

theorem is_off {w w' : World} {g : Nat} {c' : Int} {A : Option Addr} {n cap : Nat} (hg : Box w g c' A n cap) (ho : ∀ k, k < w.heap.size → k ≠ g → w'.heap[k]? = w.heap[k]?) {E : Value} {c : Int} {p : List ByteArray} (h : Is w E c p) : Is w' E c p := by
  induction h with
  | code c => exact .code c
  | step b o E s c p h0 h1 _ ih =>
    have hb := hg.text h0
    have hl := lt_of_cell h0
    exact .step b o E s c p ((World.cell?_of_block (ho b hl hb)).trans h0) ((World.cell?_of_block (ho b hl hb)).trans h1) ih
theorem opt_off {w w' : World} {g : Nat} {c' : Int} {A : Option Addr} {n cap : Nat} (hg : Box w g c' A n cap) (ho : ∀ k, k < w.heap.size → k ≠ g → w'.heap[k]? = w.heap[k]?) {E : Value} {c : Int} {p : List ByteArray} (h : Opt w E c p) : Opt w' E c p := by
  rcases h with h | ⟨h0, h⟩
  · exact .inl h
  · exact .inr ⟨h0, is_off hg ho h⟩
theorem texts_off {w w' : World} {g : Nat} {c' : Int} {A : Option Addr} {n cap : Nat} (hg : Box w g c' A n cap) (ho : ∀ k, k < w.heap.size → k ≠ g → w'.heap[k]? = w.heap[k]?) {B : Option Addr} {p : List ByteArray} (h : Texts w B p) : Texts w' B p := by
  intro k x hx
  obtain ⟨a, ha, hc⟩ := h k x hx
  exact ⟨a, ha, (World.cell?_of_block (ho _ (lt_of_cell hc) (hg.text hc))).trans hc⟩

theorem Box.cells {w : World} {g : Nat} {c : Int} {A : Option Addr} {n cap : Nat} (h : Box w g c A n cap) : w.cell? ⟨g, 0, none⟩ = some (.int .i64 c) ∧ w.cell? ⟨g, 1, none⟩ = some (.slice A n cap) ∧ w.frozen? ⟨g, 0, none⟩ = false ∧ w.frozen? ⟨g, 1, none⟩ = false := by
  unfold Box at h
  refine ⟨by simp [World.cell?, h], by simp [World.cell?, h], by simp [World.frozen?, h], by simp [World.frozen?, h]⟩

/-- the store of a new answer -/
theorem box_store {w : World} {g : Nat} {c : Int} {A : Option Addr} {n cap : Nat} (h : Box w g c A n cap) (c2 : Int) (A2 : Option Addr) (n2 cap2 : Nat) :
    Box ((w.setCell ⟨g, 0, none⟩ (.int .i64 c2)).setCell ⟨g, 1, none⟩ (.slice A2 n2 cap2)) g c2 A2 n2 cap2 ∧
    (∀ k, k < w.heap.size → k ≠ g → ((w.setCell ⟨g, 0, none⟩ (.int .i64 c2)).setCell ⟨g, 1, none⟩ (.slice A2 n2 cap2)).heap[k]? = w.heap[k]?) := by
  refine ⟨?_, fun k _ hk => ?_⟩
  · unfold Box at h ⊢
    have h1 := heap_setCell_same w g 0 _ _ (.int .i64 c2) h
    have h2 := heap_setCell_same _ g 1 _ _ (.slice A2 n2 cap2) h1
    simpa using h2
  · rw [Below.heap_setCell _ _ _ k hk, Below.heap_setCell _ _ _ k hk]

/-! the statement's facts, by program -/
/-- what each operation leaves -/
def F12 (E : Value) (c : Int) (g : Nat) (A6 A5 : Option Addr) (c6 cap5 : Nat) (p : List ByteArray) : Nat → Value → World → Prop
  | 0 => fun v _ => v = E
  | 1 => fun v _ => v = .bool (c == 0)
  | 2 => fun v _ => v = .int .i64 c
  | 3 => fun v _ => v = .bool (c == 0)
  | 4 => fun v _ => v = .bool true
  | 5 => fun v _ => v = .bool true
  | 6 => fun v _ => v = E
  | 7 => fun v _ => v = .int .i64 c
  | 8 => fun v _ => v = .pointer (some ⟨g, 0, none⟩)
  | 9 => fun v _ => v = .int .i64 c
  | 10 => fun v _ => v = .bool true
  | 11 => fun v _ => v = .bool true
  | 12 => fun v _ => v = .bool true
  | 13 => fun v _ => v = .slice A6 p.length c6
  | 14 => fun v _ => v = .pointer (some ⟨g, 1, none⟩)
  | 15 => fun v _ => v = .slice A5 p.length cap5
  | 16 => fun v _ => v = .bool true
  | 17 => fun v _ => v = .bool true
  | 18 => fun v _ => v = .bool true
  | 19 => fun v _ => v = E
  | 20 => fun v _ => v = .string ⟨(pathText p).toArray⟩
  | 21 => fun v _ => v = .agg #[.int .i64 c, .slice A5 p.length cap5]
  | 22 => fun v _ => v = .string ⟨(pathText p).toArray⟩
  | 23 => fun v _ => v = .bool true
  | 24 => fun v _ => v = .bool true
  | _ => fun v _ => v = .bool true
theorem F12_keep (E : Value) (c : Int) (g : Nat) (A6 A5 : Option Addr) (c6 cap5 : Nat) (p : List ByteArray) (i : Nat) (v : Value) (w w' : World) (h : F12 E c g A6 A5 c6 cap5 p i v w) (_ : Below w.heap.size w w') : F12 E c g A6 A5 c6 cap5 p i v w' := by
  unfold F12 at h ⊢
  split at h <;> exact h

/-- what each operation leaves -/
def F14 (E : Value) (c d : Int) (g : Nat) (A5 : Option Addr) (cap5 : Nat) (p : List ByteArray) : Nat → Value → World → Prop
  | 0 => fun v _ => v = .bool true
  | 1 => fun v _ => v = .bool true
  | 2 => fun v _ => v = E
  | 3 => fun v _ => v = .int .i64 d
  | 4 => fun v _ => v = .bool (c == d)
  | 5 => fun v _ => v = .int .i64 d
  | 6 => fun v _ => v = .int .i64 c
  | 7 => fun v _ => v = .bool (c == d)
  | 8 => fun v _ => v = .bool true
  | 9 => fun v _ => v = .bool true
  | 10 => fun v _ => v = .bool true
  | 11 => fun v _ => v = E
  | 12 => fun v _ => v = .int .i64 c
  | 13 => fun v _ => v = .bool true
  | 14 => fun v _ => v = .bool true
  | 15 => fun v _ => v = .bool true
  | 16 => fun v _ => v = E
  | 17 => fun v w => ∃ A cap, v = .slice A p.length cap ∧ Texts w A p
  | 18 => fun v _ => v = .pointer (some ⟨g, 1, none⟩)
  | 19 => fun v _ => v = .slice A5 p.length cap5
  | 20 => fun v _ => v = .bool true
  | 21 => fun v _ => v = .bool true
  | 22 => fun v _ => v = .bool true
  | 23 => fun v _ => v = .bool true
  | 24 => fun v _ => v = .bool true
  | _ => fun v _ => v = .bool true
theorem F14_keep (E : Value) (c d : Int) (g : Nat) (A5 : Option Addr) (cap5 : Nat) (p : List ByteArray) (i : Nat) (v : Value) (w w' : World) (h : F14 E c d g A5 cap5 p i v w) (hb : Below w.heap.size w w') : F14 E c d g A5 cap5 p i v w' := by
  unfold F14 at h ⊢
  split at h <;> first | exact h | (obtain ⟨A, cap, h1, h2⟩ := h; exact ⟨A, cap, h1, h2.below hb⟩)

theorem eql_nil {w0 : World} {E : Value} {c : Int} {p : List ByteArray} (h : Opt w0 E c p) (w : World) : (binOp .eql 26 E .nilIface).run Tryd.prog w = .ok (.bool (c == 0)) w := by
  rcases h with ⟨rfl, _, rfl⟩ | ⟨h0, h⟩
  · exact run_eql_nil_nil (P := Tryd.prog) (w := w) 26 (by kernel_rfl)
  · obtain ⟨u, x, rfl⟩ := h.iface
    rw [beq_eq_false_iff_ne.2 h0]
    exact run_eql_held_nil (P := Tryd.prog) (w := w) 26 u x (by kernel_rfl)
theorem guard_nil {w0 : World} {E : Value} {c : Int} {p : List ByteArray} (h : Opt w0 E c p) (w : World) : (eqGuard .eql 26 (.tmp 53) (.const .nilIface) E .nilIface).run Tryd.prog w = .ok () w := by
  rcases h with ⟨rfl, _, rfl⟩ | ⟨h0, h⟩
  · rfl
  · obtain ⟨u, x, rfl⟩ := h.iface
    rfl

/-- the loop's head -/
def At (w : World) (c : Int) (xs ys : List ByteArray) (g : Nat) (E i : Value) (wl : World) : Prop :=
  ∃ (k : Nat) (p : List ByteArray) (A : Option Addr) (cap : Nat), k ≤ ys.length ∧ i = .int .i64 k ∧ (c = 0 → p = []) ∧ p.length ≤ xs.length + k ∧ tot p ≤ tot xs + tot (ys.take k) ∧ Opt wl E c p ∧ Below w.heap.size w wl ∧ Box wl g c A p.length cap ∧ Texts wl A p ∧
    ((A = none ∧ p.length = 0 ∧ cap = 0) ∨ ∃ ad, A = some ad)

set_option maxRecDepth 100000 in
set_option maxHeartbeats 4000000 in
theorem walk_main (c d : Int) (A B : Option Addr) (ca cb : Nat) (xs ys : List ByteArray) (w : World) (hA : Texts w A xs) (hB : Texts w B ys) (hAn : (A = none ∧ xs.length = 0 ∧ ca = 0) ∨ ∃ ad, A = some ad) (hx : ¬ (50 : Int) < (xs.length : Int)) (hy : ¬ (50 : Int) < (ys.length : Int)) (ht : tot xs + tot ys ≤ 1048576) (hL : Laid w) :
    Calls Tryd.prog 3 #[.agg #[.int .i64 c, .int .i64 d], .slice A xs.length ca, .slice B ys.length cb] w fun e w' => e = .returned (.bool true) ∧ Below w.heap.size w w' := by
  have HA := Lib.hid hA
  have HB := Lib.hid hB
  have HL := Lib.hid hL
  have HN := Lib.hid hAn
  have HT := Lib.hid ht
  clear hA hB hL hAn ht
  have hn : xs.length ≤ 9223372036854775807 := by omega
  have HX := Lib.hid hn
  clear hn
  have hb0 : Below w.heap.size w (w.alloc (.cells #[.int .i64 c, .int .i64 d] 22)) := (Below.refl _ _).alloc (Nat.le_refl _) _
  go_enter Tryd.func3, Tryd.ntmps3
  go_wp2_with fail
  go_quiet (fail)
  all_goals
    go_wp2_with fail
    have hbq := hb0.trans (Kit.below_drewN w.heap.size (w.alloc (.cells #[.int .i64 c, .int .i64 d] 22)) nq)
    refine (new_opt c A ca xs _ (HA.out.below hbq) HX.out).mono ?_
    rintro e w2 ⟨E, rfl, hE, hb2⟩
    have hbb2 := hbq.trans (hb2.mono hbq.size)
    have H1 := Lib.hid hE
    clear hE hb2 hbq hb0
    go_wp2_with fail
    refine (refnew_opt c A ca xs _ (HA.out.below hbb2) HN.out).mono ?_
    rintro e w3 ⟨v, rfl, ⟨A3, cap3, rfl, hT3, hn3⟩, hb3⟩
    have hbb3 := hbb2.trans (hb3.mono hbb2.size)
    have H2 := Lib.hid (H1.out.keep hb3)
    have T3 := Lib.hid hT3
    have N3 := Lib.hid hn3
    clear hb3 hbb2 H1 hT3 hn3
    have hb4 : Below w3.heap.size w3 (w3.alloc (.cells #[.int .i64 c, .slice A3 (pathOf c xs).length cap3] 30)) := (Below.refl _ _).alloc (Nat.le_refl _) _
    have H4 := Lib.hid (H2.out.keep hb4)
    have T4 := Lib.hid (T3.out.below hb4)
    have HG := Lib.hid (show Box (w3.alloc (.cells #[.int .i64 c, .slice A3 (pathOf c xs).length cap3] 30)) w3.heap.size c A3 (pathOf c xs).length cap3 from heap_alloc_new w3 _)
    have hg0 : w.heap.size ≤ w3.heap.size := hbb3.size
    have HB4 := Lib.hid (hbb3.trans (hb4.mono hbb3.size))
    clear hb4 hbb3 H2 T3
    go_wp2_with fail
    go_loopw [9, 11] (fun E i wl => At w c xs ys w3.heap.size E i wl) (fun _ i _ => ys.length - (intOf i).toNat)
    case atStart => exact ⟨0, pathOf c xs, A3, cap3, Nat.zero_le _, rfl, fun h => by unfold pathOf; rw [if_pos h], len_pathOf c xs, by have := tot_pathOf c xs; omega, H4.out, HB4.out, HG.out, T4.out, N3.out⟩
    case round =>
      obtain ⟨k, p, A5, cap5, hk, rfl, hp0, hpl, hpt, hE, hb, hg, hT, hN⟩ := hrel
      have HE := Lib.hid hE
      have HG := Lib.hid hg
      have HT5 := Lib.hid hT
      have HN5 := Lib.hid hN
      have HP0 := Lib.hid hp0
      have HPT := Lib.hid hpt
      clear hE hg hT hN hp0 hpt H4 T4 HB4 N3
      by_cases hlt : k < ys.length
      · obtain ⟨b, rfl, hcell⟩ := (HB.out.below hb) k ys[k] (List.getElem?_eq_getElem hlt)
        have hj : (k : Int) < (ys.length : Int) := by omega
        have hj2 : (0 : Int) ≤ (k : Int) ∧ (k : Int) < (ys.length : Int) := ⟨by omega, by omega⟩
        go_wp2_with fail
        refine (in_opt HE.out ys[k]).mono ?_
        rintro e w5 ⟨E5, rfl, hE5, hb5⟩
        have hbb5 := hb.trans (hb5.mono hb.size)
        have hg5 := HG.out.keep hb5 HG.out.lt
        obtain ⟨hc0, hc1, hz0, hz1⟩ := hg5.cells
        have hcell5 : w5.cell? (b.add k) = some (.string ys[k]) := (hb5.cell (lt_of_cell hcell)).trans hcell
        have HE5 := Lib.hid hE5
        have HG5 := Lib.hid hg5
        have HT6 := Lib.hid (HT5.out.below hb5)
        clear hE5 hg5 hb5 hcell HE HG
        go_wp2_with fail
        go_still_tail 5, (by kernel_rfl)
        change wpList _ _ _ _ _ w5.drew
        have hbd : Below w5.heap.size w5 w5.drew := (Below.refl _ _).drew
        have HR := Lib.hid (show RefIs w5.drew (.agg #[.int .i64 c, .slice A5 p.length cap5]) c p from ⟨A5, cap5, rfl, HT6.out.below hbd, HN5.out⟩)
        have HE6 := Lib.hid (HE5.out.keep hbd)
        have HG6 := Lib.hid (show Box w5.drew w3.heap.size c A5 p.length cap5 from HG5.out)
        have hbb6 : Below w.heap.size w w5.drew := hbb5.drew
        clear hbd HE5 HG5 HT6 HT5 HN5 hc0 hc1 hz0 hz1 hcell5 hbb5 hb
        generalize w5.drew = w6 at *
        go_wp2_with fail
        refine (refin_opt HR.out HP0.out ys[k] (by omega)).mono ?_
        rintro e w7 ⟨v7, rfl, ⟨A7, cap7, rfl, hT7, hn7⟩, hb7⟩
        have hg7 := HG6.out.keep hb7 HG6.out.lt
        obtain ⟨hc0, hc1, hz0, hz1⟩ := hg7.cells
        obtain ⟨hgs, hof⟩ := box_store hg7 c A7 (pathOf c (ys[k] :: p)).length cap7
        have hbb7 := hbb6.trans (hb7.mono hbb6.size)
        have F1 := Lib.hid (opt_off hg7 hof (HE6.out.keep hb7))
        have F2 := Lib.hid (texts_off hg7 hof hT7)
        have F3 := Lib.hid hgs
        have F4 := Lib.hid hn7
        have F5 := Lib.hid ((hbb7.setCell (p := ⟨w3.heap.size, 0, none⟩) hg0 (.int .i64 c)).setCell (p := ⟨w3.heap.size, 1, none⟩) hg0 (.slice A7 (pathOf c (ys[k] :: p)).length cap7))
        clear hg7 hgs hof hT7 hn7 hb7 hbb7 HR HE6 HG6 hbb6
        go_wp2_with fail
        go_roundw
        case rel =>
          refine ⟨k + 1, pathOf c (ys[k] :: p), A7, cap7, by omega, by go_num, fun h => by unfold pathOf; rw [if_pos h], ?_, ?_, F1.out, F5.out, F3.out, F2.out, F4.out⟩
          · have := len_pathOf c (ys[k] :: p); simp only [List.length_cons] at this; omega
          · have h1 := tot_pathOf c (ys[k] :: p)
            have h2 := HPT.out
            rw [tot_cons] at h1
            rw [tot_take_succ ys k hlt]
            omega
        case measure => simp [intOf]; omega
      · obtain rfl : k = ys.length := by omega
        have hpm : p.length ≤ 1000000 := by omega
        have hpt : (pathText p).length ≤ 140737488355328 := by
          have h1 := text_le_tot p
          have h2 := HPT.out
          have h3 := HT.out
          rw [List.take_length] at h2
          omega
        have HM := Lib.hid hpm
        have HTL := Lib.hid hpt
        clear hpm hpt
        go_wp2_with fail
        refine (path_opt HE.out HM.out).mono ?_
        rintro e w5 ⟨v5, rfl, hown5, hb5⟩
        obtain ⟨A6, c6, rfl⟩ := own_slice hown5
        have hbb5 := hb.trans (hb5.mono hb.size)
        have O5 := Lib.hid hown5
        have T6 := Lib.hid (Texts.of_own hown5).1
        have E5 := Lib.hid (HE.out.keep hb5)
        have G5 := Lib.hid (HG.out.keep hb5 HG.out.lt)
        have T5 := Lib.hid (HT5.out.below hb5)
        have B5 := Lib.hid hb5
        have L5 := Lib.hid (HL.out.keep hbb5)
        clear hown5 hb5
        go_wp2_with fail
        have HQ := Lib.hid (And.intro (eql_nil E5.out) (guard_nil E5.out))
        have HPX : Hid (p.length ≤ 9223372036854775806) := by unfold Hid; omega
        generalize hgg : w3.heap.size = g at *
        clear hgg
        obtain ⟨E, hEE⟩ : ∃ E, u9 = E := ⟨_, rfl⟩
        subst hEE
        refine wp_region_walk (by kernel_rfl) (by kernel_rfl) (F12 u9 c g A6 A5 c6 cap5 p) (F12_keep u9 c g A6 A5 c6 cap5 p) ?_ ?_
        · have HO := E5
          have HLD := L5
          have HBX := G5
          have HT6 := T6
          have HT5 := T5
          have HP := HPX
          have HN := HN5
          refine ⟨?_, ?_, ?_, ?_, ?_, ?_, ?_, ?_, ?_, ?_, ?_, ?_, ?_, ?_, ?_, ?_, ?_, ?_, ?_, ?_, ?_, ?_, ?_, ?_, ?_, ?_, trivial⟩
          · intro a w1 hfr hdep
            have f0 : a.tmps.getD 9 undef = u9 := hfr.slot 9 (by kernel_rfl)
            refine Step.value rfl (v := u9) (w' := w1) ?_ rfl (Below.refl _ _)
            simp [go_sem, Act.eval, f0]
          · intro a w1 hfr hdep
            have hq := HQ.out.1 w1
            have hg := HQ.out.2 w1
            have e0 : a.tmps.getD 53 undef = u9 := dep_of hdep 0 53 (by kernel_rfl)
            refine Step.value rfl (v := .bool (c == 0)) (w' := w1) ?_ rfl (Below.refl _ _)
            simp [execOp, Act.eval, e0, hq, hg]
          · intro a w1 hfr hdep
            have f0 : a.tmps.getD 7 undef = .int .i64 c := hfr.slot 7 (by kernel_rfl)
            refine Step.value rfl (v := .int .i64 c) (w' := w1) ?_ rfl (Below.refl _ _)
            simp [go_sem, Act.eval, f0]
          · intro a w1 hfr hdep
            have e0 : a.tmps.getD 55 undef = .int .i64 c := dep_of hdep 2 55 (by kernel_rfl)
            refine Step.value rfl (v := .bool (c == 0)) (w' := w1) ?_ rfl (Below.refl _ _)
            simp [go_sem, Act.eval, e0]
          · intro a w1 hfr hdep
            have e0 : a.tmps.getD 54 undef = .bool (c == 0) := dep_of hdep 1 54 (by kernel_rfl)
            have e1 : a.tmps.getD 56 undef = .bool (c == 0) := dep_of hdep 3 56 (by kernel_rfl)
            refine Step.value rfl (v := .bool true) (w' := w1) ?_ rfl (Below.refl _ _)
            simp [go_sem, Act.eval, e0, e1]
          · intro a w1 hfr hdep
            have e0 : a.tmps.getD 57 undef = .bool true := dep_of hdep 4 57 (by kernel_rfl)
            refine Step.value rfl (v := .bool true) (w' := w1) ?_ rfl (Below.refl _ _)
            simp [go_sem, Act.eval, e0]
          · intro a w1 hfr hdep
            have gd : a.tmps.getD 58 undef = .bool true := dep_of hdep 5 58 (by kernel_rfl)
            have f0 : a.tmps.getD 9 undef = u9 := hfr.slot 9 (by kernel_rfl)
            refine Step.valueG (wanted_of rfl rfl gd) (v := u9) (w' := w1) ?_ rfl (Below.refl _ _)
            simp [go_sem, Act.eval, f0]
          · intro a w1 hfr hdep
            have gd : a.tmps.getD 58 undef = .bool true := dep_of hdep 5 58 (by kernel_rfl)
            have e0 : a.tmps.getD 59 undef = u9 := dep_of hdep 6 59 (by kernel_rfl)
            refine Step.callG (wanted_of rfl rfl gd) (f := 13) (args := #[u9]) ?_ ?_
            · simp [go_sem, Act.eval, e0]
            · refine (code_opt (HO.out.keep hfr.below) (HLD.out.keep hfr.below)).mono ?_
              rintro e w2 ⟨rfl, hb⟩
              exact ⟨_, rfl, rfl, hb⟩
          · intro a w1 hfr hdep
            have gd : a.tmps.getD 58 undef = .bool true := dep_of hdep 5 58 (by kernel_rfl)
            have f0 : a.tmps.getD 10 undef = .pointer (some ⟨g, 0, none⟩) := hfr.slot 10 (by kernel_rfl)
            refine Step.valueG (wanted_of rfl rfl gd) (v := .pointer (some ⟨g, 0, none⟩)) (w' := w1) ?_ rfl (Below.refl _ _)
            simp [go_sem, Act.eval, f0]
          · intro a w1 hfr hdep
            have hc := ((HBX.out.keep hfr.below HBX.out.lt).cells).1
            have gd : a.tmps.getD 58 undef = .bool true := dep_of hdep 5 58 (by kernel_rfl)
            have e0 : a.tmps.getD 61 undef = .pointer (some ⟨g, 0, none⟩) := dep_of hdep 8 61 (by kernel_rfl)
            refine Step.valueG (wanted_of rfl rfl gd) (v := .int .i64 c) (w' := w1) ?_ rfl (Below.refl _ _)
            simp [go_sem, Act.eval, e0, hc]
          · intro a w1 hfr hdep
            have gd : a.tmps.getD 58 undef = .bool true := dep_of hdep 5 58 (by kernel_rfl)
            have e0 : a.tmps.getD 60 undef = .int .i64 c := dep_of hdep 7 60 (by kernel_rfl)
            have e1 : a.tmps.getD 62 undef = .int .i64 c := dep_of hdep 9 62 (by kernel_rfl)
            refine Step.valueG (wanted_of rfl rfl gd) (v := .bool true) (w' := w1) ?_ rfl (Below.refl _ _)
            simp [go_sem, Act.eval, e0, e1]
          · intro a w1 hfr hdep
            have e0 : a.tmps.getD 58 undef = .bool true := dep_of hdep 5 58 (by kernel_rfl)
            have e1 : a.tmps.getD 63 undef = .bool true := dep_of hdep 10 63 (by kernel_rfl)
            refine Step.value rfl (v := .bool true) (w' := w1) ?_ rfl (Below.refl _ _)
            simp [go_sem, Act.eval, e0, e1]
          · intro a w1 hfr hdep
            have e0 : a.tmps.getD 64 undef = .bool true := dep_of hdep 11 64 (by kernel_rfl)
            refine Step.value rfl (v := .bool true) (w' := w1) ?_ rfl (Below.refl _ _)
            simp [go_sem, Act.eval, e0]
          · intro a w1 hfr hdep
            have gd : a.tmps.getD 65 undef = .bool true := dep_of hdep 12 65 (by kernel_rfl)
            have f0 : a.tmps.getD 12 undef = .slice A6 p.length c6 := hfr.slot 12 (by kernel_rfl)
            refine Step.valueG (wanted_of rfl rfl gd) (v := .slice A6 p.length c6) (w' := w1) ?_ rfl (Below.refl _ _)
            simp [go_sem, Act.eval, f0]
          · intro a w1 hfr hdep
            have gd : a.tmps.getD 65 undef = .bool true := dep_of hdep 12 65 (by kernel_rfl)
            have f0 : a.tmps.getD 10 undef = .pointer (some ⟨g, 0, none⟩) := hfr.slot 10 (by kernel_rfl)
            refine Step.valueG (wanted_of rfl rfl gd) (v := .pointer (some ⟨g, 1, none⟩)) (w' := w1) ?_ rfl (Below.refl _ _)
            simp [go_sem, Act.eval, f0]
          · intro a w1 hfr hdep
            have hc := ((HBX.out.keep hfr.below HBX.out.lt).cells).2.1
            have gd : a.tmps.getD 65 undef = .bool true := dep_of hdep 12 65 (by kernel_rfl)
            have e0 : a.tmps.getD 67 undef = .pointer (some ⟨g, 1, none⟩) := dep_of hdep 14 67 (by kernel_rfl)
            refine Step.valueG (wanted_of rfl rfl gd) (v := .slice A5 p.length cap5) (w' := w1) ?_ rfl (Below.refl _ _)
            simp [go_sem, Act.eval, e0, hc]
          · intro a w1 hfr hdep
            have gd : a.tmps.getD 65 undef = .bool true := dep_of hdep 12 65 (by kernel_rfl)
            have e0 : a.tmps.getD 66 undef = .slice A6 p.length c6 := dep_of hdep 13 66 (by kernel_rfl)
            have e1 : a.tmps.getD 68 undef = .slice A5 p.length cap5 := dep_of hdep 15 68 (by kernel_rfl)
            refine Step.callG (wanted_of rfl rfl gd) (f := 14) (args := #[.slice A6 p.length c6, .slice A5 p.length cap5]) ?_ ?_
            · simp [go_sem, Act.eval, e0, e1]
            · refine (same_texts A6 A5 c6 cap5 p _ (HT6.out.below hfr.below) (HT5.out.below hfr.below) HP.out).mono ?_
              rintro e w2 ⟨rfl, hb⟩
              exact ⟨_, rfl, rfl, hb⟩
          · intro a w1 hfr hdep
            have e0 : a.tmps.getD 65 undef = .bool true := dep_of hdep 12 65 (by kernel_rfl)
            have e1 : a.tmps.getD 69 undef = .bool true := dep_of hdep 16 69 (by kernel_rfl)
            refine Step.value rfl (v := .bool true) (w' := w1) ?_ rfl (Below.refl _ _)
            simp [go_sem, Act.eval, e0, e1]
          · intro a w1 hfr hdep
            have e0 : a.tmps.getD 70 undef = .bool true := dep_of hdep 17 70 (by kernel_rfl)
            refine Step.value rfl (v := .bool true) (w' := w1) ?_ rfl (Below.refl _ _)
            simp [go_sem, Act.eval, e0]
          · intro a w1 hfr hdep
            have gd : a.tmps.getD 71 undef = .bool true := dep_of hdep 18 71 (by kernel_rfl)
            have f0 : a.tmps.getD 9 undef = u9 := hfr.slot 9 (by kernel_rfl)
            refine Step.valueG (wanted_of rfl rfl gd) (v := u9) (w' := w1) ?_ rfl (Below.refl _ _)
            simp [go_sem, Act.eval, f0]
          · intro a w1 hfr hdep
            have gd : a.tmps.getD 71 undef = .bool true := dep_of hdep 18 71 (by kernel_rfl)
            have e0 : a.tmps.getD 72 undef = u9 := dep_of hdep 19 72 (by kernel_rfl)
            refine Step.callG (wanted_of rfl rfl gd) (f := 15) (args := #[u9]) ?_ ?_
            · simp [go_sem, Act.eval, e0]
            · refine (text_opt (HO.out.keep hfr.below) HM.out HTL.out).mono ?_
              rintro e w2 ⟨rfl, hb⟩
              exact ⟨_, rfl, rfl, hb⟩
          · intro a w1 hfr hdep
            obtain ⟨hc0, hc1, _⟩ := (HBX.out.keep hfr.below HBX.out.lt).cells
            have gd : a.tmps.getD 71 undef = .bool true := dep_of hdep 18 71 (by kernel_rfl)
            have f0 : a.tmps.getD 10 undef = .pointer (some ⟨g, 0, none⟩) := hfr.slot 10 (by kernel_rfl)
            refine Step.valueG (wanted_of rfl rfl gd) (v := .agg #[.int .i64 c, .slice A5 p.length cap5]) (w' := w1) ?_ rfl (Below.refl _ _)
            simp [go_sem, Act.eval, f0, hc0, hc1]
          · intro a w1 hfr hdep
            have gd : a.tmps.getD 71 undef = .bool true := dep_of hdep 18 71 (by kernel_rfl)
            have e0 : a.tmps.getD 74 undef = .agg #[.int .i64 c, .slice A5 p.length cap5] := dep_of hdep 21 74 (by kernel_rfl)
            refine Step.callG (wanted_of rfl rfl gd) (f := 16) (args := #[.agg #[.int .i64 c, .slice A5 p.length cap5]]) ?_ ?_
            · simp [go_sem, Act.eval, e0]
            · refine (reftext_any (c := c) (p := p) ⟨A5, cap5, rfl, HT5.out.below hfr.below, HN.out⟩ HM.out HTL.out).mono ?_
              rintro e w2 ⟨rfl, hb⟩
              exact ⟨_, rfl, rfl, hb⟩
          · intro a w1 hfr hdep
            have gd : a.tmps.getD 71 undef = .bool true := dep_of hdep 18 71 (by kernel_rfl)
            have e0 : a.tmps.getD 73 undef = .string ⟨(pathText p).toArray⟩ := dep_of hdep 20 73 (by kernel_rfl)
            have e1 : a.tmps.getD 75 undef = .string ⟨(pathText p).toArray⟩ := dep_of hdep 22 75 (by kernel_rfl)
            refine Step.valueG (wanted_of rfl rfl gd) (v := .bool true) (w' := w1) ?_ rfl (Below.refl _ _)
            simp [go_sem, Act.eval, e0, e1]
          · intro a w1 hfr hdep
            have e0 : a.tmps.getD 71 undef = .bool true := dep_of hdep 18 71 (by kernel_rfl)
            have e1 : a.tmps.getD 76 undef = .bool true := dep_of hdep 23 76 (by kernel_rfl)
            refine Step.value rfl (v := .bool true) (w' := w1) ?_ rfl (Below.refl _ _)
            simp [go_sem, Act.eval, e0, e1]
          · intro a w1 hfr hdep
            have e0 : a.tmps.getD 77 undef = .bool true := dep_of hdep 24 77 (by kernel_rfl)
            refine Step.value rfl (v := .bool true) (w' := w1) ?_ rfl (Below.refl _ _)
            simp [go_sem, Act.eval, e0]
        · intro v0 v1 v2 v3 v4 v5 v6 v7 v8 v9 v10 v11 v12 v13 v14 v15 v16 v17 v18 v19 v20 v21 v22 v23 v24 v25 w6 hb6 hC
          obtain rfl : v25 = .bool true := hC.2
          clear hC
          have hbb6 := hbb5.trans (hb6.mono hbb5.size)
          have O6 := Lib.hid (own_keep O5.out hb6)
          have B6 := Lib.hid (B5.out.trans (hb6.mono B5.out.size))
          clear hb6 O5
          go_wp2_with fail
          refine (spoil_texts _ _ _ _ _ O6.out HM.out).mono ?_
          rintro e w7 ⟨rfl, hb7⟩
          have B7 := B6.out.trans hb7
          have hbb7 := hb.trans (B7.mono hb.size)
          have E7 := Lib.hid (HE.out.keep B7)
          have G7 := Lib.hid (HG.out.keep B7 HG.out.lt)
          have T7 := Lib.hid (HT5.out.below B7)
          have L7 := Lib.hid (HL.out.keep hbb7)
          clear hb7 O6 B6 B7 T6 T5 E5 G5 B5 L5
          go_wp2_with fail
          refine wp_region_walk (by kernel_rfl) (by kernel_rfl) (F14 u9 c d g A5 cap5 p) (F14_keep u9 c d g A5 cap5 p) ?_ ?_
          · have HO := E7
            have HLD := L7
            have HBX := G7
            have HT5 := T7
            have HP := HPX
            refine ⟨?_, ?_, ?_, ?_, ?_, ?_, ?_, ?_, ?_, ?_, ?_, ?_, ?_, ?_, ?_, ?_, ?_, ?_, ?_, ?_, ?_, ?_, ?_, ?_, ?_, ?_, trivial⟩
            · intro a w1 hfr hdep
              have f0 : a.tmps.getD 13 undef = .bool true := hfr.slot 13 (by kernel_rfl)
              refine Step.value rfl (v := .bool true) (w' := w1) ?_ rfl (Below.refl _ _)
              simp [go_sem, Act.eval, f0]
            · intro a w1 hfr hdep
              have e0 : a.tmps.getD 80 undef = .bool true := dep_of hdep 0 80 (by kernel_rfl)
              refine Step.value rfl (v := .bool true) (w' := w1) ?_ rfl (Below.refl _ _)
              simp [go_sem, Act.eval, e0]
            · intro a w1 hfr hdep
              have gd : a.tmps.getD 81 undef = .bool true := dep_of hdep 1 81 (by kernel_rfl)
              have f0 : a.tmps.getD 9 undef = u9 := hfr.slot 9 (by kernel_rfl)
              refine Step.valueG (wanted_of rfl rfl gd) (v := u9) (w' := w1) ?_ rfl (Below.refl _ _)
              simp [go_sem, Act.eval, f0]
            · intro a w1 hfr hdep
              have gd : a.tmps.getD 81 undef = .bool true := dep_of hdep 1 81 (by kernel_rfl)
              have f0 : a.tmps.getD 8 undef = .int .i64 d := hfr.slot 8 (by kernel_rfl)
              refine Step.valueG (wanted_of rfl rfl gd) (v := .int .i64 d) (w' := w1) ?_ rfl (Below.refl _ _)
              simp [go_sem, Act.eval, f0]
            · intro a w1 hfr hdep
              have gd : a.tmps.getD 81 undef = .bool true := dep_of hdep 1 81 (by kernel_rfl)
              have e0 : a.tmps.getD 82 undef = u9 := dep_of hdep 2 82 (by kernel_rfl)
              have e1 : a.tmps.getD 83 undef = .int .i64 d := dep_of hdep 3 83 (by kernel_rfl)
              refine Step.callG (wanted_of rfl rfl gd) (f := 18) (args := #[u9, .int .i64 d]) ?_ ?_
              · simp [go_sem, Act.eval, e0, e1]
              · refine (has_opt (HO.out.keep hfr.below) d).mono ?_
                rintro e w2 ⟨rfl, hb⟩
                exact ⟨_, rfl, rfl, hb⟩
            · intro a w1 hfr hdep
              have gd : a.tmps.getD 81 undef = .bool true := dep_of hdep 1 81 (by kernel_rfl)
              have f0 : a.tmps.getD 8 undef = .int .i64 d := hfr.slot 8 (by kernel_rfl)
              refine Step.valueG (wanted_of rfl rfl gd) (v := .int .i64 d) (w' := w1) ?_ rfl (Below.refl _ _)
              simp [go_sem, Act.eval, f0]
            · intro a w1 hfr hdep
              have gd : a.tmps.getD 81 undef = .bool true := dep_of hdep 1 81 (by kernel_rfl)
              have f0 : a.tmps.getD 7 undef = .int .i64 c := hfr.slot 7 (by kernel_rfl)
              refine Step.valueG (wanted_of rfl rfl gd) (v := .int .i64 c) (w' := w1) ?_ rfl (Below.refl _ _)
              simp [go_sem, Act.eval, f0]
            · intro a w1 hfr hdep
              have hcm : (d == c) = (c == d) := Bool.beq_comm
              have gd : a.tmps.getD 81 undef = .bool true := dep_of hdep 1 81 (by kernel_rfl)
              have e0 : a.tmps.getD 85 undef = .int .i64 d := dep_of hdep 5 85 (by kernel_rfl)
              have e1 : a.tmps.getD 86 undef = .int .i64 c := dep_of hdep 6 86 (by kernel_rfl)
              refine Step.valueG (wanted_of rfl rfl gd) (v := .bool (c == d)) (w' := w1) ?_ rfl (Below.refl _ _)
              simp [go_sem, Act.eval, e0, e1, hcm]
            · intro a w1 hfr hdep
              have gd : a.tmps.getD 81 undef = .bool true := dep_of hdep 1 81 (by kernel_rfl)
              have e0 : a.tmps.getD 84 undef = .bool (c == d) := dep_of hdep 4 84 (by kernel_rfl)
              have e1 : a.tmps.getD 87 undef = .bool (c == d) := dep_of hdep 7 87 (by kernel_rfl)
              refine Step.valueG (wanted_of rfl rfl gd) (v := .bool true) (w' := w1) ?_ rfl (Below.refl _ _)
              simp [go_sem, Act.eval, e0, e1]
            · intro a w1 hfr hdep
              have e0 : a.tmps.getD 81 undef = .bool true := dep_of hdep 1 81 (by kernel_rfl)
              have e1 : a.tmps.getD 88 undef = .bool true := dep_of hdep 8 88 (by kernel_rfl)
              refine Step.value rfl (v := .bool true) (w' := w1) ?_ rfl (Below.refl _ _)
              simp [go_sem, Act.eval, e0, e1]
            · intro a w1 hfr hdep
              have e0 : a.tmps.getD 89 undef = .bool true := dep_of hdep 9 89 (by kernel_rfl)
              refine Step.value rfl (v := .bool true) (w' := w1) ?_ rfl (Below.refl _ _)
              simp [go_sem, Act.eval, e0]
            · intro a w1 hfr hdep
              have gd : a.tmps.getD 90 undef = .bool true := dep_of hdep 10 90 (by kernel_rfl)
              have f0 : a.tmps.getD 9 undef = u9 := hfr.slot 9 (by kernel_rfl)
              refine Step.valueG (wanted_of rfl rfl gd) (v := u9) (w' := w1) ?_ rfl (Below.refl _ _)
              simp [go_sem, Act.eval, f0]
            · intro a w1 hfr hdep
              have gd : a.tmps.getD 90 undef = .bool true := dep_of hdep 10 90 (by kernel_rfl)
              have f0 : a.tmps.getD 7 undef = .int .i64 c := hfr.slot 7 (by kernel_rfl)
              refine Step.valueG (wanted_of rfl rfl gd) (v := .int .i64 c) (w' := w1) ?_ rfl (Below.refl _ _)
              simp [go_sem, Act.eval, f0]
            · intro a w1 hfr hdep
              have gd : a.tmps.getD 90 undef = .bool true := dep_of hdep 10 90 (by kernel_rfl)
              have e0 : a.tmps.getD 91 undef = u9 := dep_of hdep 11 91 (by kernel_rfl)
              have e1 : a.tmps.getD 92 undef = .int .i64 c := dep_of hdep 12 92 (by kernel_rfl)
              refine Step.callG (wanted_of rfl rfl gd) (f := 18) (args := #[u9, .int .i64 c]) ?_ ?_
              · simp [go_sem, Act.eval, e0, e1]
              · refine (has_opt (HO.out.keep hfr.below) c).mono ?_
                rintro e w2 ⟨rfl, hb⟩
                exact ⟨_, rfl, by simp [F14], hb⟩
            · intro a w1 hfr hdep
              have e0 : a.tmps.getD 90 undef = .bool true := dep_of hdep 10 90 (by kernel_rfl)
              have e1 : a.tmps.getD 93 undef = .bool true := dep_of hdep 13 93 (by kernel_rfl)
              refine Step.value rfl (v := .bool true) (w' := w1) ?_ rfl (Below.refl _ _)
              simp [go_sem, Act.eval, e0, e1]
            · intro a w1 hfr hdep
              have e0 : a.tmps.getD 94 undef = .bool true := dep_of hdep 14 94 (by kernel_rfl)
              refine Step.value rfl (v := .bool true) (w' := w1) ?_ rfl (Below.refl _ _)
              simp [go_sem, Act.eval, e0]
            · intro a w1 hfr hdep
              have gd : a.tmps.getD 95 undef = .bool true := dep_of hdep 15 95 (by kernel_rfl)
              have f0 : a.tmps.getD 9 undef = u9 := hfr.slot 9 (by kernel_rfl)
              refine Step.valueG (wanted_of rfl rfl gd) (v := u9) (w' := w1) ?_ rfl (Below.refl _ _)
              simp [go_sem, Act.eval, f0]
            · intro a w1 hfr hdep
              have gd : a.tmps.getD 95 undef = .bool true := dep_of hdep 15 95 (by kernel_rfl)
              have e0 : a.tmps.getD 96 undef = u9 := dep_of hdep 16 96 (by kernel_rfl)
              refine Step.callG (wanted_of rfl rfl gd) (f := 12) (args := #[u9]) ?_ ?_
              · simp [go_sem, Act.eval, e0]
              · refine (path_opt (HO.out.keep hfr.below) HM.out).mono ?_
                rintro e w2 ⟨v, rfl, hown, hb⟩
                obtain ⟨A7, c7, rfl⟩ := own_slice hown
                exact ⟨_, rfl, ⟨A7, c7, rfl, (Texts.of_own hown).1⟩, hb⟩
            · intro a w1 hfr hdep
              have gd : a.tmps.getD 95 undef = .bool true := dep_of hdep 15 95 (by kernel_rfl)
              have f0 : a.tmps.getD 10 undef = .pointer (some ⟨g, 0, none⟩) := hfr.slot 10 (by kernel_rfl)
              refine Step.valueG (wanted_of rfl rfl gd) (v := .pointer (some ⟨g, 1, none⟩)) (w' := w1) ?_ rfl (Below.refl _ _)
              simp [go_sem, Act.eval, f0]
            · intro a w1 hfr hdep
              have hc := ((HBX.out.keep hfr.below HBX.out.lt).cells).2.1
              have gd : a.tmps.getD 95 undef = .bool true := dep_of hdep 15 95 (by kernel_rfl)
              have e0 : a.tmps.getD 98 undef = .pointer (some ⟨g, 1, none⟩) := dep_of hdep 18 98 (by kernel_rfl)
              refine Step.valueG (wanted_of rfl rfl gd) (v := .slice A5 p.length cap5) (w' := w1) ?_ rfl (Below.refl _ _)
              simp [go_sem, Act.eval, e0, hc]
            · intro a w1 hfr hdep
              have gd : a.tmps.getD 95 undef = .bool true := dep_of hdep 15 95 (by kernel_rfl)
              obtain ⟨A7, c7, e0, hT7⟩ := (dep_of hdep 17 97 (by kernel_rfl) : (fun v w => ∃ A cap, v = .slice A p.length cap ∧ Texts w A p) (a.tmps.getD 97 undef) w1)
              have e1 : a.tmps.getD 99 undef = .slice A5 p.length cap5 := dep_of hdep 19 99 (by kernel_rfl)
              refine Step.callG (wanted_of rfl rfl gd) (f := 14) (args := #[.slice A7 p.length c7, .slice A5 p.length cap5]) ?_ ?_
              · simp [go_sem, Act.eval, e0, e1]
              · refine (same_texts A7 A5 c7 cap5 p _ hT7 (HT5.out.below hfr.below) HP.out).mono ?_
                rintro e w2 ⟨rfl, hb⟩
                exact ⟨_, rfl, rfl, hb⟩
            · intro a w1 hfr hdep
              have e0 : a.tmps.getD 95 undef = .bool true := dep_of hdep 15 95 (by kernel_rfl)
              have e1 : a.tmps.getD 100 undef = .bool true := dep_of hdep 20 100 (by kernel_rfl)
              refine Step.value rfl (v := .bool true) (w' := w1) ?_ rfl (Below.refl _ _)
              simp [go_sem, Act.eval, e0, e1]
            · intro a w1 hfr hdep
              have e0 : a.tmps.getD 101 undef = .bool true := dep_of hdep 21 101 (by kernel_rfl)
              refine Step.value rfl (v := .bool true) (w' := w1) ?_ rfl (Below.refl _ _)
              simp [go_sem, Act.eval, e0]
            · intro a w1 hfr hdep
              have gd : a.tmps.getD 102 undef = .bool true := dep_of hdep 22 102 (by kernel_rfl)
              refine Step.callG (wanted_of rfl rfl gd) (f := 7) (args := #[]) ?_ ?_
              · simp [go_sem]
              · refine (works _ (HLD.out.keep hfr.below)).mono ?_
                rintro e w2 ⟨rfl, hb⟩
                exact ⟨_, rfl, rfl, hb⟩
            · intro a w1 hfr hdep
              have e0 : a.tmps.getD 102 undef = .bool true := dep_of hdep 22 102 (by kernel_rfl)
              have e1 : a.tmps.getD 103 undef = .bool true := dep_of hdep 23 103 (by kernel_rfl)
              refine Step.value rfl (v := .bool true) (w' := w1) ?_ rfl (Below.refl _ _)
              simp [go_sem, Act.eval, e0, e1]
            · intro a w1 hfr hdep
              have e0 : a.tmps.getD 104 undef = .bool true := dep_of hdep 24 104 (by kernel_rfl)
              refine Step.value rfl (v := .bool true) (w' := w1) ?_ rfl (Below.refl _ _)
              simp [go_sem, Act.eval, e0]
          · intro v0 v1 v2 v3 v4 v5 v6 v7 v8 v9 v10 v11 v12 v13 v14 v15 v16 v17 v18 v19 v20 v21 v22 v23 v24 v25 w8 hb8 hC
            obtain rfl : v25 = .bool true := hC.2
            clear hC
            go_simp
            go_wp2_with fail
            go_ret
            exact ⟨rfl, hbb7.trans (hb8.mono hbb7.size)⟩

theorem walk_long1 (c d : Int) (A B : Option Addr) (ca cb : Nat) (xs ys : List ByteArray) (w : World) (hx : (50 : Int) < (xs.length : Int)) (hL : Laid w) :
    Calls Tryd.prog 3 #[.agg #[.int .i64 c, .int .i64 d], .slice A xs.length ca, .slice B ys.length cb] w fun e w' => e = .returned (.bool true) ∧ Below w.heap.size w w' := by
  have HL := Lib.hid hL
  clear hL
  have hb0 : Below w.heap.size w (w.alloc (.cells #[.int .i64 c, .int .i64 d] 22)) := (Below.refl _ _).alloc (Nat.le_refl _) _
  go_enter Tryd.func3, Tryd.ntmps3
  go_wp2_with fail
  refine (works _ (HL.out.keep hb0)).mono ?_
  rintro e w1 ⟨rfl, hb1⟩
  go_wp2_with fail
  go_ret
  exact ⟨rfl, hb0.trans (hb1.mono hb0.size)⟩

theorem walk_long2 (c d : Int) (A B : Option Addr) (ca cb : Nat) (xs ys : List ByteArray) (w : World) (hx : ¬ (50 : Int) < (xs.length : Int)) (hy : (50 : Int) < (ys.length : Int)) (hL : Laid w) :
    Calls Tryd.prog 3 #[.agg #[.int .i64 c, .int .i64 d], .slice A xs.length ca, .slice B ys.length cb] w fun e w' => e = .returned (.bool true) ∧ Below w.heap.size w w' := by
  have HL := Lib.hid hL
  clear hL
  have hb0 : Below w.heap.size w (w.alloc (.cells #[.int .i64 c, .int .i64 d] 22)) := (Below.refl _ _).alloc (Nat.le_refl _) _
  go_enter Tryd.func3, Tryd.ntmps3
  go_wp2_with fail
  refine (works _ (HL.out.keep hb0)).mono ?_
  rintro e w1 ⟨rfl, hb1⟩
  go_wp2_with fail
  go_ret
  exact ⟨rfl, hb0.trans (hb1.mono hb0.size)⟩

theorem walk (c d : Int) (A B : Option Addr) (ca cb : Nat) (xs ys : List ByteArray) (w : World) (hA : Texts w A xs) (hB : Texts w B ys) (hAn : (A = none ∧ xs.length = 0 ∧ ca = 0) ∨ ∃ ad, A = some ad) (ht : tot xs + tot ys ≤ 1048576) (hL : Laid w) :
    Calls Tryd.prog 3 #[.agg #[.int .i64 c, .int .i64 d], .slice A xs.length ca, .slice B ys.length cb] w fun e w' => e = .returned (.bool true) ∧ Below w.heap.size w w' := by
  by_cases hx : (50 : Int) < (xs.length : Int)
  · exact walk_long1 c d A B ca cb xs ys w hx hL
  · by_cases hy : (50 : Int) < (ys.length : Int)
    · exact walk_long2 c d A B ca cb xs ys w hx hy hL
    · exact walk_main c d A B ca cb xs ys w hA hB hAn hx hy ht hL
end Go.Proofs.YtikaghinkpcknaaDoor.FailTellsWalk
