/-
  What a spec that may be comes to: what it asks for is from 0 on, its ports are ports, no one is there twice. No condition.
-/
import Derived.Test.YtbichomjpmmjmaaGreatDoorNu12
import Derived.Test.YtbichomjpmmjmaaGreatDoorNu10
import Derived.Test.YtbichomjpmmjmaaGreatDoorNu9
import Derived.Test.YtbichomjpmmjmaaGreatDoorNu8
import Derived.Deep.QuietTactic
import Derived.BigQuiet
set_option linter.unusedVariables false
set_option linter.unusedSimpArgs false
namespace Go.Proofs.YtbichomjpmmjmaaGreatDoor
open NumMath
namespace Nd
open Re Sd
theorem ports_of (ahead : List Ctr) : ∀ (l : List Int) {k : Nat} {seen : List Int}, (portsFrom ahead k seen l).1 = 0 → (∀ p ∈ l, (1 ≤ p ∧ p ≤ 65535) ∧ hasV ahead p = false ∧ p ∉ seen) ∧ l.Nodup
  | [], _, _, _ => ⟨fun p hp => (by cases hp), List.nodup_nil⟩
  | p :: l, k, seen, h => by
    unfold portsFrom at h
    split at h
    · exact absurd h (by simp)
    split at h
    · exact absurd h (by simp)
    rename_i h1 h2
    obtain ⟨h3, h4⟩ := ports_of ahead l h
    have hn : p ∉ l := fun hp => (h3 p hp).2.2 (by simp)
    simp only [Bool.or_eq_true, not_or, Bool.not_eq_true] at h2
    refine ⟨fun q hq => ?_, List.nodup_cons.2 ⟨hn, h4⟩⟩
    rcases List.mem_cons.1 hq with rfl | hq
    · exact ⟨by omega, h2.1, by simpa using h2.2⟩
    · obtain ⟨g1, g2, g3⟩ := h3 q hq
      exact ⟨g1, g2, fun hs => g3 (by simp [hs])⟩
theorem one_ports {x : Ctr} {ahead : List Ctr} {i : Bool} (h : (oneV x ahead i).1 = 0) : (∀ p ∈ x.ports, (1 ≤ p ∧ p ≤ 65535) ∧ hasV ahead p = false) ∧ x.ports.Nodup := by
  unfold oneV at h
  split at h
  · exact absurd h (by simp)
  split at h
  · exact absurd h (by simp)
  split at h
  · exact absurd h (by simp)
  split at h
  · exact absurd h (by simp)
  split at h
  · exact absurd h (by simp)
  split at h
  · exact absurd h (by simp)
  split at h
  · rename_i h7; exact absurd h h7
  rename_i h7
  obtain ⟨h8, h9⟩ := ports_of ahead x.ports (Decidable.byContradiction h7)
  exact ⟨fun p hp => ⟨(h8 p hp).1, (h8 p hp).2.1⟩, h9⟩
theorem has_snoc (l : List Ctr) (x : Ctr) (p : Int) : hasV (l ++ [x]) p = (hasV l p || x.ports.contains p) := by simp [hasV]
theorem ctrs_ports (name : ByteArray) (i : Bool) : ∀ (l : List Ctr) {n : Nat} {ahead : List Ctr}, (ctrsFrom name i n ahead l).1 = 0 → (∀ p ∈ l.flatMap (·.ports), (1 ≤ p ∧ p ≤ 65535) ∧ hasV ahead p = false) ∧ (l.flatMap (·.ports)).Nodup
  | [], _, _, _ => ⟨fun p hp => (by cases hp), List.nodup_nil⟩
  | y :: l, n, ahead, h => by
    unfold ctrsFrom at h
    split at h
    · rename_i h1; exact absurd h h1
    · rename_i h1
      obtain ⟨h2, h3⟩ := one_ports (Decidable.byContradiction h1)
      obtain ⟨h4, h5⟩ := ctrs_ports name i l h
      rw [List.flatMap_cons]
      refine ⟨fun p hp => ?_, List.nodup_append.2 ⟨h3, h5, fun a ha b hb e => ?_⟩⟩
      · rcases List.mem_append.1 hp with hp | hp
        · exact h2 p hp
        · have := (h4 p hp).2
          rw [has_snoc, Bool.or_eq_false_iff] at this
          exact ⟨(h4 p hp).1, this.1⟩
      · subst e
        have := (h4 a hb).2
        rw [has_snoc, Bool.or_eq_false_iff] at this
        rw [List.contains_iff_mem.2 ha] at this
        exact absurd this.2 (by decide)
theorem one_few {x : Ctr} {ahead : List Ctr} {i : Bool} (h : (oneV x ahead i).1 = 0) : x.ports.length ≤ 3 := by
  unfold oneV at h
  split at h
  · exact absurd h (by simp)
  split at h
  · exact absurd h (by simp)
  split at h
  · exact absurd h (by simp)
  split at h
  · exact absurd h (by simp)
  split at h
  · exact absurd h (by simp)
  split at h
  · exact absurd h (by simp)
  rename_i h6
  omega
theorem few_ports (name : ByteArray) (i : Bool) : ∀ (l : List Ctr) {n : Nat} {ahead : List Ctr}, (ctrsFrom name i n ahead l).1 = 0 → ∀ x ∈ l, x.ports.length ≤ 3
  | [], _, _, _, x, hx => by cases hx
  | y :: l, n, ahead, h, x, hx => by
    unfold ctrsFrom at h
    split at h
    · rename_i h1; exact absurd h h1
    · rename_i h1
      rcases List.mem_cons.1 hx with rfl | hx
      · exact one_few (Decidable.byContradiction h1)
      · exact few_ports name i l h x hx
theorem check_main {S : Spc} (h : (checkV S).1 = 0) : (ctrsFrom t_main false 0 S.init S.main).1 = 0 := by
  unfold checkV at h
  split at h
  · exact absurd h (by decide)
  split at h
  · rename_i h1; exact absurd h h1
  split at h
  · exact absurd h (by decide)
  split at h
  · rename_i h1; exact absurd h h1
  split at h
  · exact absurd h (by decide)
  split at h
  · rename_i h1; exact absurd h h1
  rename_i h4
  exact Decidable.byContradiction h4
/-- what may be is as Ask.Ok says, and its sum can be made -/
theorem ask_ok {S : Spc} (h : (askS S).right = true) : (askS S).Ok ∧ (ofR (S.init.map rq) (S.main.map rq)).2 = true ∧ (askS S).ports.length ≤ 12 := by
  have h0 : (checkV S).1 = 0 := of_decide_eq_true h
  obtain ⟨h1, h2, h3, h4⟩ := checked h0
  obtain ⟨h5, h6⟩ := ctrs_ports _ _ _ (check_main h0)
  have hb : (big : Int) = 1099511627776 := rfl
  have hM := in_map h4
  have S1 := of_in (k := big) (by decide) (i := S.init.map rq) hM (by rw [List.length_map, hb]; omega)
  obtain ⟨⟨q1, _⟩, ⟨q2, _⟩, q3, _⟩ := tot_le (k := big) (by decide) hM
  have hg := fitsR_iff.1 (maxL_ge (S.init.map rq) ⟨tot Rx.c (S.main.map rq), tot Rx.m (S.main.map rq), tot Rx.p (S.main.map rq)⟩).1
  have hl : (S.main.flatMap (·.ports)).length ≤ 12 := by
    have h3l : ∀ x ∈ S.main, x.ports.length ≤ 3 := few_ports _ _ _ (check_main h0)
    have : ∀ l : List Ctr, (∀ x ∈ l, x.ports.length ≤ 3) → (l.flatMap (·.ports)).length ≤ l.length * 3 := fun l => by
      induction l with
      | nil => intro _; simp
      | cons x l ih =>
        intro hl
        have := hl x (by simp)
        have := ih fun y hy => hl y (by simp [hy])
        rw [List.flatMap_cons, List.length_append, List.length_cons]
        omega
    have := this S.main h3l
    omega
  refine ⟨⟨?_, ?_, ?_, fun p hp => (h5 p hp).1, h6⟩, by rw [S1], hl⟩
  · show 0 ≤ (ofR (S.init.map rq) (S.main.map rq)).1.c
    rw [S1]; exact Int.le_trans q1 hg.1
  · show 0 ≤ (ofR (S.init.map rq) (S.main.map rq)).1.m
    rw [S1]; exact Int.le_trans q2 hg.2.1
  · show 0 ≤ (ofR (S.init.map rq) (S.main.map rq)).1.p
    rw [S1]; exact Int.le_trans q3 hg.2.2
end Nd
end Go.Proofs.YtbichomjpmmjmaaGreatDoor

/-
  The contract of spec.Labels: what is said of labels. All that was there is left as it was. Conditions: as SpecStep; the texts are short.
-/
namespace Go.Proofs.YtbichomjpmmjmaaGreatDoor
open Go.ChangeShapes Go.WideShapes Go.ChangeAt Go.RowKit Go.Lib
open Sd Lists
namespace SpecOwn
theorem cell_new (w : World) (v : Value) (t : TypeId) : (w.alloc (.cells #[v] t)).cell? ⟨w.heap.size, 0, none⟩ = some v := by simp
theorem less_total : ∀ a b : List UInt8, (Op.bytesLess a b || (a == b)) = !(Op.bytesLess b a)
  | [], [] => rfl
  | [], b :: y => by simp [Op.bytesLess]
  | a :: x, [] => by simp [Op.bytesLess]
  | a :: x, b :: y => by
    have ih := less_total x y
    simp only [Op.bytesLess]
    by_cases h1 : a = b
    · subst h1
      simpa using ih
    · have h2 : (a == b) = false := by simpa using h1
      have h3 : (b == a) = false := by simpa using fun e => h1 e.symm
      have h4 : (a :: x == b :: y) = false := by simp [h1]
      rw [h4]
      simp only [h2, h3, Bool.false_and, Bool.or_false]
      have : ¬ (a < b) ↔ b < a := by
        constructor
        · intro h; exact UInt8.lt_of_le_of_ne (UInt8.not_lt.1 h) (fun e => h1 e.symm)
        · intro h h'; exact absurd (UInt8.lt_trans h h') (UInt8.lt_irrefl _)
      by_cases h : a < b
      · have h' : ¬ b < a := fun e => (this.2 e) h
        simp [h, h']
      · have h' : b < a := this.1 h
        simp [h, h']
def LBox (x : Lbl) (w : World) (b : Nat) : Prop := w.heap[b]? = some (.cells #[.string x.key, .string x.val] 70 (0, 0))
theorem LBox.keep {x : Lbl} {w w' : World} {b : Nat} (h : LBox x w b) (hb : Below w.heap.size w w') : LBox x w' b := (hb.block b (lt_of_block h)).trans h
set_option maxRecDepth 100000 in
set_option maxHeartbeats 4000000 in
theorem labels_gen (name : ByteArray) (A : Option Addr) (cap : Nat) (l : List Lbl) (hn : name.size ≤ 1000) (hl : l.length ≤ 9223372036854775807) (hlight : ∀ x ∈ l, x.key.size < 4294967281 ∧ x.val.size ≤ 4294967281) (w : World) (hL : SLaid w) (h : Lbls w A l) :
    Calls Tryz.prog 76 #[.string name, .slice A l.length cap] w (Tells (labelsV name l) w) := by
  have H := Lib.hid h
  have HLI := Lib.hid hlight
  have HN := Lib.hid hn
  have HL := Lib.hid hL
  have hl' : (l.length : Int) ≤ 9223372036854775807 := by omega
  clear h hlight hL
  have said : ∀ (c : Int) (s : ByteArray) (w1 : World), c ≠ 0 → labelsV name l = (c, s) → Below w.heap.size w w1 → ∀ e w2, Tells (newV c s) w1 e w2 → Tells (labelsV name l) w e w2 := by
    intro c s w1 h0 he hb e w2 ht
    rw [he]
    have : newV c s = (c, s) := if_neg h0
    rw [← this]
    exact tells_mono ht hb
  have SAID := Lib.hid said
  clear said
  by_cases h4 : 4 < l.length
  · have HE := Lib.hid (show labelsV name l = (2, name) by unfold labelsV; rw [if_pos h4])
    go_enter Tryz.func76, Tryz.ntmps76
    go_wp2_with fail
    refine (new_says 2 name w.heap.size 1 _ (by omega) (by simp)).mono ?_
    rintro e w2 hE
    have HX := Lib.hid (SAID.out 2 name _ (by decide) HE.out ((Below.refl w.heap.size w).alloc (Nat.le_refl _) _) e w2 hE)
    obtain ⟨E, rfl, _⟩ := hE
    go_wp2_with fail
    go_ret
    exact HX.out
  · have HE := Lib.hid (show SpecRef.LHere name l 0 by unfold SpecRef.LHere labelsV; rw [if_neg h4]; rfl)
    have H4 := Lib.hid h4
    go_enter Tryz.func76, Tryz.ntmps76
    go_wp2_with fail
    go_loopw [18] (fun i wr => ∃ k : Nat, k ≤ l.length ∧ i = .int .i64 k ∧ Hid (SpecRef.LHere name l k) ∧ Hid (Below w.heap.size w wr)) (fun i _ => l.length - (RowKit.intOf i).toNat)
    case atStart => exact ⟨0, Nat.zero_le _, rfl, HE.out, Below.refl _ _⟩
    case round =>
      obtain ⟨k, hk, rfl, HK, HW⟩ := hrel
      by_cases hlt : k < l.length
      · obtain ⟨p, rfl, hp, hc⟩ := (H.out.below HW.out).at hlt
        obtain ⟨x, hx⟩ : ∃ x, l[k] = x := ⟨_, rfl⟩
        rw [hx] at hc
        have hxm : x ∈ l := hx ▸ List.getElem_mem hlt
        have hkx := (HLI.out x hxm).1
        have hvx := (HLI.out x hxm).2
        obtain ⟨c0, c1⟩ := hc
        have HX := Lib.hid hx
        clear hx hxm
        have hkn : (k : Int) < (l.length : Int) := by omega
        have HS := Lib.hid (show labelsV name l = labelsFrom name k (if k = 0 then none else l[k - 1]?) (x :: l.drop (k + 1)) by
          have := HK.out
          unfold SpecRef.LHere at this
          rw [this, List.drop_eq_getElem_cons hlt, HX.out])
        have hks := HN.out
        have hasz := SpecRef.atB_size name k (by omega)
        go_wp2_with fail
        obtain ⟨w3, hw3⟩ : ∃ w3, wr.alloc (.cells #[.string x.key, .string x.val] 70) = w3 := ⟨_, rfl⟩
        have hb3 : Below wr.heap.size wr w3 := by rw [← hw3]; exact (Below.refl _ _).alloc (Nat.le_refl _) _
        have HBX3 := Lib.hid (show LBox x w3 wr.heap.size by rw [← hw3]; exact heap_alloc_new wr _)
        have HW3 := Lib.hid (HW.out.trans (hb3.mono HW.out.size))
        rw [hw3]
        obtain ⟨bx, hbx⟩ : ∃ b, wr.heap.size = b := ⟨_, rfl⟩
        rw [hbx] at HBX3 ⊢
        clear hw3 hbx hb3 c0 c1 hp
        refine (member_any name k (by omega) (by omega) w3 (HL.out.below HW3.out).tab).mono ?_
        rintro e w4 ⟨rfl, hb4⟩
        have HBX4 := Lib.hid (HBX3.out.keep hb4)
        have HW4 := Lib.hid (HW3.out.trans (hb4.mono HW3.out.size))
        obtain ⟨u, hu⟩ : ∃ u, atB name k = u := ⟨_, rfl⟩
        rw [hu] at hasz ⊢
        have HU := Lib.hid hu
        have hadd1 : ∀ v, (Op.stringOp .add u ⟨#[46, 107, 101, 121]⟩).run Tryz.prog v = .ok (.string (u ++ ⟨#[46, 107, 101, 121]⟩)) v := fun v => run_string_add_sum v _ _ (by show _ + 4 ≤ _; omega)
        have hadd2 : ∀ v, (Op.stringOp .add u ⟨#[46, 118, 97, 108]⟩).run Tryz.prog v = .ok (.string (u ++ ⟨#[46, 118, 97, 108]⟩)) v := fun v => run_string_add_sum v _ _ (by show _ + 4 ≤ _; omega)
        have hkz : (u ++ ⟨#[46, 107, 101, 121]⟩ : ByteArray).size ≤ 100000 := by rw [ByteArray.size_append]; show _ + 4 ≤ _; omega
        have hvz : (u ++ ⟨#[46, 118, 97, 108]⟩ : ByteArray).size ≤ 100000 := by rw [ByteArray.size_append]; show _ + 4 ≤ _; omega
        obtain ⟨d0, d1, _, _⟩ := two_cells HBX4.out
        clear hb4 hu
        go_wp2_with fail
        refine (Text.key_any x.key (by omega) w4 (HL.out.below HW4.out).text).mono ?_
        rintro e w5 ⟨rfl, hb5⟩
        have HBX5 := Lib.hid (HBX4.out.keep hb5)
        have HW5 := Lib.hid (HW4.out.trans (hb5.mono HW4.out.size))
        clear hb5 d0 d1
        cases hkey : TextPure.keyL x.key.data.toList with
        | false =>
          have HC : Hid (Text.codeN false 31 = 31) := Lib.hid rfl
          rw [HC.out]
          have HD := Lib.hid (show labelsV name l = (31, u ++ t_key) by rw [HS.out, labelsFrom_cons, if_pos (show isKey x.key = false from hkey), HU.out])
          clear hkey
          go_wp2_with fail
          refine (new_says 31 (u ++ t_key) w5.heap.size 1 _ hkz (by simp [t_key])).mono ?_
          rintro e w6 hE
          have HF := Lib.hid (SAID.out 31 _ _ (by decide) HD.out (HW5.out.alloc HW5.out.size _) e w6 hE)
          obtain ⟨E, rfl, _⟩ := hE
          go_wp2_with fail
          go_ret
          exact HF.out
        | true =>
          have HC : Hid (Text.codeN true 31 = 0) := Lib.hid rfl
          rw [HC.out]
          have HKEY := Lib.hid hkey
          clear hkey
          obtain ⟨d0, d1, _, _⟩ := two_cells HBX5.out
          obtain ⟨o, ho⟩ : ∃ o, notMore (if k = 0 then none else l[k - 1]?) x = o := ⟨_, rfl⟩
          have HO := Lib.hid ho
          rcases k with _ | m
          · have ho' : o = false := by rw [← ho]; rfl
            subst ho'
            clear ho
            go_wp2_with fail
            go_quiet (fail)
            go_wp2_with fail
            refine (Text.val_any x.val (by unfold maxLen; omega) _ (HL.out.below (HW5.out.trans ((Kit.below_drewN _ _ _).mono HW5.out.size))).text).mono ?_
            rintro e w6 ⟨rfl, rfl⟩
            cases hval : TextPure.valL x.val.data.toList with
            | false =>
              have HC2 : Hid (Text.codeN false 32 = 32) := Lib.hid rfl
              rw [HC2.out]
              have HD := Lib.hid (show labelsV name l = (32, u ++ t_val) by rw [HS.out, labelsFrom_cons, if_neg (show ¬ isKey x.key = false by show ¬ TextPure.keyL _ = _; rw [HKEY.out]; simp), if_neg (show ¬ notMore _ x = true by rw [HO.out]; simp), if_pos (show isVal x.val = false from hval), HU.out])
              clear hval
              go_wp2_with fail
              refine (new_says 32 (u ++ t_val) _ 1 _ hvz (cell_new _ _ _)).mono ?_
              rintro e w7 hE
              have HF := Lib.hid (SAID.out 32 _ _ (by decide) HD.out (HW5.out.trans (((Kit.below_drewN _ _ _).alloc (Nat.le_refl _) _).mono HW5.out.size)) e w7 hE)
              obtain ⟨E, rfl, _⟩ := hE
              go_wp2_with fail
              go_ret
              exact HF.out
            | true =>
              have HC2 : Hid (Text.codeN true 32 = 0) := Lib.hid rfl
              rw [HC2.out]
              have HNX := Lib.hid (show SpecRef.LHere name l (0 + 1) by
                unfold SpecRef.LHere
                rw [HS.out, labelsFrom_cons, if_neg (show ¬ isKey x.key = false by show ¬ TextPure.keyL _ = _; rw [HKEY.out]; simp), if_neg (show ¬ notMore _ x = true by rw [HO.out]; simp), if_neg (show ¬ isVal x.val = false by show ¬ TextPure.valL _ = _; rw [hval]; simp), if_neg (by omega), show 0 + 1 - 1 = 0 by omega, List.getElem?_eq_getElem hlt, HX.out])
              clear hval
              go_wp2
              go_roundw
              case rel => exact ⟨0 + 1, by omega, by go_num, HNX.out, HW5.out.trans ((Kit.below_drewN _ _ _).mono HW5.out.size)⟩
              case measure => simp [RowKit.intOf]; omega
          · obtain ⟨p', hpp, hpb, hcp⟩ := (H.out.below HW5.out).at (k := m) (by omega)
            injection hpp with hpp
            subst hpp
            obtain ⟨y, hy⟩ : ∃ y, l[m] = y := ⟨_, rfl⟩
            have ho' : o = !(Op.bytesLess y.key.toList x.key.toList) := by
              rw [← ho, if_neg (by omega), show m + 1 - 1 = m by omega, List.getElem?_eq_getElem (by omega), hy]; rfl
            rw [hy] at hcp
            obtain ⟨g0, g1⟩ := hcp
            have hwr : IntKind.i64.wrap (m : Int) = (m : Int) := IntWalk.i64_in _ (by omega)
            have hm0 : (0 : Int) ≤ (m : Int) := by omega
            have hmn : (m : Int) < (l.length : Int) := by omega
            have hmn1 : (m : Int) + 1 < (l.length : Int) := by omega
            have hmn2 : m < l.length := by omega
            have hp0 : (0 : Int) ≤ (m : Int) + 1 := by omega
            have hp1 : ((m : Int) + 1).toNat = m + 1 := by omega
            clear ho hy g1
            cases o with
            | true =>
              have hbl : Op.bytesLess y.key.toList x.key.toList = false := by simpa using ho'.symm
              have hge : ∀ v, (binOp .leq 9 (.string x.key) (.string y.key)).run Tryz.prog v = .ok (.bool true) v := fun v => by
                have ht := less_total x.key.toList y.key.toList
                rw [hbl] at ht
                simp [binOp, Op.stringOp]; simpa using ht
              clear ho' hbl
              go_wp2_with fail
              go_quiet (fail)
              have HD := Lib.hid (show labelsV name l = (4, u ++ t_key) by rw [HS.out, labelsFrom_cons, if_neg (show ¬ isKey x.key = false by show ¬ TextPure.keyL _ = _; rw [HKEY.out]; simp), if_pos HO.out, HU.out])
              go_wp2_with fail
              refine (new_says 4 (u ++ t_key) _ 1 _ hkz (cell_new _ _ _)).mono ?_
              rintro e w7 hE
              have HF := Lib.hid (SAID.out 4 _ _ (by decide) HD.out (HW5.out.trans (((Kit.below_drewN _ _ _).alloc (Nat.le_refl _) _).mono HW5.out.size)) e w7 hE)
              obtain ⟨E, rfl, _⟩ := hE
              go_wp2_with fail
              go_ret
              exact HF.out
            | false =>
              have hbl : Op.bytesLess y.key.toList x.key.toList = true := by simpa using ho'.symm
              have hge : ∀ v, (binOp .leq 9 (.string x.key) (.string y.key)).run Tryz.prog v = .ok (.bool false) v := fun v => by
                have ht := less_total x.key.toList y.key.toList
                rw [hbl] at ht
                simp [binOp, Op.stringOp]; simpa using ht
              clear ho' hbl
              go_wp2_with fail
              go_quiet (fail)
              go_wp2_with fail
              refine (Text.val_any x.val (by unfold maxLen; omega) _ (HL.out.below (HW5.out.trans ((Kit.below_drewN _ _ _).mono HW5.out.size))).text).mono ?_
              rintro e w6 ⟨rfl, rfl⟩
              cases hval : TextPure.valL x.val.data.toList with
              | false =>
                have HC2 : Hid (Text.codeN false 32 = 32) := Lib.hid rfl
                rw [HC2.out]
                have HD := Lib.hid (show labelsV name l = (32, u ++ t_val) by rw [HS.out, labelsFrom_cons, if_neg (show ¬ isKey x.key = false by show ¬ TextPure.keyL _ = _; rw [HKEY.out]; simp), if_neg (show ¬ notMore _ x = true by rw [HO.out]; simp), if_pos (show isVal x.val = false from hval), HU.out])
                clear hval
                go_wp2_with fail
                refine (new_says 32 (u ++ t_val) _ 1 _ hvz (cell_new _ _ _)).mono ?_
                rintro e w7 hE
                have HF := Lib.hid (SAID.out 32 _ _ (by decide) HD.out (HW5.out.trans (((Kit.below_drewN _ _ _).alloc (Nat.le_refl _) _).mono HW5.out.size)) e w7 hE)
                obtain ⟨E, rfl, _⟩ := hE
                go_wp2_with fail
                go_ret
                exact HF.out
              | true =>
                have HC2 : Hid (Text.codeN true 32 = 0) := Lib.hid rfl
                rw [HC2.out]
                have HNX := Lib.hid (show SpecRef.LHere name l ((m + 1) + 1) by
                  unfold SpecRef.LHere
                  rw [HS.out, labelsFrom_cons, if_neg (show ¬ isKey x.key = false by show ¬ TextPure.keyL _ = _; rw [HKEY.out]; simp), if_neg (show ¬ notMore _ x = true by rw [HO.out]; simp), if_neg (show ¬ isVal x.val = false by show ¬ TextPure.valL _ = _; rw [hval]; simp), if_neg (by omega), show (m + 1) + 1 - 1 = (m + 1) by omega, List.getElem?_eq_getElem hlt, HX.out])
                clear hval
                go_wp2
                go_roundw
                case rel => exact ⟨(m + 1) + 1, by omega, by go_num, HNX.out, HW5.out.trans ((Kit.below_drewN _ _ _).mono HW5.out.size)⟩
                case measure => simp [RowKit.intOf]; omega
      · have HD := Lib.hid (show labelsV name l = fine by have := HK.out; unfold SpecRef.LHere at this; rw [this, List.drop_eq_nil_of_le (by omega)]; rfl)
        go_wp2
        go_ret
        rw [HD.out]
        exact told_fine _ _ HW.out
theorem labels_any (name : ByteArray) (A : Option Addr) (cap : Nat) (l : List Lbl) (hn : name.size ≤ 1000) (hl : l.length ≤ 9223372036854775807) (hlight : ∀ x ∈ l, x.key.size ≤ 100 ∧ x.val.size ≤ 100) (w : World) (hL : SLaid w) (h : Lbls w A l) :
    Calls Tryz.prog 76 #[.string name, .slice A l.length cap] w (Tells (labelsV name l) w) :=
  labels_gen name A cap l hn hl (fun x hx => by have := hlight x hx; omega) w hL h
end SpecOwn
end Go.Proofs.YtbichomjpmmjmaaGreatDoor

/-
  The contract of spec.Check: what is said of a spec is the document's word. All that was there is left as it was. Conditions: as SpecStep; the spec is light (Book.Light).
-/
namespace Go.Proofs.YtbichomjpmmjmaaGreatDoor
open Go.ChangeShapes Go.WideShapes Go.ChangeAt Go.RowKit Go.Lib
open Sd Lists SpecRef
namespace SpecOwn
theorem kb0 {D : Nat → Prop} {w w' : World} (hb : Below w.heap.size w w') : ∀ b, D b → b < w.heap.size → KB 0 w' b ∧ w'.heap[b]? = w.heap[b]? := fun b _ hl => ⟨Nat.zero_le b, hb.block b hl⟩
/-! the document's word -/
theorem listN_init (l : List Ctr) : listN t_init 0 3 0 0 [] [] l = if 3 < l.length then (2, t_init) else ctrsFrom t_init true 0 [] l := by
  unfold listN
  have := listFrom_eq t_init true l 0 []
  simp only [List.map_nil, List.flatMap_nil, if_true] at this
  rw [this]
  by_cases h : 3 < l.length
  · rw [if_pos h, if_pos (by omega)]
  · rw [if_neg h, if_neg (by omega)]
theorem listN_main (a l : List Ctr) : listN t_main 1 4 3 1000 (a.map (·.name)) (a.flatMap (·.ports)) l = if l.length < 1 ∨ 4 < l.length then (2, t_main) else ctrsFrom t_main false 0 a l := by
  unfold listN
  have := listFrom_eq t_main false l 0 a
  simp only [Bool.false_eq_true, if_false] at this
  rw [this]
  by_cases h : l.length < 1 ∨ 4 < l.length
  · rw [if_pos h, if_pos (by omega)]
  · rw [if_neg h, if_neg (by omega)]
theorem check_eq (S : Spc) (y1 y2 : Say) (h1 : y1 = listN t_init 0 3 0 0 [] [] S.init) (h2 : y1.1 = 0 → y2 = listN t_main 1 4 3 1000 (S.init.map (·.name)) (S.init.flatMap (·.ports)) S.main) :
    firstV [newV (Text.codeN (TextPure.nameL S.name.data.toList) 30) t_name, labelsV t_labels S.labels, y1, y2, withinV S.restart 1 3 t_restart, withinV S.grace 0 1000 t_grace, withinV S.prio 0 10 t_prio] = checkV S := by
  rw [listN_init] at h1
  simp only [listN_main] at h2
  unfold checkV
  have e0 : newV (Text.codeN (TextPure.nameL S.name.data.toList) 30) t_name = if isName S.name = false then (30, t_name) else fine := by
    unfold isName Text.codeN newV
    cases TextPure.nameL S.name.data.toList <;> rfl
  rw [e0]
  simp only [firstV_cons, firstV_nil]
  by_cases a1 : isName S.name = false
  · simp [a1]
  · by_cases a2 : (labelsV t_labels S.labels).1 = 0
    · by_cases a3 : y1.1 = 0
      · have a3' := h2 a3
        have b1 : ¬ 3 < S.init.length := fun h => by rw [h1, if_pos h] at a3; simp at a3
        rw [if_neg b1] at h1
        have b2 : (ctrsFrom t_init true 0 [] S.init).1 = 0 := h1 ▸ a3
        by_cases b3 : S.main.length < 1 ∨ 4 < S.main.length
        · rw [if_pos b3] at a3'
          simp only [a1, a2, a3, a3', b1, b2, b3, fine, if_true, if_false, ne_eq, not_true_eq_false]
          rfl
        · rw [if_neg b3] at a3'
          subst a3'
          by_cases b4 : (ctrsFrom t_main false 0 S.init S.main).1 = 0
          · simp only [a1, a2, a3, b1, b2, b3, b4, fine, if_true, if_false, ne_eq, not_true_eq_false, tailV, withinV]
            by_cases c1 : S.restart < 1 ∨ 3 < S.restart
            · simp [c1]
            · by_cases c2 : S.grace < 0 ∨ 1000 < S.grace
              · simp [c1, c2]
              · by_cases c3 : S.prio < 0 ∨ 10 < S.prio
                · simp [c1, c2, c3]
                · simp [c1, c2, c3]
          · simp only [a1, a2, a3, b1, b2, b3, b4, fine, if_true, if_false, ne_eq, not_true_eq_false, not_false_eq_true, Bool.true_eq_false]
      · by_cases b1 : 3 < S.init.length
        · rw [if_pos b1] at h1
          subst h1
          simp [a1, a2, b1, fine]
        · rw [if_neg b1] at h1
          subst h1
          simp [a1, a2, a3, b1, fine]
    · simp [a1, a2, fine]
/-- a call ends with what says y -/
def TellsA (y : Say) (w : World) (e : Ending) (w' : World) : Prop := ∃ E, e = .returned E ∧ Says (KB 0 w') w' E y ∧ Below w.heap.size w w'
/-- what each operation leaves -/
def FCheck (b1 : Nat) (S : Spc) (LA : Option Addr) (lc : Nat) (y1 y2 : Say) : Nat → Value → World → Prop
  | 0 => fun v _ => v = .pointer (some ⟨b1, 0, none⟩)
  | 1 => fun v _ => v = .string S.name
  | 2 => fun v _ => v = .int .i64 (Text.codeN (TextPure.nameL S.name.data.toList) 30)
  | 3 => TextK (KB 0) t_name
  | 4 => SaysK (KB 0) (newV (Text.codeN (TextPure.nameL S.name.data.toList) 30) t_name)
  | 5 => fun v _ => v = .pointer (some ⟨b1, 1, none⟩)
  | 6 => fun v _ => v = .slice LA S.labels.length lc
  | 7 => SaysK (KB 0) (labelsV t_labels S.labels)
  | 8 => SaysK (KB 0) (y1)
  | 9 => SaysK (KB 0) (y2)
  | 10 => fun v _ => v = .pointer (some ⟨b1, 4, none⟩)
  | 11 => fun v _ => v = .int .i64 S.restart
  | 12 => SaysK (KB 0) (withinV S.restart 1 3 t_restart)
  | 13 => fun v _ => v = .pointer (some ⟨b1, 5, none⟩)
  | 14 => fun v _ => v = .int .i64 S.grace
  | 15 => SaysK (KB 0) (withinV S.grace 0 1000 t_grace)
  | 16 => fun v _ => v = .pointer (some ⟨b1, 6, none⟩)
  | 17 => fun v _ => v = .int .i64 S.prio
  | 18 => SaysK (KB 0) (withinV S.prio 0 10 t_prio)
  | 19 => RowK (KB 0) [newV (Text.codeN (TextPure.nameL S.name.data.toList) 30) t_name, labelsV t_labels S.labels, y1, y2, withinV S.restart 1 3 t_restart, withinV S.grace 0 1000 t_grace, withinV S.prio 0 10 t_prio]
  | 20 => SaysK (KB 0) (firstV [newV (Text.codeN (TextPure.nameL S.name.data.toList) 30) t_name, labelsV t_labels S.labels, y1, y2, withinV S.restart 1 3 t_restart, withinV S.grace 0 1000 t_grace, withinV S.prio 0 10 t_prio])
  | _ => SaysK (KB 0) (firstV [newV (Text.codeN (TextPure.nameL S.name.data.toList) 30) t_name, labelsV t_labels S.labels, y1, y2, withinV S.restart 1 3 t_restart, withinV S.grace 0 1000 t_grace, withinV S.prio 0 10 t_prio])
theorem FCheck_keep (b1 : Nat) (S : Spc) (LA : Option Addr) (lc : Nat) (y1 y2 : Say) (i : Nat) (v : Value) (w w' : World) (h : FCheck b1 S LA lc y1 y2 i v w) (hb : Below w.heap.size w w') : FCheck b1 S LA lc y1 y2 i v w' := by
  unfold FCheck at h ⊢
  split at h <;> first | exact h | exact TextK.keep h (kb_keep hb) | exact SaysK.keep h (kb_keep hb) | exact RowK.keep h (kb_keep hb)
set_option maxRecDepth 100000 in
set_option maxHeartbeats 4000000 in
theorem check_any (S : Spc) (LA : Option Addr) (lc : Nat) (IA : Option Addr) (ic : Nat) (MA : Option Addr) (mc : Nat) (hLt : Book.Light S) (w : World) (hL : SLaid w) (h : S.In w LA lc IA ic MA mc) :
    Calls Tryz.prog 45 #[.agg #[.string S.name, .slice LA S.labels.length lc, .slice IA S.init.length ic, .slice MA S.main.length mc, .int .i64 S.restart, .int .i64 S.grace, .int .i64 S.prio]] w (TellsA (checkV S) w) := by
  have HL := Lib.hid hL
  have H := Lib.hid h
  have HLT := Lib.hid hLt
  have hnl := h.nl
  have hns : S.name.size ≤ 100 := hLt.1.1
  clear hL h hLt
  go_enter Tryz.func45, Tryz.ntmps45
  go_wp2_with fail
  obtain ⟨w3, hw3⟩ : ∃ w3, (w.alloc (.cells #[.string S.name, .slice LA S.labels.length lc, .slice IA S.init.length ic, .slice MA S.main.length mc, .int .i64 S.restart, .int .i64 S.grace, .int .i64 S.prio] 35)).alloc (.cells #[.slice none 0 0, .slice none 0 0] 120) = w3 := ⟨_, rfl⟩
  have hb3 : Below w.heap.size w w3 := by rw [← hw3]; exact ((Below.refl _ _).alloc (Nat.le_refl _) _).alloc (by simp) _
  have HB3 := Lib.hid hb3
  have HSB3 := Lib.hid (show SBox S LA lc IA ic MA mc w3 w.heap.size by
    unfold SBox
    rw [← hw3, Below.heap_alloc _ _ _ (by simp)]; exact heap_alloc_new w _)
  have HT3 := Lib.hid (show Tk w3 (w.heap.size + 1) [] [] from ⟨none, 0, none, 0, by
    have e : (w.alloc (.cells #[.string S.name, .slice LA S.labels.length lc, .slice IA S.init.length ic, .slice MA S.main.length mc, .int .i64 S.restart, .int .i64 S.grace, .int .i64 S.prio] 35)).heap.size = w.heap.size + 1 := by simp
    rw [← hw3, ← e]
    exact heap_alloc_new _ _, World.ownsRow_nil _ _ _ _, World.ownsRow_nil _ _ _ _⟩)
  rw [hw3]
  obtain ⟨b1, hb1⟩ : ∃ b, w.heap.size = b := ⟨_, rfl⟩
  have HBB := Lib.hid hb1
  have hg0 : w.heap.size ≤ b1 + 1 := by omega
  rw [hb1] at HSB3 HT3 ⊢
  obtain ⟨g, hg⟩ : ∃ g, b1 + 1 = g := ⟨_, rfl⟩
  rw [hg] at HT3 hg0 ⊢
  have hlg : b1 < g := by omega
  clear hw3 hb1 hg hb3
  refine (list_any w HL.out g hg0 t_init (by decide) IA ic S.init H.out.init HLT.out.2.2.1 0 3 0 0 (by decide) (by decide) (by decide) [] [] (by simp) (by simp) w3 HB3.out HT3.out).mono ?_
  rintro e w4 ⟨N1, P1, ⟨E1, rfl, hE1, hA1, hT1⟩, hf1, hn1, hp1⟩
  have HE4 := Lib.hid hE1
  have HA4 := Lib.hid hA1
  have HT4 := Lib.hid hT1
  have HF4 := Lib.hid hf1
  have HB4 := Lib.hid (hA1.base HB3.out hg0)
  have HSB4 := Lib.hid (show SBox S LA lc IA ic MA mc w4 b1 from (hA1.low b1 hlg HSB3.out.lt).trans HSB3.out)
  clear hE1 hA1 hT1 hf1
  have c3 := HSB4.out.cells.c3
  go_wp2_with fail
  refine (list_any w HL.out g hg0 t_main (by decide) MA mc S.main H.out.main HLT.out.2.2.2 1 4 3 1000 (by decide) (by decide) (by decide) N1 P1 (by simp at hn1; omega) (by simp at hp1; omega) w4 HB4.out HT4.out).mono ?_
  rintro e w5 ⟨N2, P2, ⟨E2, rfl, hE2, hA2, hT2⟩, _, _, _⟩
  have HE1 := Lib.hid (show Says (KB 0 w5) w5 E1 _ from Says.keep HE4.out fun b hd _ => ⟨Nat.zero_le b, ((hA2.ok HT4.out.ok).2 b hd).2⟩)
  have HE2 := Lib.hid (show Says (KB 0 w5) w5 E2 _ from Says.keep hE2 fun b _ _ => ⟨Nat.zero_le b, rfl⟩)
  have HB5 := Lib.hid (hA2.base HB4.out hg0)
  have HSB := Lib.hid (show SBox S LA lc IA ic MA mc w5 b1 from (hA2.low b1 hlg HSB4.out.lt).trans HSB4.out)
  clear hE2 hA2 hT2 c3
  obtain ⟨y1, hy1⟩ : ∃ y, listN t_init 0 3 0 0 [] [] S.init = y := ⟨_, rfl⟩
  obtain ⟨y2, hy2⟩ : ∃ y, listN t_main 1 4 3 1000 N1 P1 S.main = y := ⟨_, rfl⟩
  rw [hy1] at HE1 HF4
  rw [hy2] at HE2
  have HEQ := Lib.hid (check_eq S y1 y2 hy1.symm (fun h0 => by
    obtain ⟨e1, e2⟩ := HF4.out h0
    rw [← hy2, e1, e2, List.nil_append, List.nil_append]))
  clear hy1 hy2 hn1 hp1
  go_wp2_with fail
  have HB0 : 0 ≤ w5.heap.size := Nat.zero_le _
  refine Loose.wp_region_walk (by kernel_rfl) (by kernel_rfl) (FCheck b1 S LA lc y1 y2) (FCheck_keep b1 S LA lc y1 y2) ?_ ?_
  · refine ⟨?_, ?_, ?_, ?_, ?_, ?_, ?_, ?_, ?_, ?_, ?_, ?_, ?_, ?_, ?_, ?_, ?_, ?_, ?_, ?_, ?_, ?_, trivial⟩
    · intro a w1 hfr hdep
      have f0 : a.tmps.getD 1 undef = .pointer (some ⟨b1, 0, none⟩) := hfr.slot 1 (by kernel_rfl)
      refine Loose.Step.value rfl (v := .pointer (some ⟨b1, 0, none⟩)) (w' := w1) ?_ rfl (Below.refl _ _)
      simp [go_sem, Act.eval, f0]
    · intro a w1 hfr hdep
      have e0 : a.tmps.getD 14 undef = .pointer (some ⟨b1, 0, none⟩) := Loose.dep_of hdep 0 14 (by kernel_rfl)
      have hc := (HSB.out.below hfr.below).cells.c0
      refine Loose.Step.value rfl (v := .string S.name) (w' := w1) ?_ rfl (Below.refl _ _)
      simp [go_sem, Act.eval, e0, hc]
    · intro a w1 hfr hdep
      have e0 : a.tmps.getD 15 undef = .string S.name := Loose.dep_of hdep 1 15 (by kernel_rfl)
      refine Loose.Step.call rfl (f := 75) (args := #[.string S.name]) ?_ ?_
      · simp [go_sem, Act.eval, e0]
      · refine (Text.name_any S.name (by unfold maxLen; omega) w1 (HL.out.below (HB5.out.trans (hfr.below.mono HB5.out.size))).text).mono ?_
        rintro e w2 ⟨rfl, rfl⟩
        exact ⟨_, rfl, rfl, Below.refl _ _⟩
    · intro a w1 hfr hdep
      have hb : Below w1.heap.size w1 (w1.alloc (.cells #[.string t_name] 9)) := (Below.refl _ _).alloc (Nat.le_refl _) _
      refine Loose.Step.value rfl (v := .slice (some ⟨w1.heap.size, 0, none⟩) 1 1) (w' := w1.alloc (.cells #[.string t_name] 9)) ?_ (text_made _ (Nat.le_trans HB0 hfr.below.size)) hb
      simp [go_sem, t_name]
    · intro a w1 hfr hdep
      have e0 : a.tmps.getD 16 undef = .int .i64 (Text.codeN (TextPure.nameL S.name.data.toList) 30) := Loose.dep_of hdep 2 16 (by kernel_rfl)
      obtain ⟨gg, e1, _, hcg⟩ : TextK (KB 0) t_name (a.tmps.getD 17 undef) w1 := Loose.dep_of hdep 3 17 (by kernel_rfl)
      refine Loose.Step.call rfl (f := 74) (args := #[.int .i64 (Text.codeN (TextPure.nameL S.name.data.toList) 30), .slice (some ⟨gg, 0, none⟩) 1 1]) ?_ ?_
      · simp [go_sem, Act.eval, e0, e1]
      · have HSZ : 0 ≤ w1.heap.size := Nat.le_trans HB0 hfr.below.size
        refine (new_says (Text.codeN (TextPure.nameL S.name.data.toList) 30) t_name gg 1 w1 (by decide) hcg).mono ?_
        rintro e w2 ⟨E, rfl, hE, hb⟩
        exact ⟨E, rfl, kb_tells HSZ hE, hb⟩
    · intro a w1 hfr hdep
      have f0 : a.tmps.getD 1 undef = .pointer (some ⟨b1, 0, none⟩) := hfr.slot 1 (by kernel_rfl)
      refine Loose.Step.value rfl (v := .pointer (some ⟨b1, 1, none⟩)) (w' := w1) ?_ rfl (Below.refl _ _)
      simp [go_sem, Act.eval, f0]
    · intro a w1 hfr hdep
      have e0 : a.tmps.getD 19 undef = .pointer (some ⟨b1, 1, none⟩) := Loose.dep_of hdep 5 19 (by kernel_rfl)
      have hc := (HSB.out.below hfr.below).cells.c1
      refine Loose.Step.value rfl (v := .slice LA S.labels.length lc) (w' := w1) ?_ rfl (Below.refl _ _)
      simp [go_sem, Act.eval, e0, hc]
    · intro a w1 hfr hdep
      have e0 : a.tmps.getD 20 undef = .slice LA S.labels.length lc := Loose.dep_of hdep 6 20 (by kernel_rfl)
      refine Loose.Step.call rfl (f := 76) (args := #[.string ⟨#[108, 97, 98, 101, 108, 115]⟩, .slice LA S.labels.length lc]) ?_ ?_
      · simp [go_sem, Act.eval, e0]
      · have HSZ : 0 ≤ w1.heap.size := Nat.le_trans HB0 hfr.below.size
        refine (labels_any t_labels LA lc S.labels (by decide) hnl HLT.out.2.1 w1 (HL.out.below (HB5.out.trans (hfr.below.mono HB5.out.size))) (H.out.below (HB5.out.trans (hfr.below.mono HB5.out.size))).labels).mono ?_
        rintro e w2 ⟨E, rfl, hE, hb⟩
        exact ⟨E, rfl, kb_tells HSZ hE, hb⟩
    · intro a w1 hfr hdep
      have f0 : a.tmps.getD 4 undef = E1 := hfr.slot 4 (by kernel_rfl)
      refine Loose.Step.value rfl (v := E1) (w' := w1) ?_ (Says.keep HE1.out (kb0 hfr.below)) (Below.refl _ _)
      simp [go_sem, Act.eval, f0]
    · intro a w1 hfr hdep
      have f0 : a.tmps.getD 5 undef = E2 := hfr.slot 5 (by kernel_rfl)
      refine Loose.Step.value rfl (v := E2) (w' := w1) ?_ (Says.keep HE2.out (kb0 hfr.below)) (Below.refl _ _)
      simp [go_sem, Act.eval, f0]
    · intro a w1 hfr hdep
      have f0 : a.tmps.getD 1 undef = .pointer (some ⟨b1, 0, none⟩) := hfr.slot 1 (by kernel_rfl)
      refine Loose.Step.value rfl (v := .pointer (some ⟨b1, 4, none⟩)) (w' := w1) ?_ rfl (Below.refl _ _)
      simp [go_sem, Act.eval, f0]
    · intro a w1 hfr hdep
      have e0 : a.tmps.getD 24 undef = .pointer (some ⟨b1, 4, none⟩) := Loose.dep_of hdep 10 24 (by kernel_rfl)
      have hc := (HSB.out.below hfr.below).cells.c4
      refine Loose.Step.value rfl (v := .int .i64 S.restart) (w' := w1) ?_ rfl (Below.refl _ _)
      simp [go_sem, Act.eval, e0, hc]
    · intro a w1 hfr hdep
      have e0 : a.tmps.getD 25 undef = .int .i64 S.restart := Loose.dep_of hdep 11 25 (by kernel_rfl)
      refine Loose.Step.call rfl (f := 77) (args := #[.int .i64 S.restart, .int .i64 1, .int .i64 3, .string ⟨#[114, 101, 115, 116, 97, 114, 116]⟩]) ?_ ?_
      · simp [go_sem, Act.eval, e0]
      · have HSZ : 0 ≤ w1.heap.size := Nat.le_trans HB0 hfr.below.size
        refine (within_any S.restart 1 3 t_restart (by decide) w1).mono ?_
        rintro e w2 ⟨E, rfl, hE, hb⟩
        exact ⟨E, rfl, kb_tells HSZ hE, hb⟩
    · intro a w1 hfr hdep
      have f0 : a.tmps.getD 1 undef = .pointer (some ⟨b1, 0, none⟩) := hfr.slot 1 (by kernel_rfl)
      refine Loose.Step.value rfl (v := .pointer (some ⟨b1, 5, none⟩)) (w' := w1) ?_ rfl (Below.refl _ _)
      simp [go_sem, Act.eval, f0]
    · intro a w1 hfr hdep
      have e0 : a.tmps.getD 27 undef = .pointer (some ⟨b1, 5, none⟩) := Loose.dep_of hdep 13 27 (by kernel_rfl)
      have hc := (HSB.out.below hfr.below).cells.c5
      refine Loose.Step.value rfl (v := .int .i64 S.grace) (w' := w1) ?_ rfl (Below.refl _ _)
      simp [go_sem, Act.eval, e0, hc]
    · intro a w1 hfr hdep
      have e0 : a.tmps.getD 28 undef = .int .i64 S.grace := Loose.dep_of hdep 14 28 (by kernel_rfl)
      refine Loose.Step.call rfl (f := 77) (args := #[.int .i64 S.grace, .int .i64 0, .int .i64 1000, .string ⟨#[103, 114, 97, 99, 101]⟩]) ?_ ?_
      · simp [go_sem, Act.eval, e0]
      · have HSZ : 0 ≤ w1.heap.size := Nat.le_trans HB0 hfr.below.size
        refine (within_any S.grace 0 1000 t_grace (by decide) w1).mono ?_
        rintro e w2 ⟨E, rfl, hE, hb⟩
        exact ⟨E, rfl, kb_tells HSZ hE, hb⟩
    · intro a w1 hfr hdep
      have f0 : a.tmps.getD 1 undef = .pointer (some ⟨b1, 0, none⟩) := hfr.slot 1 (by kernel_rfl)
      refine Loose.Step.value rfl (v := .pointer (some ⟨b1, 6, none⟩)) (w' := w1) ?_ rfl (Below.refl _ _)
      simp [go_sem, Act.eval, f0]
    · intro a w1 hfr hdep
      have e0 : a.tmps.getD 30 undef = .pointer (some ⟨b1, 6, none⟩) := Loose.dep_of hdep 16 30 (by kernel_rfl)
      have hc := (HSB.out.below hfr.below).cells.c6
      refine Loose.Step.value rfl (v := .int .i64 S.prio) (w' := w1) ?_ rfl (Below.refl _ _)
      simp [go_sem, Act.eval, e0, hc]
    · intro a w1 hfr hdep
      have e0 : a.tmps.getD 31 undef = .int .i64 S.prio := Loose.dep_of hdep 17 31 (by kernel_rfl)
      refine Loose.Step.call rfl (f := 77) (args := #[.int .i64 S.prio, .int .i64 0, .int .i64 10, .string ⟨#[112, 114, 105, 111]⟩]) ?_ ?_
      · simp [go_sem, Act.eval, e0]
      · have HSZ : 0 ≤ w1.heap.size := Nat.le_trans HB0 hfr.below.size
        refine (within_any S.prio 0 10 t_prio (by decide) w1).mono ?_
        rintro e w2 ⟨E, rfl, hE, hb⟩
        exact ⟨E, rfl, kb_tells HSZ hE, hb⟩
    · intro a w1 hfr hdep
      have h0 : SaysK (KB 0) (newV (Text.codeN (TextPure.nameL S.name.data.toList) 30) t_name) (a.tmps.getD 18 undef) w1 := Loose.dep_of hdep 4 18 (by kernel_rfl)
      have h1 : SaysK (KB 0) (labelsV t_labels S.labels) (a.tmps.getD 21 undef) w1 := Loose.dep_of hdep 7 21 (by kernel_rfl)
      have h2 : SaysK (KB 0) (y1) (a.tmps.getD 22 undef) w1 := Loose.dep_of hdep 8 22 (by kernel_rfl)
      have h3 : SaysK (KB 0) (y2) (a.tmps.getD 23 undef) w1 := Loose.dep_of hdep 9 23 (by kernel_rfl)
      have h4 : SaysK (KB 0) (withinV S.restart 1 3 t_restart) (a.tmps.getD 26 undef) w1 := Loose.dep_of hdep 12 26 (by kernel_rfl)
      have h5 : SaysK (KB 0) (withinV S.grace 0 1000 t_grace) (a.tmps.getD 29 undef) w1 := Loose.dep_of hdep 15 29 (by kernel_rfl)
      have h6 : SaysK (KB 0) (withinV S.prio 0 10 t_prio) (a.tmps.getD 32 undef) w1 := Loose.dep_of hdep 18 32 (by kernel_rfl)
      have r := build7 (a.tmps.getD 18 undef) (a.tmps.getD 21 undef) (a.tmps.getD 22 undef) (a.tmps.getD 23 undef) (a.tmps.getD 26 undef) (a.tmps.getD 29 undef) (a.tmps.getD 32 undef) w1 (cells_form (Says.form h0)) (cells_form (Says.form h1)) (cells_form (Says.form h2)) (cells_form (Says.form h3)) (cells_form (Says.form h4)) (cells_form (Says.form h5)) (cells_form (Says.form h6))
      have hb : Below w1.heap.size w1 (w1.alloc (.cells #[a.tmps.getD 18 undef, a.tmps.getD 21 undef, a.tmps.getD 22 undef, a.tmps.getD 23 undef, a.tmps.getD 26 undef, a.tmps.getD 29 undef, a.tmps.getD 32 undef] 83)) := (Below.refl _ _).alloc (Nat.le_refl _) _
      refine Loose.Step.value rfl (v := .slice (some ⟨w1.heap.size, 0, none⟩) 7 7) (w' := w1.alloc (.cells #[a.tmps.getD 18 undef, a.tmps.getD 21 undef, a.tmps.getD 22 undef, a.tmps.getD 23 undef, a.tmps.getD 26 undef, a.tmps.getD 29 undef, a.tmps.getD 32 undef] 83)) ?_ (row_made [a.tmps.getD 18 undef, a.tmps.getD 21 undef, a.tmps.getD 22 undef, a.tmps.getD 23 undef, a.tmps.getD 26 undef, a.tmps.getD 29 undef, a.tmps.getD 32 undef] _ 7 rfl (Nat.le_trans HB0 hfr.below.size) (kb_keep hb) ⟨h0, h1, h2, h3, h4, h5, h6, trivial⟩) hb
      clear hb h0 h1 h2 h3 h4 h5 h6 hdep
      simp only [Array.getD_eq_getD_getElem?] at r
      simp [execOp, Act.eval, r]
    · intro a w1 hfr hdep
      have h0 : RowK (KB 0) [newV (Text.codeN (TextPure.nameL S.name.data.toList) 30) t_name, labelsV t_labels S.labels, y1, y2, withinV S.restart 1 3 t_restart, withinV S.grace 0 1000 t_grace, withinV S.prio 0 10 t_prio] (a.tmps.getD 33 undef) w1 := Loose.dep_of hdep 19 33 (by kernel_rfl)
      refine Loose.Step.call rfl (f := 73) (args := #[a.tmps.getD 33 undef]) ?_ (row_first h0 (by simp))
      simp [go_sem, Act.eval]
    · intro a w1 hfr hdep
      have h0 : SaysK (KB 0) (firstV [newV (Text.codeN (TextPure.nameL S.name.data.toList) 30) t_name, labelsV t_labels S.labels, y1, y2, withinV S.restart 1 3 t_restart, withinV S.grace 0 1000 t_grace, withinV S.prio 0 10 t_prio]) (a.tmps.getD 34 undef) w1 := Loose.dep_of hdep 20 34 (by kernel_rfl)
      refine Loose.Step.value rfl (v := a.tmps.getD 34 undef) (w' := w1) ?_ h0 (Below.refl _ _)
      simp [go_sem, Act.eval]
  · intro v0 v1 v2 v3 v4 v5 v6 v7 v8 v9 v10 v11 v12 v13 v14 v15 v16 v17 v18 v19 v20 v21 w6 hb hC
    have hE : SaysK (KB 0) (firstV [newV (Text.codeN (TextPure.nameL S.name.data.toList) 30) t_name, labelsV t_labels S.labels, y1, y2, withinV S.restart 1 3 t_restart, withinV S.grace 0 1000 t_grace, withinV S.prio 0 10 t_prio]) v21 w6 := hC.2
    clear hC
    have HX := Lib.hid (show TellsA (checkV S) w (.returned v21) w6 from ⟨_, rfl, HEQ.out ▸ hE, HB5.out.trans (hb.mono HB5.out.size)⟩)
    clear hE hb HB0
    simp only [put_lit, List.set_cons_succ, List.set_cons_zero]
    go_wp2_with fail
    go_ret
    exact HX.out
end SpecOwn
end Go.Proofs.YtbichomjpmmjmaaGreatDoor

/-
  The program's node: Fits. Conditions: the node is one (Nn); the spec is not too long and lies in memory; the listed variables are laid.
-/
set_option linter.unusedVariables false
set_option linter.unusedSimpArgs false
namespace Go.Proofs.YtbichomjpmmjmaaGreatDoor
open Go.ChangeShapes Go.WideShapes Go.ChangeAt Go.RowKit Go.Lib
open NumMath
namespace Nn
open Re Nd Sd SpecOwn
theorem nums_own {B n : Nat} {w : World} {A : Option Addr} {c : Nat} {ps : List Int} (h : w.ownsRow B 3 1 (.slice A n c) n (ps.map (Value.int .i64))) (hn : ps.length = n) (hp : ∀ p ∈ ps, 1 ≤ p ∧ p ≤ 65535) : Lists.Nums .i64 w A ps := fun k z hz => by
  have hk := (List.getElem?_eq_some_iff.1 hz).1
  obtain ⟨h1, h2⟩ := hp z (List.mem_of_getElem? hz)
  refine ⟨by simp [Lit.wf, IntKind.min, IntKind.max, IntKind.signed, IntKind.bits]; omega, ?_⟩
  rcases Pt.own_addr h with ⟨_, h2, _⟩ | ⟨r, hA, _, hr⟩
  · omega
  · refine ⟨_, hA, hr, ?_⟩
    rw [hA] at h
    rw [at_one, h.cellAt k (by omega)]
    simp [hz]
set_option maxRecDepth 100000 in
set_option maxHeartbeats 4000000 in
theorem fits_any {B : Nat} {g : Nat} {has : Rx} {l : Pods} (S : Spc) (LA : Option Addr) (lc : Nat) (IA : Option Addr) (ic : Nat) (MA : Option Addr) (mc : Nat) (hL : Book.Light S) (w : World) (h : Nn B w g has l) (hSL : SLaid w) (hS : S.In w LA lc IA ic MA mc) : Calls Tryz.prog 24 #[.pointer (some ⟨g, 0, none⟩), .agg #[.string S.name, .slice LA S.labels.length lc, .slice IA S.init.length ic, .slice MA S.main.length mc, .int .i64 S.restart, .int .i64 S.grace, .int .i64 S.prio]] w fun e w' => e = .returned (.int .i64 (fitC has l (askS S))) ∧ Below w.heap.size w w' := by
  have H := Lib.hid h
  have HS := Lib.hid hS
  have HL := Lib.hid hL
  have HSL := Lib.hid hSL
  obtain ⟨w0, hw0⟩ : ∃ v, w.alloc (.cells #[.string S.name, .slice LA S.labels.length lc, .slice IA S.init.length ic, .slice MA S.main.length mc, .int .i64 S.restart, .int .i64 S.grace, .int .i64 S.prio] 35) = v := ⟨_, rfl⟩
  have S0 := Lib.hid (show w0.heap[w.heap.size]? = some (.cells ([.string S.name, .slice LA S.labels.length lc, .slice IA S.init.length ic, .slice MA S.main.length mc, .int .i64 S.restart, .int .i64 S.grace, .int .i64 S.prio] : List Value).toArray 35 (0, 0)) by rw [← hw0]; exact heap_alloc_new w _)
  have B0 := Lib.hid (show Below w.heap.size w w0 by rw [← hw0]; exact (Below.refl _ _).alloc (Nat.le_refl _) _)
  have RS := Lib.hid (range_box S0.out)
  obtain ⟨F, hF⟩ : ∃ F, fitC has l (askS S) = F := ⟨_, rfl⟩
  have HF := Lib.hid hF
  rw [hF]
  clear h hS hL hSL hF
  go_enter Tryz.func24, Tryz.ntmps24
  go_wp2_with (first | (refine wpList_load_mid rfl 35 _ rfl _ _ rfl _ _ RS.out Tryz.underlying35 rfl (by kernel_rfl) ?_))
  clear hw0 RS
  refine (check_any S LA lc IA ic MA mc HL.out w0 (HSL.out.below B0.out) (HS.out.below B0.out)).mono ?_
  rintro e wc ⟨E, rfl, hsy, hbc⟩
  have BC := Lib.hid (B0.out.trans (hbc.mono B0.out.size))
  have HSY := Lib.hid hsy
  have SC := Lib.hid ((hbc.block _ (lt_of_block S0.out)).trans S0.out)
  clear hbc hsy
  rcases HSY.out.form with rfl | ⟨ut, ux, rfl⟩
  · have HR := Lib.hid (show (askS S).right = true from decide_eq_true (HSY.out.nil_iff.1 rfl))
    obtain ⟨hq, hof, hfew⟩ := ask_ok HR.out
    have HQ := Lib.hid hq
    have RS := Lib.hid (range_box SC.out)
    obtain ⟨a, ha⟩ : ∃ a, (askS S).ask = a := ⟨_, rfl⟩
    have HA := Lib.hid ha
    have hl2 := HL.out.1.2.2
    have CO := Re.of_any S.init S.main (.string S.name) (.slice LA S.labels.length lc) (.int .i64 S.restart) (.int .i64 S.grace) (.int .i64 S.prio) IA ic MA mc (by omega) (by omega) wc (HS.out.below BC.out).init (HS.out.below BC.out).main
    rw [show ofR (S.init.map rq) (S.main.map rq) = (a, true) from Prod.ext ha hof] at CO
    have CO := Lib.hid CO
    clear ha hq hof hl2
    go_wp2_with (first | (refine wpList_load_mid rfl 35 _ rfl _ _ rfl _ _ RS.out Tryz.underlying35 rfl (by kernel_rfl) ?_))
    refine CO.out.mono ?_
    rintro e w1 ⟨rfl, hb1⟩
    clear CO RS
    have B1 := Lib.hid (BC.out.trans (hb1.mono BC.out.size))
    have S1 := Lib.hid ((hb1.block _ (lt_of_block SC.out)).trans SC.out)
    obtain ⟨w2a, hw2a⟩ : ∃ v, w1.alloc (.cells #[.int .i64 0, .int .i64 0, .int .i64 0] 23) = v := ⟨_, rfl⟩
    have ZB := Lib.hid (show w2a.heap[w1.heap.size]? = some (.cells #[.int .i64 0, .int .i64 0, .int .i64 0] 23 (0, 0)) by rw [← hw2a]; exact heap_alloc_new _ _)
    have BU := Lib.hid (show Below w1.heap.size w1 w2a by rw [← hw2a]; exact (Below.refl _ _).alloc (Nat.le_refl _) _)
    obtain ⟨w2, hw2⟩ : ∃ v, w2a.setCells w1.heap.size 0 (R3 a) = v := ⟨_, rfl⟩
    have THz := Lib.hid (show w2a.there w1.heap.size 0 3 from Back.th ZB.out rfl)
    have ONEz := Lib.hid (show ((R3 a) : List Value).toArray.all (·.oneCell') = true by simp [Value.oneCell'])
    have HVz := Lib.hid hw2
    have ZA := Lib.hid (show w2.heap[w1.heap.size]? = some (.cells ((R3 a) : List Value).toArray 23 (0, 0)) by rw [← hw2]; exact Back.st ZB.out rfl)
    have BX := Lib.hid (show Below w1.heap.size w1 w2 by rw [← hw2]; exact bel_set BU.out (Nat.le_refl _))
    clear hw2
    have B2 := Lib.hid (B1.out.trans (BX.out.mono B1.out.size))
    have S2 := Lib.hid ((BX.out.block _ (lt_of_block S1.out)).trans S1.out)
    obtain ⟨lf, hlf⟩ : ∃ lf, (subR has (usedR l)).1 = lf := ⟨_, rfl⟩
    have HRM := Lib.hid (show Nd.room has l (askS S) = fitsR a lf by rw [← hlf, ← HA.out]; exact room_left H.out.ok HQ.out)
    have CL := Lib.hid (show ∀ u, Below w.heap.size w u → Calls Tryz.prog 14 #[.pointer (some ⟨g, 0, none⟩)] u (Told1 lf u) from fun u hu => by rw [← hlf]; exact left_any u (H.out.below hu))
    obtain ⟨ft, hft⟩ : ∃ ft, fitsR a lf = ft := ⟨_, rfl⟩
    rw [hft] at HRM
    have CF := Lib.hid (show ∀ u, Calls Tryz.prog 46 #[.agg (R3 a).toArray, .agg (R3 lf).toArray] u (fun e w' => e = .returned (.bool ft) ∧ Below u.heap.size u w') from fun u => by rw [← hft]; exact Re.fits_any a lf u)
    clear hlf hft hb1 HSY
    go_wp2_with (first | (refine wpList_store_at rfl 23 _ _ rfl _ _ _ rfl rfl THz.out (by kernel_rfl) ONEz.out HVz.out ?_))
    clear hw2a THz ONEz HVz ZB BX BU
    refine Vls.wp_region (by kernel_rfl) (Jx.JX (fun u => Below w2.heap.size w2 u) (fun u => Below w2.heap.size w2 u) 100 101 (fun _ _ => True) [(1, 0), (2, 1), (3, 2), (4, 2), (5, 4), (5, 2), (6, 3), (6, 5), (6, 2), (7, 6), (7, 2), (8, 2), (8, 7)] [.bool true, .bool false, .bool false, .agg (R3 a).toArray, .pointer (some ⟨g, 0, none⟩), .agg (R3 lf).toArray, .bool ft, .bool (!ft), .bool (!ft)]) (by kernel_rfl) (fun _ => undef) (Jx.JX.start (Below.drew (Below.refl _ _)) _) ?_ ?_
    · refine ⟨?_, ?_, ?_, ?_, ?_, ?_, ?_, ?_, ?_, trivial⟩
      · intro s_ a_ u V hs hd hfr hpo hJ
        have f6 : a_.tmps.getD 6 undef = .bool true := hfr 6 (by kernel_rfl)
        refine .inl ⟨rfl, ?_⟩
        unfold Oper.wp
        rw [show (execOp a_.eval _).run Tryz.prog u = .ok (.value (.bool true)) u from by simp [go_sem, Act.eval, f6]]
        exact ⟨_, rfl, hJ.stay 0 (by decide) (by decide) rfl rfl⟩
      · intro s_ a_ u V hs hd hfr hpo hJ
        have e0 : a_.tmps.getD 15 undef = .bool true := (hpo 0 15 (by kernel_rfl)).trans (hJ.get 0 (by decide) (by decide) (hd 0 (by kernel_rfl)) rfl)
        refine .inl ⟨rfl, ?_⟩
        unfold Oper.wp
        rw [show (execOp a_.eval _).run Tryz.prog u = .ok (.value (.bool false)) u from by simp [go_sem, Act.eval, e0]]
        exact ⟨_, rfl, hJ.stay 1 (by decide) (by decide) (by show (s_ 0 && true) = true; rw [hd 0 (by kernel_rfl)]; rfl) rfl⟩
      · intro s_ a_ u V hs hd hfr hpo hJ
        have e1 : a_.tmps.getD 16 undef = .bool false := (hpo 1 16 (by kernel_rfl)).trans (hJ.get 1 (by decide) (by decide) (hd 1 (by kernel_rfl)) rfl)
        refine .inl ⟨rfl, ?_⟩
        unfold Oper.wp
        rw [show (execOp a_.eval _).run Tryz.prog u = .ok (.value (.bool false)) u from by simp [go_sem, Act.eval, e1]]
        exact ⟨_, rfl, hJ.stay 2 (by decide) (by decide) (by show (s_ 1 && true) = true; rw [hd 1 (by kernel_rfl)]; rfl) rfl⟩
      · intro s_ a_ u V hs hd hfr hpo hJ
        have f5 : a_.tmps.getD 5 undef = .pointer (some ⟨w1.heap.size, 0, none⟩) := hfr 5 (by kernel_rfl)
        have e2 : a_.tmps.getD 17 undef = .bool false := (hpo 2 17 (by kernel_rfl)).trans (hJ.get 2 (by decide) (by decide) (hd 2 (by kernel_rfl)) rfl)
        have hP := hJ.both
        refine .inl ⟨Jx.wanted_of rfl rfl e2, ?_⟩
        exact wp_load_mid 23 (.tmp 5) rfl (w1.heap.size) (0) f5 (R3 a) _ (range_box ((hP.block _ (lt_of_block ZA.out)).trans ZA.out)) Tryz.underlying23 rfl (by kernel_rfl) ⟨_, rfl, hJ.stay 3 (by decide) (by decide) (by show (s_ 2 && true) = true; rw [hd 2 (by kernel_rfl)]; rfl) rfl⟩
      · intro s_ a_ u V hs hd hfr hpo hJ
        have f0 : a_.tmps.getD 0 undef = .pointer (some ⟨g, 0, none⟩) := hfr 0 (by kernel_rfl)
        have e2 : a_.tmps.getD 17 undef = .bool false := (hpo 2 17 (by kernel_rfl)).trans (hJ.get 2 (by decide) (by decide) (hd 2 (by kernel_rfl)) rfl)
        refine .inl ⟨Jx.wanted_of rfl rfl e2, ?_⟩
        unfold Oper.wp
        rw [show (execOp a_.eval _).run Tryz.prog u = .ok (.value (.pointer (some ⟨g, 0, none⟩))) u from by simp [go_sem, Act.eval, f0, e2]]
        exact ⟨_, rfl, hJ.stay 4 (by decide) (by decide) (by show (s_ 2 && true) = true; rw [hd 2 (by kernel_rfl)]; rfl) rfl⟩
      · intro s_ a_ u V hs hd hfr hpo hJ
        have e4 : a_.tmps.getD 19 undef = .pointer (some ⟨g, 0, none⟩) := (hpo 4 19 (by kernel_rfl)).trans (hJ.get 4 (by decide) (by decide) (hd 4 (by kernel_rfl)) rfl)
        have e2 : a_.tmps.getD 17 undef = .bool false := (hpo 2 17 (by kernel_rfl)).trans (hJ.get 2 (by decide) (by decide) (hd 2 (by kernel_rfl)) rfl)
        have hP := hJ.both
        refine .inl ⟨Jx.wanted_of rfl rfl e2, ?_⟩
        unfold Oper.wp
        rw [show (execOp a_.eval _).run Tryz.prog u = .ok (.enter 14 #[.pointer (some ⟨g, 0, none⟩)]) u from by simp [go_sem, Act.eval, e4, e2]]
        refine Calls.mono (CL.out u (B2.out.trans (hP.mono B2.out.size))) ?_
        rintro e u2 ⟨rfl, hb⟩
        exact ⟨_, rfl, hJ.step 5 (by decide) (by decide) (by show (s_ 4 && (s_ 2 && true)) = true; rw [hd 4 (by kernel_rfl), hd 2 (by kernel_rfl)]; rfl) (fun _ hP => hP.trans (hb.mono hP.size)) (fun _ hP => hP.trans (hb.mono hP.size)) (fun _ _ hR => hR) rfl⟩
      · intro s_ a_ u V hs hd hfr hpo hJ
        have e3 : a_.tmps.getD 18 undef = .agg (R3 a).toArray := (hpo 3 18 (by kernel_rfl)).trans (hJ.get 3 (by decide) (by decide) (hd 3 (by kernel_rfl)) rfl)
        have e5 : a_.tmps.getD 20 undef = .agg (R3 lf).toArray := (hpo 5 20 (by kernel_rfl)).trans (hJ.get 5 (by decide) (by decide) (hd 5 (by kernel_rfl)) rfl)
        have e2 : a_.tmps.getD 17 undef = .bool false := (hpo 2 17 (by kernel_rfl)).trans (hJ.get 2 (by decide) (by decide) (hd 2 (by kernel_rfl)) rfl)
        have hP := hJ.both
        refine .inl ⟨Jx.wanted_of rfl rfl e2, ?_⟩
        unfold Oper.wp
        rw [show (execOp a_.eval _).run Tryz.prog u = .ok (.enter 46 #[.agg (R3 a).toArray, .agg (R3 lf).toArray]) u from by simp [go_sem, Act.eval, e3, e5, e2]]
        refine Calls.mono (CF.out u) ?_
        rintro e u2 ⟨rfl, hb⟩
        exact ⟨_, rfl, hJ.step 6 (by decide) (by decide) (by show (s_ 3 && (s_ 5 && (s_ 2 && true))) = true; rw [hd 3 (by kernel_rfl), hd 5 (by kernel_rfl), hd 2 (by kernel_rfl)]; rfl) (fun _ hP => hP.trans (hb.mono hP.size)) (fun _ hP => hP.trans (hb.mono hP.size)) (fun _ _ hR => hR) rfl⟩
      · intro s_ a_ u V hs hd hfr hpo hJ
        have e6 : a_.tmps.getD 21 undef = .bool ft := (hpo 6 21 (by kernel_rfl)).trans (hJ.get 6 (by decide) (by decide) (hd 6 (by kernel_rfl)) rfl)
        have e2 : a_.tmps.getD 17 undef = .bool false := (hpo 2 17 (by kernel_rfl)).trans (hJ.get 2 (by decide) (by decide) (hd 2 (by kernel_rfl)) rfl)
        refine .inl ⟨Jx.wanted_of rfl rfl e2, ?_⟩
        unfold Oper.wp
        rw [show (execOp a_.eval _).run Tryz.prog u = .ok (.value (.bool (!ft))) u from by simp [go_sem, Act.eval, e6, e2]]
        exact ⟨_, rfl, hJ.stay 7 (by decide) (by decide) (by show (s_ 6 && (s_ 2 && true)) = true; rw [hd 6 (by kernel_rfl), hd 2 (by kernel_rfl)]; rfl) rfl⟩
      · intro s_ a_ u V hs hd hfr hpo hJ
        have e2 : a_.tmps.getD 17 undef = .bool false := (hpo 2 17 (by kernel_rfl)).trans (hJ.get 2 (by decide) (by decide) (hd 2 (by kernel_rfl)) rfl)
        have e7 : a_.tmps.getD 22 undef = .bool (!ft) := (hpo 7 22 (by kernel_rfl)).trans (hJ.get 7 (by decide) (by decide) (hd 7 (by kernel_rfl)) rfl)
        refine .inl ⟨rfl, ?_⟩
        unfold Oper.wp
        rw [show (execOp a_.eval _).run Tryz.prog u = .ok (.value (.bool (!ft))) u from by simp [go_sem, Act.eval, e2, e7]]
        exact ⟨_, rfl, hJ.stay 8 (by decide) (by decide) (by show (s_ 2 && (s_ 7 && true)) = true; rw [hd 2 (by kernel_rfl), hd 7 (by kernel_rfl)]; rfl) rfl⟩
    · intro s_ V w5 hall hJ
      have e8 : V 8 = .bool (!ft) := hJ.get 8 (by decide) (by decide) (hall 8 (by decide)) rfl
      have B5 := Lib.hid (B2.out.trans (hJ.both.mono B2.out.size))
      have S5 := Lib.hid ((hJ.both.block _ (lt_of_block S2.out)).trans S2.out)
      clear hall hJ CL CF ZA
      simp only [Bxs.puts, Nat.reduceAdd, put_none, Re.put_lit, List.set_cons_succ, List.set_cons_zero]
      rw [e8]
      clear e8
      cases ft with
      | false =>
        have HE := Lib.hid (show F = 160 from HF.out.symm.trans (fit_no HR.out HRM.out))
        go_wp2
        go_ret
        exact ⟨by rw [HE.out]; rfl, B5.out⟩
      | true =>
        have RS := Lib.hid (range_box S5.out)
        go_wp2_with (first | (refine wpList_load_mid rfl 35 _ rfl _ _ rfl _ _ RS.out Tryz.underlying35 rfl (by kernel_rfl) ?_))
        clear RS
        refine (ports_any S LA lc IA ic MA mc HL.out.2.2.2 (by have := HL.out.1.2.2; omega) w5 (HS.out.below B5.out)).mono ?_
        rintro e w7 ⟨v, rfl, ho7, hb7⟩
        obtain ⟨PA, pc, rfl⟩ := Pt.own_form ho7
        have B7 := Lib.hid (B5.out.trans (hb7.mono B5.out.size))
        obtain ⟨ps, hps⟩ : ∃ ps, S.main.flatMap (·.ports) = ps := ⟨_, rfl⟩
        have HPS := Lib.hid (show (askS S).ports = ps from hps)
        rw [hps] at ho7 ⊢
        have CC := contains_any PA pc ps w7 (H.out.below B7.out) ho7 (by rw [← HPS.out]; omega)
        obtain ⟨n, hn⟩ : ∃ n, ps.length = n := ⟨_, rfl⟩
        rw [hn] at CC ⊢
        obtain ⟨b, hb⟩ : ∃ b, anyOwn l ps = b := ⟨_, rfl⟩
        have HB := Lib.hid (show anyOwn l (askS S).ports = b by rw [HPS.out]; exact hb)
        rw [hb] at CC
        clear hps ho7 hb7 hn hb hfew
        have CC := Lib.hid CC
        go_wp2_with fail
        refine CC.out.mono ?_
        rintro e w8 ⟨rfl, hb8⟩
        have B8 := Lib.hid (B7.out.trans (hb8.mono B7.out.size))
        clear hb8 CC
        cases b with
        | true =>
          have HE := Lib.hid (show F = 150 from HF.out.symm.trans (by obtain ⟨p, h1, h2⟩ := anyOwn_iff.1 HB.out; exact fit_own HR.out HRM.out h1 h2))
          go_wp2
          go_ret
          exact ⟨by rw [HE.out]; rfl, B8.out⟩
        | false =>
          have HE := Lib.hid (show F = 0 from HF.out.symm.trans (fit_yes HR.out HRM.out fun p hp => by
            refine Classical.byContradiction fun h => ?_
            have := anyOwn_iff.2 ⟨p, hp, h⟩
            rw [HB.out] at this
            cases this))
          go_wp2
          go_ret
          exact ⟨by rw [HE.out]; rfl, B8.out⟩
  · have HE := Lib.hid (show F = 1 from HF.out.symm.trans (fit_wrong (decide_eq_false fun h => by have := HSY.out.nil_iff.2 h; cases this)))
    go_wp2
    go_ret
    exact ⟨by rw [HE.out]; rfl, BC.out⟩
end Nn
end Go.Proofs.YtbichomjpmmjmaaGreatDoor
