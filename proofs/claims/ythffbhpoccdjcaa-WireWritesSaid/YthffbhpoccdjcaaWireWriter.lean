/-
  The contracts of package wire's writers: each call writes the bytes that the chapter says, up to a first error, and leaves all else as it was. Condition: what is written has at most 2^47 bytes.
-/
import Derived.Test.YthffbhpoccdjcaaWireState
import Derived.Test.YthffbhpoccdjcaaNumPut
import Derived.Test.YthffbhpoccdjcaaWirePure
import Derived.Deep.QuietTactic
import Derived.BigQuiet
namespace Go.Proofs.Ythffbhpoccdjcaa
open Go.ChangeShapes Go.WideShapes Go.ChangeAt Go.RowKit Go.Lib
open LebMath WirePure
namespace Wire

/-- what is written behind, unless there is an error -/
def addB (c : Int) (xs ys : List UInt8) : List UInt8 := if c = 0 then xs ++ ys else xs
theorem addB_no (xs ys : List UInt8) : addB 0 xs ys = xs ++ ys := by simp [addB]
theorem addB_yes {c : Int} (h : c ≠ 0) (xs ys : List UInt8) : addB c xs ys = xs := by simp [addB, h]

theorem failed_no (g : Nat) (w : World) (h : w.cell? ⟨g, 0, none⟩ = some (.int .i64 0)) :
    Calls Try.prog 26 #[.pointer (some ⟨g, 0, none⟩)] w fun e w' => e = .returned (.bool false) ∧ w = w' := by
  go_enter Try.func26, Try.ntmps26
  go_wp2
  go_ret
  exact ⟨rfl, rfl⟩

theorem failed_yes (g : Nat) (c : Int) (hc : c ≠ 0) (w : World) (h : w.cell? ⟨g, 0, none⟩ = some (.int .i64 c)) :
    Calls Try.prog 26 #[.pointer (some ⟨g, 0, none⟩)] w fun e w' => e = .returned (.bool true) ∧ w = w' := by
  have hb : (c != 0) = true := by simpa using hc
  clear hc
  go_enter Try.func26, Try.ntmps26
  go_wp2
  go_ret
  exact ⟨rfl, rfl⟩

theorem fail_no (g : Nat) (d : Int) (w : World) (h : w.cell? ⟨g, 0, none⟩ = some (.int .i64 0)) (hf : w.frozen? ⟨g, 0, none⟩ = false) :
    Calls Try.prog 14 #[.pointer (some ⟨g, 0, none⟩), .int .i64 d] w fun e w' => e = .returned (.tuple #[]) ∧ w' = w.setCell ⟨g, 0, none⟩ (.int .i64 d) := by
  go_enter Try.func14, Try.ntmps14
  go_wp2_with fail
  refine (failed_no g w h).mono ?_
  rintro e w' ⟨rfl, rfl⟩
  go_wp2
  go_end0
  exact ⟨rfl, rfl⟩

theorem fail_yes (g : Nat) (c d : Int) (hc : c ≠ 0) (w : World) (h : w.cell? ⟨g, 0, none⟩ = some (.int .i64 c)) :
    Calls Try.prog 14 #[.pointer (some ⟨g, 0, none⟩), .int .i64 d] w fun e w' => e = .returned (.tuple #[]) ∧ w = w' := by
  go_enter Try.func14, Try.ntmps14
  go_wp2_with fail
  refine (failed_yes g c hc w h).mono ?_
  rintro e w' ⟨rfl, rfl⟩
  go_wp2
  go_end0
  exact ⟨rfl, rfl⟩

/-- a writer's Fail -/
theorem wfail_any (g : Nat) (D : Nat → Prop) (c d : Int) (xs : List UInt8) (w : World) (h : Wr w g D c xs) :
    Calls Try.prog 14 #[.pointer (some ⟨g, 0, none⟩), .int .i64 d] w fun e w' => e = .returned (.tuple #[]) ∧ Wr w' g D (fst c d) xs ∧ Kept D w w' := by
  have hn := h.not
  obtain ⟨h0, A, cap, h1, h2, h3⟩ := h
  obtain ⟨c0, c1, f0, f1⟩ := two_cells h1
  by_cases hc : c = 0
  · subst hc
    refine (fail_no g d w c0 f0).mono ?_
    rintro e w' ⟨rfl, rfl⟩
    have hk : Kept D w (w.setCell ⟨g, 0, none⟩ (.int .i64 d)) := (Kept.refl D w).setCell hn _
    refine ⟨rfl, ⟨fun k hk' => ⟨Nat.lt_of_lt_of_le (h0 k hk').1 hk.size, (h0 k hk').2⟩, A, cap, by rw [fst_no]; exact two_set0 h1 _, owns_of h2 fun r hr => ?_, h3⟩, hk⟩
    exact Below.heap_setCell _ _ _ _ (by have := (owns_lt h2 hr).1; show r ≠ g; omega)
  · refine (fail_yes g c d hc w c0).mono ?_
    rintro e w' ⟨rfl, rfl⟩
    exact ⟨rfl, by rw [fst_yes hc]; exact ⟨h0, A, cap, h1, h2, h3⟩, Kept.refl _ _⟩

theorem write_any (w : World) : Calls Try.prog 6 #[] w fun e w' => e = .returned (.pointer (some ⟨w.heap.size, 0, none⟩)) ∧ Wr w' w.heap.size (· < w.heap.size) 0 [] ∧ Below w.heap.size w w' ∧ w'.heap.size = w.heap.size + 1 := by
  go_enter Try.func6, Try.ntmps6
  go_wp2
  go_ret
  refine ⟨rfl, ⟨fun k hk => ⟨by simp; omega, by omega⟩, none, 0, ?_, World.ownsRow_nil _ _ _ _, fun r hr => by cases hr⟩, (Below.refl _ _).alloc (Nat.le_refl _) _, by simp⟩
  exact heap_alloc_new w _

theorem strCells_cell8 (s : ByteArray) : strCells s = s.data.toList.map cell8 := rfl

theorem wr_added {w w1 : World} {g : Nat} {D : Nat → Prop} {c : Int} {xs : List UInt8} {s : ByteArray} {A A' : Option Addr} {cap cap' : Nat} (h0 : ∀ k, D k → k < w.heap.size ∧ k ≠ g)
    (h3 : ∀ r, (Value.slice A xs.length cap).ownBlock = some r → ¬ D r) (hc : w1.heap[g]? = some (.cells #[.int .i64 c, .slice A xs.length cap] 41 (0, 0)))
    (ho : w1.ownsRow (g + 1) 5 1 (.slice A' (xs.length + s.size) cap') (xs.length + s.size) (xs.map cell8 ++ strCells s)) (hg : w.grownBy w1 (Value.slice A xs.length cap).ownBlock)
    (hw : (Value.slice A' (xs.length + s.size) cap').ownBlock = (Value.slice A xs.length cap).ownBlock ∨ (Value.slice A' (xs.length + s.size) cap').ownBlock = some w.heap.size) :
    Wr (w1.setCell ⟨g, 1, none⟩ (.slice A' (xs.length + s.size) cap')) g D c (xs ++ s.data.toList) := by
  have hl : (xs ++ s.data.toList).length = xs.length + s.size := by simp
  refine ⟨fun k hk => ⟨?_, (h0 k hk).2⟩, A', cap', ?_, ?_, ?_⟩
  · have h := (h0 k hk).1
    have h' := hg.size
    simp [World.setCell]
    omega
  · rw [two_set1 hc, hl]
  · rw [hl, List.map_append, ← strCells_cell8]
    exact owns_of ho (fun r hr => Below.heap_setCell _ _ _ _ (by have := (owns_lt ho hr).1; show r ≠ g; omega))
  · intro r hr hd
    rw [hl] at hr
    rcases hw with e | e
    · exact h3 r (e ▸ hr) hd
    · rw [e] at hr
      injection hr with hr
      have := (h0 r hd).1
      omega

set_option maxRecDepth 20000 in
theorem add_no (g : Nat) (D : Nat → Prop) (xs : List UInt8) (s : ByteArray) (hz : xs.length + s.size ≤ 140737488355328) (w : World) (h : Wr w g D 0 xs) :
    Calls Try.prog 24 #[.pointer (some ⟨g, 0, none⟩), .string s] w fun e w' => e = .returned (.tuple #[]) ∧ Wr w' g D 0 (xs ++ s.data.toList) ∧ Kept D w w' := by
  have hn := h.not
  have hlt := h.lt
  obtain ⟨h0, A, cap, h1, h2, h3⟩ := h
  have H0 := Lib.hid h0
  have H1 := Lib.hid h1
  have H2 := Lib.hid h2
  have H3 := Lib.hid h3
  have HN := Lib.hid hn
  obtain ⟨c0, c1, f0, f1⟩ := two_cells h1
  have C0 := Lib.hid c0
  have C1 := Lib.hid c1
  clear h0 h1 h2 h3 hn c0 f0 f1
  go_enter Try.func24, Try.ntmps24
  go_wp2_with fail
  refine (failed_no g w C0.out).mono ?_
  rintro e w' ⟨rfl, rfl⟩
  go_wp2_with (at_builtin; refine wpList_append_str rfl _ _ _ _ rfl (g + 1) 5 Try.t5 Try.underlying39 Try.underlying9 (by kernel_rfl) (by kernel_rfl) (by kernel_rfl) (by kernel_rfl) _ xs.length (xs.map cell8) rfl H2.out s rfl hz hlt ?_)
  intro A' cap' w1 hown hgrow hwh
  have hne : ∀ r, (Value.slice A xs.length cap).ownBlock = some r → g + 1 ≤ r ∧ r < w.heap.size := fun r hr => owns_lt H2.out hr
  have hg1 : w1.heap[g]? = w.heap[g]? := hgrow.block g hlt (fun e => by have := (hne g e.symm).1; omega)
  have hcell : w1.heap[g]? = some (.cells #[.int .i64 0, .slice A xs.length cap] 41 (0, 0)) := hg1.trans H1.out
  obtain ⟨d0, d1, e0, e1⟩ := two_cells hcell
  have HO := Lib.hid hown
  have HG := Lib.hid hgrow
  have HW := Lib.hid hwh
  have HC := Lib.hid hcell
  clear hown hgrow hwh hg1 hcell d0 e0
  go_wp2
  go_end0
  refine ⟨rfl, wr_added H0.out H3.out HC.out HO.out HG.out HW.out, ?_⟩
  refine Kept.setCell ?_ HN.out _
  exact ⟨HG.out.os, HG.out.tape, HG.out.output, HG.out.size, fun k hk => HG.out.block k (H0.out k hk).1 (fun e => H3.out k e.symm hk)⟩

theorem add_any (g : Nat) (D : Nat → Prop) (c : Int) (xs : List UInt8) (s : ByteArray) (hz : c = 0 → xs.length + s.size ≤ 140737488355328) (w : World) (h : Wr w g D c xs) :
    Calls Try.prog 24 #[.pointer (some ⟨g, 0, none⟩), .string s] w fun e w' => e = .returned (.tuple #[]) ∧ Wr w' g D c (addB c xs s.data.toList) ∧ Kept D w w' := by
  by_cases hc : c = 0
  · subst hc
    rw [addB_no]
    exact add_no g D xs s (hz rfl) w h
  · rw [addB_yes hc]
    obtain ⟨h0, A, cap, h1, h2, h3⟩ := h
    have H0 := Lib.hid h0
    have H1 := Lib.hid h1
    have H2 := Lib.hid h2
    have H3 := Lib.hid h3
    obtain ⟨c0, c1, f0, f1⟩ := two_cells h1
    have C0 := Lib.hid c0
    have HC := Lib.hid hc
    clear h0 h1 h2 h3 c0 c1 f0 f1 hz hc
    go_enter Try.func24, Try.ntmps24
    go_wp2_with fail
    refine (failed_yes g c HC.out w C0.out).mono ?_
    rintro e w' ⟨rfl, rfl⟩
    go_wp2
    go_end0
    exact ⟨rfl, ⟨H0.out, A, cap, H1.out, H2.out, H3.out⟩, Kept.refl _ _⟩

theorem addB_len (c : Int) (xs ys : List UInt8) : (addB c xs ys).length ≤ xs.length + ys.length := by
  unfold addB; split <;> simp

theorem big_any (g : Nat) (D : Nat → Prop) (c : Int) (xs : List UInt8) (n : Nat) (hn : n < 18446744073709551616) (hz : c = 0 → xs.length + 10 ≤ 140737488355328) (w : World) (h : Wr w g D c xs) :
    Calls Try.prog 10 #[.pointer (some ⟨g, 0, none⟩), .int .u64 n] w fun e w' => e = .returned (.tuple #[]) ∧ Wr w' g D c (addB c xs (leb n)) ∧ Kept D w w' := by
  have h10 := leb_le_ten hn
  have HN := Lib.hid hn
  have HW := Lib.hid h
  have HZ := Lib.hid hz
  clear h hz
  go_enter Try.func10, Try.ntmps10
  go_wp2_with fail
  refine (NumPut.put_any n w HN.out).mono ?_
  rintro e w1 ⟨rfl, hb⟩
  have HB := Lib.hid hb
  have H1 := Lib.hid (HW.out.below hb)
  clear hb
  go_wp2_with fail
  refine (add_any g D c xs _ ?_ w1 H1.out).mono ?_
  · intro hc
    have := HZ.out hc
    show xs.length + (leb n).toArray.size ≤ _
    simp only [List.size_toArray]
    omega
  rintro e w2 ⟨rfl, h2, hk⟩
  have H2 := Lib.hid h2
  have HK := Lib.hid hk
  clear h2 hk
  go_wp2
  go_end0
  exact ⟨rfl, H2.out, (Kept.of_below HB.out (fun k hk => (HW.out.1 k hk).1)).trans HK.out⟩

theorem num_nat (g : Nat) (D : Nat → Prop) (c : Int) (xs : List UInt8) (n : Nat) (hn : n ≤ maxLen) (hz : c = 0 → xs.length + 10 ≤ 140737488355328) (w : World) (h : Wr w g D c xs) :
    Calls Try.prog 8 #[.pointer (some ⟨g, 0, none⟩), .int .i64 n] w fun e w' => e = .returned (.tuple #[]) ∧ Wr w' g D c (addB c xs (leb n)) ∧ Kept D w w' := by
  have hn' : n < 9223372036854775808 := by unfold maxLen at hn; omega
  have HN := Lib.hid hn'
  have HW := Lib.hid h
  have HZ := Lib.hid hz
  have hneg : decide ((n : Int) < 0) = false := decide_eq_false (by omega)
  have hw : IntKind.u64.wrap (n : Int) = n := IntWalk.u64_in _ (by omega)
  clear h hz hn hn'
  go_enter Try.func8, Try.ntmps8
  go_wp2_with fail
  refine (big_any g D c xs n (Nat.lt_trans HN.out (by decide)) HZ.out w HW.out).mono ?_
  rintro e w2 ⟨rfl, h2, hk⟩
  have H2 := Lib.hid h2
  have HK := Lib.hid hk
  clear h2 hk
  go_wp2
  go_end0
  exact ⟨rfl, H2.out, HK.out⟩

theorem num_neg (g : Nat) (D : Nat → Prop) (c : Int) (xs : List UInt8) (n : Int) (hn : n < 0) (w : World) (h : Wr w g D c xs) :
    Calls Try.prog 8 #[.pointer (some ⟨g, 0, none⟩), .int .i64 n] w fun e w' => e = .returned (.tuple #[]) ∧ Wr w' g D (fst c 1) xs ∧ Kept D w w' := by
  have HW := Lib.hid h
  clear h
  go_enter Try.func8, Try.ntmps8
  go_wp2_with fail
  refine (wfail_any g D c 1 xs w HW.out).mono ?_
  rintro e w2 ⟨rfl, h2, hk⟩
  have H2 := Lib.hid h2
  have HK := Lib.hid hk
  clear h2 hk
  go_wp2
  first | go_end0 | refine bodyPost_ret (results_none rfl _ _ _) rfl ?_
  exact ⟨rfl, H2.out, HK.out⟩

/-- a text's bytes -/
def txB (s : ByteArray) : List UInt8 := leb s.size ++ s.data.toList

theorem addB_two (c : Int) (xs ys zs : List UInt8) : addB c (addB c xs ys) zs = addB c xs (ys ++ zs) := by
  unfold addB; split <;> simp

theorem text_any (g : Nat) (D : Nat → Prop) (c : Int) (xs : List UInt8) (s : ByteArray) (hz : xs.length + 10 + s.size ≤ 140737488355328) (w : World) (h : Wr w g D c xs) :
    Calls Try.prog 11 #[.pointer (some ⟨g, 0, none⟩), .string s] w fun e w' => e = .returned (.tuple #[]) ∧ Wr w' g D c (addB c xs (txB s)) ∧ Kept D w w' := by
  have HW := Lib.hid h
  have HZ := Lib.hid hz
  have hsz : s.size ≤ 140737488355328 := by omega
  clear h hz
  go_enter Try.func11, Try.ntmps11
  go_wp2_with fail
  refine (num_nat g D c xs s.size (by unfold maxLen; omega) (fun _ => by have := HZ.out; omega) w HW.out).mono ?_
  rintro e w1 ⟨rfl, h1, hk1⟩
  have H1 := Lib.hid h1
  have K1 := Lib.hid hk1
  clear h1 hk1
  go_wp2_with fail
  refine (add_any g D c _ s ?_ w1 H1.out).mono ?_
  · intro _
    have h1 := addB_len c xs (leb s.size)
    have h2 := leb_le_ten (n := s.size) (by omega)
    have := HZ.out
    omega
  rintro e w2 ⟨rfl, h2, hk⟩
  rw [addB_two] at h2
  have H2 := Lib.hid h2
  have HK := Lib.hid hk
  clear h2 hk
  go_wp2
  go_end0
  exact ⟨rfl, H2.out, K1.out.trans HK.out⟩

/-- a truth's byte -/
def boB (b : Bool) : UInt8 := if b then 1 else 0

theorem bool_any (g : Nat) (D : Nat → Prop) (c : Int) (xs : List UInt8) (b : Bool) (hz : c = 0 → xs.length + 1 ≤ 140737488355328) (w : World) (h : Wr w g D c xs) :
    Calls Try.prog 13 #[.pointer (some ⟨g, 0, none⟩), .bool b] w fun e w' => e = .returned (.tuple #[]) ∧ Wr w' g D c (addB c xs [boB b]) ∧ Kept D w w' := by
  have HW := Lib.hid h
  have HZ := Lib.hid hz
  clear h hz
  cases b
  all_goals
    go_enter Try.func13, Try.ntmps13
    go_wp2_with fail
    refine (add_any g D c xs _ ?_ w HW.out).mono ?_
    · exact HZ.out
    rintro e w2 ⟨rfl, h2, hk⟩
    have H2 := Lib.hid h2
    have HK := Lib.hid hk
    clear h2 hk
    go_wp2
    go_end0
    exact ⟨rfl, H2.out, HK.out⟩

theorem run_bytes {w : World} {base : Nat} {A : Option Addr} {cap : Nat} {xs : List UInt8} (h : w.ownsRow base 5 1 (.slice A xs.length cap) xs.length (xs.map cell8)) :
    (convert 39 9 (.slice A xs.length cap)).run Try.prog w = .ok (.string ⟨xs.toArray⟩) w := by
  have hh := h
  rcases h.2 with ⟨e, h0⟩ | ⟨g, cap', cur, e, _⟩
  · have hx : xs = [] := List.length_eq_zero_iff.1 h0
    subst hx
    injection e with e1 e2 e3
    subst e1
    exact run_convert_bytes_nil (P := Try.prog) (w := w) 39 5 Try.underlying39 Try.underlying5 _ _ 9 Try.underlying9
  · injection e with e1 e2 e3
    subst e1
    have hc := hh.cells (g := g) rfl
    have := run_convert_bytes_arg (P := Try.prog) w 39 5 Try.underlying39 Try.underlying5 g 0 xs.length cap (xs.map (fun b => (b.toNat : Int))) (by simp)
      (fun i hi => by
        have h1 := hc i (cell8 xs[i]) (by simp [List.getElem?_eq_getElem hi])
        have e : (⟨g, 0, none⟩ : Addr).add i = ⟨g, 0 + i, none⟩ := by unfold Addr.add; split <;> simp_all
        rw [← e, h1]
        simp [cell8, List.getElem?_eq_getElem hi]) 9 Try.underlying9
    rw [this]
    congr 2
    unfold strOfNums
    have e : ((fun n : Int => UInt8.ofNat n.toNat) ∘ fun b : UInt8 => (b.toNat : Int)) = id := by funext b; simp
    rw [List.map_map, e, List.map_id]

theorem end_ok (g : Nat) (D : Nat → Prop) (xs : List UInt8) (w : World) (h : Wr w g D 0 xs) :
    Calls Try.prog 15 #[.pointer (some ⟨g, 0, none⟩)] w fun e w' => e = .returned (.tuple #[.string ⟨xs.toArray⟩, .int .i64 0]) ∧ w = w' := by
  obtain ⟨h0, A, cap, h1, h2, h3⟩ := h
  have hrun := run_bytes h2
  obtain ⟨c0, c1, f0, f1⟩ := two_cells h1
  have C0 := Lib.hid c0
  clear h0 h1 h2 h3 f0 f1 c0
  go_enter Try.func15, Try.ntmps15
  go_wp2_with fail
  refine (failed_no g w C0.out).mono ?_
  rintro e w' ⟨rfl, rfl⟩
  go_wp2
  go_ret2
  exact ⟨rfl, rfl⟩

theorem end_err (g : Nat) (D : Nat → Prop) (c : Int) (hc : c ≠ 0) (xs : List UInt8) (w : World) (h : Wr w g D c xs) :
    Calls Try.prog 15 #[.pointer (some ⟨g, 0, none⟩)] w fun e w' => e = .returned (.tuple #[.string ⟨#[]⟩, .int .i64 c]) ∧ ∃ n, w' = w.drewN n := by
  obtain ⟨h0, A, cap, h1, h2, h3⟩ := h
  obtain ⟨c0, c1, f0, f1⟩ := two_cells h1
  have C0 := Lib.hid c0
  have HC := Lib.hid hc
  clear h0 h1 h2 h3 f0 f1 c1 hc
  go_enter Try.func15, Try.ntmps15
  go_wp2_with fail
  refine (failed_yes g c HC.out w C0.out).mono ?_
  rintro e w' ⟨rfl, rfl⟩
  go_wp2_with fail
  go_quiet (fail)
  go_wp2
  go_ret2
  exact ⟨rfl, _, rfl⟩
end Wire
end Go.Proofs.Ythffbhpoccdjcaa
