/-
  The laws' event of an act; Since of what is below the floor; and the chapter's example comes out true. What was there is left as it was. No condition.
-/
import Derived.Test.YtldhlilcfadieaaEgAfter
set_option linter.unusedVariables false
set_option linter.unusedSimpArgs false
namespace Go.Proofs.Ytldhlilcfadieaa
open Go.ChangeShapes Go.WideShapes Go.ChangeAt Go.RowKit Go.Lib
open Lists
namespace Eg

theorem results_event (tmps : Array Value) (w : World) (b : Nat) (vs : List Value) (h2 : tmps.getD 2 undef = .pointer (some ⟨b, 0, none⟩)) (hX : w.heap[b]? = some (.cells vs.toArray 40 (0, 0))) (hl : vs.length = 15) :
    (results Try.f8 tmps).run Try.prog w = .ok (.agg vs.toArray) w := by
  have hr := range_at hX 0 vs (by rw [List.drop_zero]; exact List.take_of_length_le (Nat.le_refl _))
  have hld : (loadVar 40 ⟨b, 0, none⟩).run Try.prog w = .ok (.agg vs.toArray) w := run_loadVar_mid w b 0 40 vs _ hr Try.underlying40 rfl (by rw [hl]; kernel_rfl)
  simp only [results, Try.results8]
  simp only [Array.getD_eq_getD_getElem?] at h2
  have ha : (asAddr (tmps[2]?.getD undef)).run Try.prog w = .ok ⟨b, 0, none⟩ w := by rw [h2]; rfl
  simp [Sem.run_bind, hld, ha]
set_option maxRecDepth 100000 in
set_option maxHeartbeats 2000000 in
theorem event_any (k n : Int) (r : Nat) (hn : (Lit.int .i64 n).wf = true) (w : World) :
    Calls Try.prog 8 #[.agg #[.int .i64 k, .int .i64 n, .int .u64 (r : Int)]] w fun e w' => e = .returned (.agg #[.int .i64 n, .int .u64 r, .int .i64 n, .int .u64 0, .string ⟨#[]⟩, .slice none 0 0, .slice none 0 0, .slice none 0 0, .int .i64 0, .int .i64 0, .int .i64 0, .int .i64 0, .slice (some ⟨w.heap.size + 1 + 1, 0, none⟩) 1 1, .int .i64 0, .int .i64 0]) ∧ Nums .i64 w' (some ⟨w.heap.size + 1 + 1, 0, none⟩) [n] ∧ Below w.heap.size w w' := by
  have HN := Lib.hid hn
  clear hn
  obtain ⟨w0, hw0⟩ : ∃ v, ((w.alloc (.cells #[.int .i64 k, .int .i64 n, .int .u64 (r : Int)] 29)).alloc (.cells #[.int .i64 0, .int .u64 0, .int .i64 0, .int .u64 0, .string ⟨#[]⟩, .slice none 0 0, .slice none 0 0, .slice none 0 0, .int .i64 0, .int .i64 0, .int .i64 0, .int .i64 0, .slice none 0 0, .int .i64 0, .int .i64 0] 40)).alloc (.cells #[.int .i64 n] 3) = v := ⟨_, rfl⟩
  have B0 := Lib.hid (show Below w.heap.size w w0 by rw [← hw0]; exact (((Below.refl _ _).alloc (Nat.le_refl _) _).alloc (by simp) _).alloc (by simp; omega) _)
  have Y0 := Lib.hid (show w0.heap[w.heap.size + 1]? = some (.cells #[.int .i64 0, .int .u64 0, .int .i64 0, .int .u64 0, .string ⟨#[]⟩, .slice none 0 0, .slice none 0 0, .slice none 0 0, .int .i64 0, .int .i64 0, .int .i64 0, .int .i64 0, .slice none 0 0, .int .i64 0, .int .i64 0] 40 (0, 0)) by rw [← hw0]; exact (Below.heap_alloc _ _ _ (by simp)).trans (two_new w _ _).2)
  have R0 := Lib.hid (show w0.heap[w.heap.size + 1 + 1]? = some (.cells #[.int .i64 n] 3 (0, 0)) by rw [← hw0]; have := heap_alloc_new ((w.alloc (.cells #[.int .i64 k, .int .i64 n, .int .u64 (r : Int)] 29)).alloc (.cells #[.int .i64 0, .int .u64 0, .int .i64 0, .int .u64 0, .string ⟨#[]⟩, .slice none 0 0, .slice none 0 0, .slice none 0 0, .int .i64 0, .int .i64 0, .int .i64 0, .int .i64 0, .slice none 0 0, .int .i64 0, .int .i64 0] 40)) (.cells #[.int .i64 n] 3); simpa using this)
  obtain ⟨v1, hv1⟩ : ∃ v, w0.setCells (w.heap.size + 1) 0 [.int .i64 n, .int .u64 r, .int .i64 n, .int .u64 0, .string ⟨#[]⟩, .slice none 0 0, .slice none 0 0, .slice none 0 0, .int .i64 0, .int .i64 0, .int .i64 0, .int .i64 0, .slice (some ⟨w.heap.size + 1 + 1, 0, none⟩) 1 1, .int .i64 0, .int .i64 0] = v := ⟨_, rfl⟩
  have Y1 := Lib.hid (show v1.heap[w.heap.size + 1]? = some (.cells #[.int .i64 n, .int .u64 r, .int .i64 n, .int .u64 0, .string ⟨#[]⟩, .slice none 0 0, .slice none 0 0, .slice none 0 0, .int .i64 0, .int .i64 0, .int .i64 0, .int .i64 0, .slice (some ⟨w.heap.size + 1 + 1, 0, none⟩) 1 1, .int .i64 0, .int .i64 0] 40 (0, 0)) by rw [← hv1]; exact box_into Y0.out 0 _ (over_15 _ _ _ _ _ _ _ _ _ _ _ _ _ _ _ _ _ _ _ _ _ _ _ _ _ _ _ _ _ _))
  have R1 := Lib.hid (show v1.heap[w.heap.size + 1 + 1]? = some (.cells #[.int .i64 n] 3 (0, 0)) by rw [← hv1]; exact ((setCells_other (by omega) _ 0 w0).1).trans R0.out)
  have B1 := Lib.hid (show Below w.heap.size w v1 by rw [← hv1]; exact below_cells (by omega) _ 0 B0.out)
  have TH := Lib.hid (show w0.there (w.heap.size + 1) 0 15 from box_there Y0.out 0 15 (by decide))
  have ONE := Lib.hid (show (#[.int .i64 n, .int .u64 r, .int .i64 n, .int .u64 0, .string ⟨#[]⟩, .slice none 0 0, .slice none 0 0, .slice none 0 0, .int .i64 0, .int .i64 0, .int .i64 0, .int .i64 0, .slice (some ⟨w.heap.size + 1 + 1, 0, none⟩) 1 1, .int .i64 0, .int .i64 0] : Array Value).all (·.oneCell') = true by simp [Value.oneCell'])
  have HV := Lib.hid hv1
  clear hv1
  go_enter Try.func8, Try.ntmps8
  go_wp2_with (first | (refine wpList_store_to rfl 40 _ _ rfl _ _ _ rfl rfl TH.out (by kernel_rfl) ONE.out HV.out ?_))
  refine bodyPost_ret (v := .agg #[.int .i64 n, .int .u64 r, .int .i64 n, .int .u64 0, .string ⟨#[]⟩, .slice none 0 0, .slice none 0 0, .slice none 0 0, .int .i64 0, .int .i64 0, .int .i64 0, .int .i64 0, .slice (some ⟨w.heap.size + 1 + 1, 0, none⟩) 1 1, .int .i64 0, .int .i64 0]) (results_event _ _ (w.heap.size + 1) [.int .i64 n, .int .u64 r, .int .i64 n, .int .u64 0, .string ⟨#[]⟩, .slice none 0 0, .slice none 0 0, .slice none 0 0, .int .i64 0, .int .i64 0, .int .i64 0, .int .i64 0, .slice (some ⟨w.heap.size + 1 + 1, 0, none⟩) 1 1, .int .i64 0, .int .i64 0] rfl Y1.out rfl) rfl ?_
  refine ⟨rfl, fun j z hj => ?_, B1.out⟩
  have hj0 : j = 0 := by have := (List.getElem?_eq_some_iff.1 hj).1; simp at this; omega
  subst hj0
  simp at hj
  subst hj
  exact ⟨HN.out, _, rfl, lt_of_block R1.out, box_cell R1.out 0 rfl⟩
theorem cloneEvts_none (w : World) : Calls Try.prog 19 #[.slice none 0 0] w fun e w' => e = .returned (.slice none 0 0) ∧ w = w' := by
  have hq' : ∀ v, (binOp .eql 43 (.slice none 0 0) (.slice none 0 0)).run Try.prog v = .ok (.bool true) v := fun v => Lib.run_eql_slice_nil v _ _ none 0 0 0 0 Try.underlying43
  go_enter Try.func19, Try.ntmps19
  go_wp2
  go_ret
  exact ⟨rfl, rfl⟩
theorem since_old {g : Nat} {D : Nat → Prop} {rs : List Nat} {fl mo : Nat} (b : Nat) (w : World) (h : Lg w g D rs fl mo) (hb : b < fl) :
    Calls Try.prog 14 #[.pointer (some ⟨g, 0, none⟩), .int .u64 (b : Int)] w fun e w' => (∃ v, e = .returned (.tuple #[v, .int .i64 120])) ∧ Below w.heap.size w w' := by
  have H := Lib.hid h
  clear h
  go_enter Try.func14, Try.ntmps14
  go_wp2_with fail
  refine (above_old b _ H.out hb).mono ?_
  rintro e w' ⟨rfl, rfl⟩
  go_wp2_with fail
  refine (cloneEvts_none _).mono ?_
  rintro e w' ⟨rfl, rfl⟩
  go_wp2_with fail
  go_ret2
  exact ⟨⟨_, rfl⟩, (Below.refl _ _).alloc (Nat.le_refl _) _⟩
theorem good0 : Good 0 [] 2 := ⟨up_nil 0, by decide, (fun r hr => by cases hr), by decide, by decide, by decide⟩
theorem good1 : Good 0 [1] 2 := ad_good (r := 1) good0 (by decide)
theorem good2 : Good 0 [1, 3] 2 := ad_good (r := 3) good1 (by decide)
theorem good3 : Good 1 [3, 4] 2 := ad_good (r := 4) good2 (by decide)
theorem ad0 : adR [] 0 2 1 = [1] ∧ adF [] 0 2 1 = 0 ∧ adC [] 0 1 = 0 := by decide
theorem ad1 : adR [1] 0 2 3 = [1, 3] ∧ adF [1] 0 2 3 = 0 ∧ adC [1] 0 3 = 0 := by decide
theorem ad2 : adR [1, 3] 0 2 4 = [3, 4] ∧ adF [1, 3] 0 2 4 = 1 ∧ adC [1, 3] 0 4 = 0 := by decide
theorem add_at {g : Nat} {D : Nat → Prop} {rs rs' : List Nat} {fl fl' mo : Nat} (r : Nat) (G : Good fl rs mo) (h3 : adR rs fl mo r = rs' ∧ adF rs fl mo r = fl' ∧ adC rs fl r = 0) (w : World) (h : Lg w g D rs fl mo) (hds : ∀ b, D b → b < w.heap.size) :
    Calls Try.prog 7 #[.pointer (some ⟨g, 0, none⟩), .agg #[.int .i64 0, .int .u64 r, .int .i64 0, .int .u64 0, .string ⟨#[]⟩, .slice none 0 0, .slice none 0 0, .slice none 0 0, .int .i64 0, .int .i64 0, .int .i64 0, .int .i64 0, .slice none 0 0, .int .i64 0, .int .i64 0]] w fun e w' => e = .returned (.int .i64 0) ∧ Lg w' g D rs' fl' mo ∧ Kp D w w' := by
  obtain ⟨e1, e2, e3⟩ := h3
  have := add_any (⟨0, 0, r, none, 0, []⟩ : Evt) w h G (fun k z hk => by simp at hk) (by simp) (fun a ha => by cases ha) hds
  rw [show (⟨0, 0, r, none, 0, []⟩ : Evt).rev = r from rfl, e1, e2, e3] at this
  exact this
theorem after_at {g : Nat} {D : Nat → Prop} (w : World) (h : Lg w g D [3, 4] 1 2) :
    Calls Try.prog 10 #[.pointer (some ⟨g, 0, none⟩), .int .u64 1, .int .i64 9] w fun e w' => ∃ r c', e = .returned (.tuple #[.slice (some ⟨r, 0, none⟩) 2 c', .int .i64 0]) ∧ w'.cell? ⟨r, 1, none⟩ = some (.int .u64 3) ∧ Below w.heap.size w w' := by
  obtain ⟨L, A, c, hL, h⟩ := h
  have hl : L.length = 2 := by have := congrArg List.length hL; simpa using this
  have hu : upN (L.map Evt.rev) 1 = 0 := by rw [hL]; decide
  refine (after_new 1 9 w h (by omega) (by rw [hL]; decide) (by decide) 0 hu 2 (by rw [hl]; decide)).mono ?_
  rintro e w' ⟨A', c', E, rfl, ho, hE, hb⟩
  obtain ⟨r, rfl⟩ := own_addr ho (by decide)
  refine ⟨r, c', rfl, ?_, hb⟩
  rw [hL] at hE
  have hE2 : E.map Evt.rev = [3, 4] := hE
  obtain ⟨x, E', rfl⟩ : ∃ x E', E = x :: E' := by
    cases E with
    | nil => simp at hE2
    | cons x E' => exact ⟨x, E', rfl⟩
  have hx : x.rev = 3 := by simp at hE2; exact hE2.1
  have hc := ho.cellAt 1 (by decide)
  rw [hc]
  show some (Value.int .u64 (x.rev : Int)) = _
  rw [hx]
  rfl
set_option maxRecDepth 100000 in
set_option maxHeartbeats 2000000 in
theorem works_any (w : World) : Calls Try.prog 5 #[] w fun e w' => e = .returned (.bool true) ∧ Below w.heap.size w w' := by
  go_enter Try.func5, Try.ntmps5
  go_wp2_with fail
  refine (new_any 2 (by decide) 2 (by decide) _).mono ?_
  rintro e w1 ⟨rfl, hl1, hb1⟩
  have H1 := Lib.hid hl1
  have B1 := Lib.hid hb1
  have D1 := Lib.hid (show ∀ b, b < w.heap.size → b < w1.heap.size from fun b hb => Nat.lt_of_lt_of_le hb hb1.size)
  clear hl1 hb1
  go_wp2_with fail
  refine (add_at 1 good0 ad0 w1 H1.out D1.out).mono ?_
  rintro e w2 ⟨rfl, hl2, hk2⟩
  have H2 := Lib.hid hl2
  have K2 := Lib.hid hk2
  have D2 := Lib.hid (show ∀ b, b < w.heap.size → b < w2.heap.size from fun b hb => Nat.lt_of_lt_of_le (D1.out b hb) hk2.size)
  clear hl2 hk2
  go_wp2_with fail
  refine (add_at 3 good1 ad1 w2 H2.out D2.out).mono ?_
  rintro e w3 ⟨rfl, hl3, hk3⟩
  have H3 := Lib.hid hl3
  have K3 := Lib.hid (K2.out.trans hk3)
  have D3 := Lib.hid (show ∀ b, b < w.heap.size → b < w3.heap.size from fun b hb => Nat.lt_of_lt_of_le (D2.out b hb) hk3.size)
  clear hl3 hk3
  go_wp2_with fail
  refine (add_at 4 good2 ad2 w3 H3.out D3.out).mono ?_
  rintro e w4 ⟨rfl, hl4, hk4⟩
  have H4 := Lib.hid hl4
  have B4 := Lib.hid (B1.out.trans ((K3.out.trans hk4).below B1.out.size (fun _ h => h)))
  clear hl4 hk4
  go_wp2_with fail
  refine (since_old 0 w4 H4.out (by decide)).mono ?_
  rintro e w5 ⟨⟨v, rfl⟩, hb5⟩
  have H5 := Lib.hid (H4.out.below hb5)
  have B5 := Lib.hid (B4.out.trans (hb5.mono B4.out.size))
  clear hb5
  go_wp2_with fail
  refine (after_at w5 H5.out).mono ?_
  rintro e w6 ⟨r, c', rfl, hc6, hb6⟩
  have H6 := Lib.hid (H5.out.below hb6)
  have B6 := Lib.hid (B5.out.trans (hb6.mono B5.out.size))
  clear hb6
  go_wp2_with fail
  refine (floor_any w6 H6.out).mono ?_
  rintro e w7 ⟨rfl, rfl⟩
  go_wp2_with fail
  go_ret
  exact ⟨rfl, B6.out⟩
end Eg
end Go.Proofs.Ytldhlilcfadieaa
