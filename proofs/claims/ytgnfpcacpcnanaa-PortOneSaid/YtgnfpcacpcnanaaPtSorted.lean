/-
  slices.ContainsFunc with what is no port, and slices.Sorted of slices.Values: a call's ports held against their range, and sorted in memory of the call's own. Conditions: the ports lie in memory, there are not too many.
-/
import Derived.Test.YtgnfpcacpcnanaaPtIter
import Derived.Test.YtgnfpcacpcnanaaShelf6
import Derived.Lib.SlKeysI
set_option linter.unusedVariables false
set_option linter.unusedSimpArgs false
namespace Go.Proofs.Ytgnfpcacpcnanaa
open Go.ChangeShapes Go.WideShapes Go.ChangeAt Go.RowKit Go.Lib
open Lists
namespace Pt

attribute [local go_sem] Oper.semAt_some

theorem nums_below {w w' : World} {A : Option Addr} {l : List Int} (h : Nums .i64 w A l) (hb : Below w.heap.size w w') : Nums .i64 w' A l := by
  intro k z hz
  obtain ⟨h1, a, h2, h3, h4⟩ := h k z hz
  exact ⟨h1, a, h2, Nat.lt_of_lt_of_le h3 hb.size, (hb.cell (by rw [add_block]; exact h3)).trans h4⟩
theorem nopo_any (p : Int) (w : World) : Calls Try.prog 19 #[.int .i64 p] w fun e w' => e = .returned (.bool (!inR p)) ∧ w' = w := by
  obtain ⟨z, hz⟩ : ∃ z, (!inR p) = z := ⟨_, rfl⟩
  rw [hz]
  have HZ := Lib.hid hz
  clear hz
  by_cases h1 : p < 1
  · have hd : decide (p < 1) = true := decide_eq_true h1
    go_enter Try.func19, Try.ntmps19
    go_wp2
    all_goals (go_ret; refine ⟨?_, rfl⟩; rw [← HZ.out]; unfold inR; rw [decide_eq_false (by omega)]; rfl)
  · by_cases h2 : 65535 < p
    · have hd : decide (p < 1) = false := decide_eq_false h1
      have hd2 : decide (65535 < p) = true := decide_eq_true h2
      go_enter Try.func19, Try.ntmps19
      go_wp2
      all_goals (go_ret; refine ⟨?_, rfl⟩; rw [← HZ.out]; unfold inR; rw [decide_eq_false (by omega)]; rfl)
    · have hd : decide (p < 1) = false := decide_eq_false h1
      have hd2 : decide (65535 < p) = false := decide_eq_false h2
      go_enter Try.func19, Try.ntmps19
      go_wp2
      all_goals (go_ret; refine ⟨?_, rfl⟩; rw [← HZ.out]; unfold inR; rw [decide_eq_true (by omega)]; rfl)
/-- the first that is no port; -1: none -/
def idxN : Nat → List Int → Int
  | _, [] => -1
  | k, x :: l => if inR x = true then idxN (k + 1) l else (k : Int)
theorem idxN_spec : ∀ (l : List Int) (k : Nat), (idxN k l = -1 ∧ l.all inR = true) ∨ (0 ≤ idxN k l ∧ l.all inR = false)
  | [], k => .inl ⟨rfl, rfl⟩
  | x :: l, k => by
    unfold idxN
    cases h : inR x with
    | true =>
      rw [if_pos rfl, List.all_cons, h, Bool.true_and]
      exact idxN_spec l (k + 1)
    | false =>
      rw [if_neg (by simp), List.all_cons, h, Bool.false_and]
      exact .inr ⟨by omega, rfl⟩
set_option maxRecDepth 100000 in
theorem indexN_any (A : Option Addr) (c : Nat) (l : List Int) (w : World) (h : Nums .i64 w A l) (hn : l.length ≤ 100000) :
    Calls Try.prog 27 #[.slice A l.length c, .func (.func 19) #[] #[]] w fun e w' => e = .returned (.int .i64 (idxN 0 l)) ∧ w' = w := by
  have H := Lib.hid h
  obtain ⟨R, hR⟩ : ∃ R, idxN 0 l = R := ⟨_, rfl⟩
  obtain ⟨n, hln⟩ : ∃ n, l.length = n := ⟨_, rfl⟩
  have HLN := Lib.hid hln
  rw [hln] at hn
  rw [hR, hln]
  have HR := Lib.hid hR
  clear h hR hln
  have hn' : (n : Int) ≤ 100000 := by omega
  go_enter Try.func27, Try.ntmps27
  go_wp2
  go_loopw [8] (fun i wr => ∃ k : Nat, k ≤ n ∧ i = .int .i64 k ∧ wr = w ∧ Hid (R = idxN k (l.drop k))) (fun i _ => n - (RowKit.intOf i).toNat)
  case atStart => exact ⟨0, Nat.zero_le _, rfl, by trivial, by unfold Hid; rw [← HR.out, List.drop_zero]⟩
  case round =>
    obtain ⟨k, hk, rfl, rfl, HK⟩ := hrel
    by_cases hkn : k < n
    · obtain ⟨y, hy⟩ : ∃ y, l[k]? = some y := ⟨_, List.getElem?_eq_getElem (by have := HLN.out; omega)⟩
      obtain ⟨_, a, rfl, _, hca⟩ := H.out k y hy
      have hd : l.drop k = y :: l.drop (k + 1) := by
        rw [List.drop_eq_getElem_cons (by have := HLN.out; omega), (List.getElem?_eq_some_iff.1 hy).2]
      have hc := nopo_any y wr
      have hkn' : (k : Int) < (n : Int) := by omega
      clear hy
      cases hyo : inR y with
      | false =>
        rw [hyo] at hc
        have HK2 := Lib.hid (show R = (k : Int) by rw [HK.out, hd]; unfold idxN; rw [if_neg (by rw [hyo]; simp)])
        clear hyo hd
        go_wp2_with (go_at_call 19; refine hc.mono ?_; rintro e w' ⟨rfl, rfl⟩)
        go_ret
        exact ⟨by rw [HK2.out]; rfl, rfl⟩
      | true =>
        rw [hyo] at hc
        have HK2 := Lib.hid (show R = idxN (k + 1) (l.drop (k + 1)) by rw [HK.out, hd]; conv => lhs; unfold idxN; rw [if_pos hyo])
        clear hyo hd
        go_wp2_with (go_at_call 19; refine hc.mono ?_; rintro e w' ⟨rfl, rfl⟩)
        go_roundw
        case rel => exact ⟨k + 1, by omega, by simp, by trivial, HK2.out⟩
        case measure => simp [RowKit.intOf]; omega
    · have hkn' : ¬ (k : Int) < (n : Int) := by omega
      have HK2 := Lib.hid (show R = -1 by rw [HK.out, List.drop_eq_nil_of_le (by have := HLN.out; omega)]; rfl)
      go_wp2
      go_ret
      exact ⟨by rw [HK2.out]; rfl, rfl⟩
theorem contains_any (A : Option Addr) (c : Nat) (l : List Int) (w : World) (h : Nums .i64 w A l) (hn : l.length ≤ 100000) :
    Calls Try.prog 18 #[.slice A l.length c, .func (.func 19) #[] #[]] w fun e w' => e = .returned (.bool (!l.all inR)) ∧ w' = w := by
  have hi := indexN_any A c l w h hn
  have hs := idxN_spec l 0
  generalize idxN 0 l = R at hi hs
  obtain ⟨b, hb⟩ : ∃ b, l.all inR = b := ⟨_, rfl⟩
  rw [hb] at hs ⊢
  generalize l.length = n at hi ⊢
  clear h hn hb
  rcases hs with ⟨rfl, rfl⟩ | ⟨h0, rfl⟩
  · go_enter Try.func18, Try.ntmps18
    go_wp2_with (go_at_call 27; refine hi.mono ?_; rintro e w' ⟨rfl, rfl⟩)
    go_ret
    exact ⟨rfl, rfl⟩
  · go_enter Try.func18, Try.ntmps18
    go_wp2_with (go_at_call 27; refine hi.mono ?_; rintro e w' ⟨rfl, rfl⟩)
    go_ret
    exact ⟨by simp [h0], rfl⟩
theorem info_in : (Try.prog.info? 3).map (fun i => (i.zero, i.size, i.bytes)) = some (some (.int .i64 0), 1, 8) := by kernel_rfl
set_option maxRecDepth 100000 in
set_option maxHeartbeats 2000000 in
theorem appendSeq_in (b : Nat) (l : List Int) (A : Option Addr) (c : Nat) (w : World) (hb : w.heap[b]? = some (.cells #[.slice A l.length c] 26 (0, 0))) (hA : Nums .i64 w A l) (hl : l.length ≤ 100000) :
    CallsIn Fence.wide 5 Try.prog 39 #[.slice none 0 0, .func (.func 30) #[] #[.pointer (some ⟨b, 0, none⟩)]] w fun e w' => ∃ A' c', e = .returned (.slice A' l.length c') ∧ w'.ownsRow w.heap.size 3 1 (.slice A' l.length c') l.length (l.map (Value.int .i64)) ∧ Below w.heap.size w w' := by
  obtain ⟨i0, hi, hz0, hz1, hz2⟩ := info_parts info_in
  refine callsIn_of_wp_marks Try.func39 rfl trivial ?_ rfl
  simp only [Try.ntmps39, List.size_toArray, List.length_cons, List.length_nil, Nat.reduceAdd, Nat.reduceSub, Array.replicate_succ, Array.replicate_zero, List.push_toArray, List.append_toArray, List.nil_append, List.cons_append]
  gi_wp2
  have bO := Boxed.new w 26 (.slice none 0 0)
  have hB0 : Below w.heap.size w (w.alloc (.cells #[.slice none 0 0] 26)) := (Below.refl _ w).alloc (Nat.le_refl _) _
  refine wpIn_rangeFunc_ownG rfl (by omega) (gf := 30) (lb := #[.pointer (some ⟨b, 0, none⟩)]) rfl trivial (enters_of Try.func30 (by kernel_rfl) rfl)
    (values_stops 4 (by omega) b l A c w hb hA hl) Kk.trans (fun W l o o' h => Kk.put (n := w.heap.size) (fun k hk => hk) W l o o' (by simp at h; omega)) hB0 (fun _ => rfl)
    (fun (pre : List Int) W => (∃ v, Boxed W w.heap.size 26 v ∧ W.ownsRow w.heap.size 3 1 v pre.length (pre.map (Value.int .i64)) ∧ True) ∧ Below w.heap.size w W)
    (fun _ _ _ => False)
    (OwnFrom.and (Own.from (holdsRow_own w.heap.size w.heap.size 26 3 1 (fun pre : List Int => pre.length) (fun pre : List Int => pre.map (Value.int .i64)) (fun _ _ => True)) _) (ownFrom_below (Nat.le_refl _) (by simp)))
    (fun _ _ _ _ _ hs _ _ => hs)
    ⟨⟨_, bO, World.ownsRow_nil _ _ _ _, trivial⟩, hB0⟩
    (fun x => { tmps := #[.slice none 0 0, .func (.func 30) #[] #[.pointer (some ⟨b, 0, none⟩)], .pointer (some ⟨w.heap.size, 0, none⟩), undef, .slice none 0 0, .int .i64 x, .func (.func 30) #[] #[.pointer (some ⟨b, 0, none⟩)], .int .i64 x, undef, undef, undef, undef, undef], defers := [] }) ?assign ?body ?done ?stop
  case assign =>
    intro l x W K hK
    gi_wp2
    exact hK
  case body =>
    rintro l0 pre x W ⟨⟨v, hv, hrow, _⟩, hB⟩ hlt
    have hc := hv.cell
    gi_wp2_with (gi_at_builtin; refine wpListIn_append_own _ rfl _ _ 26 rfl w.heap.size 3 i0 (.int .i64 0) 1 8 Try.underlying26 hi hz0 hz1 hz2 rfl (by decide) _ _ _ rfl (hrow.alloc _) ⟨W.heap.size, 0, none⟩ 1 1 [.int .i64 x] rfl rfl (cell_one_new _ _ _) (by simp [Value.oneCell']) (by unfold maxLen; omega) (by omega) (by have := hB.size; simp; omega) ?_; intro v' w1 hown' hgrow _; obtain ⟨g', cap', rfl⟩ := ownsRow_succ hown'; obtain ⟨hv1, hv2, hr2, hk2, hb2⟩ := hv.appended (by decide) hrow hB.size (Nat.le_refl _) hown' hgrow; have hc1 := hv1.cell; have hf1 := hv1.frozen)
    exact ⟨hk2.from _, Kk.of_below (fun k hk => hk) hb2, ⟨_, hv2, by simpa using hr2, trivial⟩, hB.trans hb2⟩
  case done =>
    rintro D ys W hD rfl ⟨⟨v, hv, hrow, _⟩, hB⟩ hK
    have hc := hv.cell
    gi_wp2
    refine ⟨by simp, .inl ⟨_, _, rfl, run_takeDeferred hK, ?_⟩⟩
    obtain ⟨A', c', rfl⟩ := own_form hrow
    exact ⟨_, results_tmp rfl _ _ _, A', c', rfl, ownsRow_putObj hrow _ hK rfl, hB.trans (belowK_b (w := w) (Nat.le_refl _) W D _ _ (by simp at hD; omega) hK rfl rfl)⟩
  case stop =>
    rintro D c pre W _ _ h _
    exact h.elim
theorem collect_any (b : Nat) (l : List Int) (A : Option Addr) (c : Nat) (w : World) (hb : w.heap[b]? = some (.cells #[.slice A l.length c] 26 (0, 0))) (hA : Nums .i64 w A l) (hl : l.length ≤ 100000) :
    Calls Try.prog 28 #[.func (.func 30) #[] #[.pointer (some ⟨b, 0, none⟩)]] w fun e w' => ∃ A' c', e = .returned (.slice A' l.length c') ∧ w'.ownsRow w.heap.size 3 1 (.slice A' l.length c') l.length (l.map (Value.int .i64)) ∧ Below w.heap.size w w' := by
  have hs := (callsIn_wide (n := 5)).1 (appendSeq_in b l A c w hb hA hl)
  go_enter Try.func28, Try.ntmps28
  go_wp2_with (go_at_call 39; refine hs.mono ?_; rintro e w' ⟨A', c', rfl, hrow, hbb⟩; have HR := Lib.hid hrow; have HB := Lib.hid hbb; clear hrow hbb)
  go_ret
  exact ⟨A', c', rfl, HR.out, HB.out⟩
set_option maxRecDepth 100000 in
theorem sorted_any (b : Nat) (l : List Int) (A : Option Addr) (c : Nat) (w : World) (hb : w.heap[b]? = some (.cells #[.slice A l.length c] 26 (0, 0))) (hA : Nums .i64 w A l) (hl : l.length ≤ 100000) :
    Calls Try.prog 20 #[.func (.func 30) #[] #[.pointer (some ⟨b, 0, none⟩)]] w fun e w' => ∃ A' c', e = .returned (.slice A' l.length c') ∧ w'.ownsRow w.heap.size 3 1 (.slice A' l.length c') l.length ((sortI l).map (Value.int .i64)) ∧ Below w.heap.size w w' := by
  have hs := collect_any b l A c w hb hA hl
  have HW := Lib.hid (show w.heap.size ≤ w.heap.size from Nat.le_refl _)
  obtain ⟨n, hln⟩ : ∃ n, l.length = n := ⟨_, rfl⟩
  have HLN := Lib.hid hln
  have hl4 : l.length < 4611686018427387904 := by omega
  have HL4 := Lib.hid hl4
  rw [hln] at hs ⊢
  clear hb hA hl hln hl4
  have HSORT := Lib.hid (show ∀ (A' : Option Addr) (c' : Nat) (v : World), v.ownsRow w.heap.size 3 1 (.slice A' n c') n (l.map (Value.int .i64)) → Below w.heap.size w v →
      Calls Try.prog 29 #[.slice A' n c'] v fun e w' => e = .returned (.tuple #[]) ∧ w'.ownsRow w.heap.size 3 1 (.slice A' n c') n ((sortI l).map (Value.int .i64)) ∧ Below w.heap.size w w' from by
    intro A' c' v hrow hbv
    rcases hrow.2 with ⟨e1, e2⟩ | ⟨gb, cap, cur, e1, hbase, hgb, r1, r2, r3, r4⟩
    · injection e1 with e1 e3 e4
      subst e1 e2 e4
      have hnil : l = [] := List.eq_nil_of_length_eq_zero HLN.out
      have cS := AnyM.slices_Sort_int_none Try.sortL none 0 v
      change Calls Try.prog 29 _ _ _ at cS
      refine cS.mono ?_
      rintro e w' ⟨rfl, rfl⟩
      exact ⟨rfl, by rw [hnil, show sortI [] = [] by unfold sortI; simp]; exact World.ownsRow_nil _ _ _ _, hbv⟩
    · injection e1 with e1 e3 e4
      subst e1 e4
      have r4' : cur.toList.take l.length = l.map encZ := by rw [HLN.out]; simpa using r4
      have hH : Go.Sort.Holds encZ v gb 0 l.toArray := holds_of_block_i hgb r4'
      have hgl := lt_of_block hgb
      have cS := AnyM.slices_Sort_int Try.sortL gb 0 c' l v hH hgl HL4.out
      change Calls Try.prog 29 _ _ _ at cS
      rw [HLN.out] at cS
      refine cS.mono ?_
      rintro e w' ⟨rfl, k, os, rfl⟩
      refine ⟨rfl, ?_, hbv.grown (grownBy_sorted_i _) hbv.size (fun j hj => by cases hj; exact hbase)⟩
      have := ownsRow_sorted_i (w := v) (os := os) (n := k) (ts := sortI l) (ss := l) (by unfold sortI; simp) hbase hgb (by rw [HLN.out]; exact r1) r2 r3
      rw [HLN.out] at this
      exact this)
  go_enter Try.func20, Try.ntmps20
  go_wp2_with (first
    | (go_at_call 28; refine hs.mono ?_; clear hs; rintro e w1 ⟨A', c', rfl, hrow, hbb⟩; have hso := HSORT.out A' c' w1 hrow hbb; clear hrow hbb)
    | (go_at_call 29; refine hso.mono ?_; clear hso; rintro e w2 ⟨rfl, hrow, hbb⟩; have HR := Lib.hid hrow; have HB := Lib.hid hbb; clear hrow hbb))
  go_ret
  exact ⟨A', c', rfl, HR.out, HB.out⟩
end Pt
end Go.Proofs.Ytgnfpcacpcnanaa
