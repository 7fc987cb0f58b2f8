/-
  The contract of slices.Delete of bytes from the front of a row of one's own: the row without them, in place. Condition: there are so many.
-/
import Derived.Test.YtnbmfoidnnfpeaaFrameState
import Derived.Deep.RegionLaw
import Derived.Lib.SliceRun
import Derived.Laws.AppendOwn
namespace Go.Proofs.Ytnbmfoidnnfpeaa
open Go.ChangeShapes Go.WideShapes Go.ChangeAt Go.RowKit Go.Lib
namespace Spl

theorem info_byte : (Try.prog.info? 5).map (fun i => (i.zero, i.size, i.bytes)) = some (some (.int .u8 0), 1, 1) := by kernel_rfl

/-- a row read cell by cell -/
theorem row_cell {w : World} {base r n cap : Nat} {xs : List UInt8} (h : w.ownsRow base 5 1 (.slice (some ⟨r, 0, none⟩) n cap) n (xs.map cell8)) :
    n = xs.length ∧ n ≤ cap ∧ cap ≤ maxLen ∧ base ≤ r ∧ ∃ cur, w.heap[r]? = some (.cells cur 5 (0, 0)) ∧ cur.size = cap ∧ ∀ i (hi : i < xs.length), cur[i]? = some (cell8 xs[i]) := by
  obtain ⟨h0, h1⟩ := h
  rcases h1 with ⟨e, _⟩ | ⟨g, cap', cur, e, hb, hg, hn, hc, hs, ht⟩
  · cases e
  · injection e with e1 e2 e3
    injection e1 with e1
    injection e1 with e1
    subst e1 e3
    have hn' : n = xs.length := by simpa using h0.symm
    refine ⟨hn', hn, hc, hb, cur, hg, by simpa using hs, fun i hi => ?_⟩
    have := congrArg (fun l => l[i]?) ht
    simp only [Nat.mul_one] at this
    rw [List.getElem?_take_of_lt (by omega), Array.getElem?_toList] at this
    rw [this, List.getElem?_map, List.getElem?_eq_getElem hi]
    rfl

theorem cur_cell {w : World} {r : Nat} {cur : Array Value} {t : TypeId} (h : w.heap[r]? = some (.cells cur t (0, 0))) (i : Nat) (hi : i < cur.size) : w.cell? ⟨r, i, none⟩ = some cur[i] ∧ w.frozen? ⟨r, i, none⟩ = false := by
  constructor
  · simp [World.cell?, h, hi]
  · simp [World.frozen?, h]

set_option maxRecDepth 100000 in
set_option maxHeartbeats 1000000 in
theorem delete_walk (r cap n j : Nat) (news : List Value) (w : World) (hj : 0 < j) (hjn : j ≤ n) (hnc : n ≤ cap) (hl : news.length = n - j) (h1 : ∀ u ∈ news, u.oneCell' = true)
    (hsrc : ∀ i u, news[i]? = some u → w.cell? ⟨r, j + i, none⟩ = some u) (hall : ∀ i, i < n → (w.cell? ⟨r, i, none⟩).isSome = true ∧ w.frozen? ⟨r, i, none⟩ = false) :
    Calls Try.prog 19 #[.slice (some ⟨r, 0, none⟩) n cap, .int .i64 0, .int .i64 j] w fun e w' => e = .returned (.slice (some ⟨r, 0, none⟩) (n - j) cap) ∧
      w' = (w.drew.setCells r 0 news).setCells r (n - j) (List.replicate j (.int .u8 0)) := by
  obtain ⟨i0, hi0, hz0, hz1, hz2⟩ := info_parts info_byte
  obtain ⟨A, hA, hsrc'⟩ : ∃ A : Addr, (if cap = j then some (⟨r, 0, none⟩ : Addr) else some ⟨r, j, none⟩) = some A ∧ Hid (∀ t u, news[t]? = some u → w.drew.cell? (A.add t) = some u) := by
    by_cases h : cap = j
    · refine ⟨⟨r, 0, none⟩, by simp [h], fun t u hu => ?_⟩
      rw [List.length_eq_zero_iff.1 (by omega : news.length = 0)] at hu
      simp at hu
    · refine ⟨⟨r, j, none⟩, by simp [h], fun t u hu => ?_⟩
      have e : (⟨r, j, none⟩ : Addr).add t = ⟨r, j + t, none⟩ := by unfold Addr.add; split <;> simp_all
      rw [e]
      exact hsrc t u hu
  have s1 : Hid (news.length = (n - j) * 1) := by rw [Nat.mul_one]; exact hl
  have s2 : Hid (∀ u ∈ news, u.oneCell' = true) := h1
  have s3 : Hid (∀ t, t < news.length → (w.drew.cell? ⟨r, 0 + 0 * 1 + t, none⟩).isSome = true ∧ w.drew.frozen? ⟨r, 0 + 0 * 1 + t, none⟩ = false) := by
    intro t ht
    simpa using hall t (by omega)
  obtain ⟨W1, hW1⟩ : ∃ W1, W1 = w.drew.setCells r (0 + 0 * 1) news := ⟨_, rfl⟩
  have hcl : ∀ ty, (Builtin.clear_ #[23] ty #[.slice (some ⟨r, n - j, none⟩) (n - (n - j)) (cap - (n - j))]).run Try.prog W1 = .ok (.tuple #[]) (W1.setCells r (n - j) (List.replicate j (.int .u8 0))) := by
    intro ty
    rw [show n - (n - j) = j by omega]
    refine Lib.run_clear_slice W1 23 5 ty (.int .u8 0) Try.underlying23 (fun w => Try.zeroValue5 w) rfl rfl r (n - j) j _ (by omega) (fun t ht => ?_) (fun t ht => ?_)
    · rw [hW1, World.cell?_setCells_out r _ _ _ _ (fun _ _ => .inr (by show 0 + 0 * 1 + news.length ≤ n - j + t; omega))]
      exact (hall _ (by omega)).1
    · rw [hW1, World.frozen?_setCells]
      exact (hall _ (by omega)).2
  have HW : Hid (W1 = w.drew.setCells r (0 + 0 * 1) news) := hW1
  have hne : ¬ ((0 : Int) = (j : Int)) := by omega
  have HL := Lib.hid hl
  clear hW1 hsrc hall hl h1
  go_enter Try.func19, Try.ntmps19
  go_wp2_with fail
  go_region_law (refine step_append_room rfl (.tmp 22) (.tmp 25) 23 rfl 5 i0 1 Try.underlying23 hi0 hz1 r 0 0 cap (by simp [Act.eval, Act.put]) A (n - j) (cap - j) news (by simp [Act.eval, Act.put]) s1.out hsrc'.out s2.out (by omega) s3.out ?_; rw [← HW.out])
  go_wp2
  go_ret
  exact ⟨rfl, by rw [HW.out]⟩
/-- DELETE FROM THE FRONT -/
theorem delete_any (r base cap j : Nat) (xs : List UInt8) (w : World) (h : w.ownsRow base 5 1 (.slice (some ⟨r, 0, none⟩) xs.length cap) xs.length (xs.map cell8)) (hj : 0 < j) (hjn : j ≤ xs.length) :
    Calls Try.prog 19 #[.slice (some ⟨r, 0, none⟩) xs.length cap, .int .i64 0, .int .i64 j] w fun e w' => e = .returned (.slice (some ⟨r, 0, none⟩) (xs.length - j) cap) ∧
      w'.ownsRow base 5 1 (.slice (some ⟨r, 0, none⟩) (xs.drop j).length cap) (xs.drop j).length ((xs.drop j).map cell8) ∧ Turned r none w w' := by
  obtain ⟨_, hnc, hcm, hbr, cur, hcur, hcs, hget⟩ := row_cell h
  have hln : ((xs.drop j).map cell8).length = xs.length - j := by simp
  refine (delete_walk r cap xs.length j ((xs.drop j).map cell8) w hj hjn hnc hln ?_ ?_ ?_).mono ?_
  · intro u hu
    obtain ⟨b, _, rfl⟩ := List.mem_map.1 hu
    rfl
  · intro i u hu
    have hi : i < xs.length - j := by
      have := (List.getElem?_eq_some_iff.1 hu).1
      omega
    rw [List.getElem?_map, List.getElem?_drop, List.getElem?_eq_getElem (by omega)] at hu
    rw [(cur_cell hcur (j + i) (by omega)).1, ← hu]
    have := hget (j + i) (by omega)
    rw [Array.getElem?_eq_getElem (by omega)] at this
    exact this
  · intro i hi
    have := cur_cell hcur i (by omega)
    exact ⟨by rw [this.1]; rfl, this.2⟩
  · rintro e w' ⟨rfl, rfl⟩
    obtain ⟨⟨c1, h1, s1, g1⟩, t1⟩ := set_row r 5 ((xs.drop j).map cell8) 0 w.drew cur hcur (by rw [hln]; omega)
    obtain ⟨⟨c2, h2, s2, g2⟩, t2⟩ := set_row r 5 (List.replicate j (.int .u8 0)) (xs.length - j) _ c1 h1 (by simp; omega)
    refine ⟨rfl, ⟨by simp, .inr ⟨r, cap, c2, rfl, hbr, h2, by simp; omega, hcm, by omega, ?_⟩⟩, (((Turned.refl r none w).drew).trans t1 (.inl rfl)).trans t2 (.inl rfl)⟩
    apply List.ext_getElem?
    intro i
    rw [Nat.mul_one, List.length_drop]
    by_cases hi : i < xs.length - j
    · rw [List.getElem?_take_of_lt hi, Array.getElem?_toList, g2 i, if_neg (by omega), g1 i, if_pos (by rw [hln]; omega), Nat.sub_zero]
    · rw [List.getElem?_eq_none (by rw [List.length_take]; omega), List.getElem?_eq_none (by rw [hln]; omega)]
end Spl
end Go.Proofs.Ytnbmfoidnnfpeaa
