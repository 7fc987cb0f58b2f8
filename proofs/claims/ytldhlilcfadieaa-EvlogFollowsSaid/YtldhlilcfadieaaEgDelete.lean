/-
  slices.Delete of events from the front of a row of one's own: the row without them, in place; what was there besides is as it was. Condition: there are so many.
-/
import Derived.Test.YtldhlilcfadieaaEgUp
import Derived.Deep.RegionLaw
import Derived.Lib.SliceRun
set_option linter.unusedVariables false
set_option linter.unusedSimpArgs false
namespace Go.Proofs.Ytldhlilcfadieaa
open Go.ChangeShapes Go.WideShapes Go.ChangeAt Go.RowKit Go.Lib
open Lists
namespace Eg

/-- all that was there is as it was, but block r -/
structure OnlyB (r : Nat) (w w' : World) : Prop where
  os : w'.os = w.os
  tape : w'.tape = w.tape
  output : w'.output = w.output
  size : w'.heap.size = w.heap.size
  block : ∀ k, k ≠ r → w'.heap[k]? = w.heap[k]?
theorem OnlyB.refl (r : Nat) (w : World) : OnlyB r w w := ⟨rfl, rfl, rfl, rfl, fun _ _ => rfl⟩
theorem OnlyB.trans {r : Nat} {a b c : World} (h : OnlyB r a b) (k : OnlyB r b c) : OnlyB r a c :=
  ⟨k.os.trans h.os, k.tape.trans h.tape, k.output.trans h.output, k.size.trans h.size, fun i hi => (k.block i hi).trans (h.block i hi)⟩
theorem OnlyB.drew {r : Nat} {a b : World} (h : OnlyB r a b) : OnlyB r a b.drew := ⟨h.os, h.tape, h.output, h.size, h.block⟩
theorem OnlyB.setCell {r : Nat} {a b : World} (h : OnlyB r a b) (o : Nat) (v : Value) : OnlyB r a (b.setCell ⟨r, o, none⟩ v) :=
  h.trans ⟨rfl, rfl, rfl, by simp [World.setCell], fun k hk => Below.heap_setCell _ _ _ _ hk⟩
/-- A ROW THAT IS WRITTEN IN PLACE -/
theorem set_row (g : Nat) (t : TypeId) : ∀ (vs : List Value) (o : Nat) (w : World) (cur : Array Value), w.heap[g]? = some (.cells cur t (0, 0)) → o + vs.length ≤ cur.size →
    (∃ cur', (w.setCells g o vs).heap[g]? = some (.cells cur' t (0, 0)) ∧ cur'.size = cur.size ∧ ∀ i, cur'[i]? = if o ≤ i ∧ i < o + vs.length then vs[i - o]? else cur[i]?) ∧ OnlyB g w (w.setCells g o vs)
  | [], o, w, cur, h, _ => ⟨⟨cur, h, rfl, fun i => by rw [if_neg (by simp only [List.length_nil]; omega)]⟩, OnlyB.refl _ _⟩
  | v :: vs, o, w, cur, h, hl => by
    have h1 := heap_setCell_same w g o cur t v h
    simp only [List.length_cons] at hl
    obtain ⟨⟨cur', h2, h3, h4⟩, h5⟩ := set_row g t vs (o + 1) (w.setCell ⟨g, o, none⟩ v) _ h1 (by simp; omega)
    refine ⟨⟨cur', h2, by simpa using h3, fun i => ?_⟩, ((OnlyB.refl g w).setCell o v).trans h5⟩
    rw [h4 i, Array.getElem?_setIfInBounds]
    simp only [List.length_cons]
    by_cases c1 : o = i
    · subst c1
      rw [if_neg (by omega), if_pos rfl, if_pos (by omega), if_pos (by omega), Nat.sub_self]
      rfl
    · by_cases c2 : o + 1 ≤ i ∧ i < o + 1 + vs.length
      · rw [if_pos c2, if_pos (by omega), show i - o = (i - (o + 1)) + 1 by omega]
        rfl
      · rw [if_neg c2, if_neg c1, if_neg (by omega)]
theorem info_evt : (Try.prog.info? 40).map (fun i => (i.zero, i.size, i.bytes)) = some (some (.agg #[.int .i64 0, .int .u64 0, .int .i64 0, .int .u64 0, .string ⟨#[]⟩, .slice none 0 0, .slice none 0 0, .slice none 0 0, .int .i64 0, .int .i64 0, .int .i64 0, .int .i64 0, .slice none 0 0, .int .i64 0, .int .i64 0]), 15, 192) := by kernel_rfl
theorem zero_cell : ∀ j, j < 15 → ((#[.int .i64 0, .int .u64 0, .int .i64 0, .int .u64 0, .string ⟨#[]⟩, .slice none 0 0, .slice none 0 0, .slice none 0 0, .int .i64 0, .int .i64 0, .int .i64 0, .int .i64 0, .slice none 0 0, .int .i64 0, .int .i64 0] : Array Value)[j]!).oneCell' = true := by
  intro j hj
  rcases (show j = 0 ∨ j = 1 ∨ j = 2 ∨ j = 3 ∨ j = 4 ∨ j = 5 ∨ j = 6 ∨ j = 7 ∨ j = 8 ∨ j = 9 ∨ j = 10 ∨ j = 11 ∨ j = 12 ∨ j = 13 ∨ j = 14 by omega) with rfl | rfl | rfl | rfl | rfl | rfl | rfl | rfl | rfl | rfl | rfl | rfl | rfl | rfl | rfl <;> rfl
theorem run_clear_evt (w : World) (b o n c : Nat) (hn : 0 < n) (hc : ∀ j, j < n * 15 → (w.cell? ⟨b, o + j, none⟩).isSome = true) (hf : ∀ j, j < n * 15 → w.frozen? ⟨b, o + j, none⟩ = false) :
    ∃ vs : List Value, vs.length = n * 15 ∧ ∀ ty : TypeId, (Builtin.clear_ #[43] ty #[.slice (some ⟨b, o, none⟩) n c]).run Try.prog w = .ok (.tuple #[]) (w.setCells b o vs) := by
  obtain ⟨zs, hzs⟩ : ∃ zs, Builtin.zeroCells (Value.agg #[.int .i64 0, .int .u64 0, .int .i64 0, .int .u64 0, .string ⟨#[]⟩, .slice none 0 0, .slice none 0 0, .slice none 0 0, .int .i64 0, .int .i64 0, .int .i64 0, .int .i64 0, .slice none 0 0, .int .i64 0, .int .i64 0]).cells n = zs := ⟨_, rfl⟩
  have hsz : zs.toList.length = n * 15 := by rw [← hzs, Array.length_toList, size_zeroCells]; rfl
  have hone : ∀ v ∈ zs.toList, v.oneCell' = true := by
    intro v hv
    rw [← hzs] at hv
    unfold Builtin.zeroCells at hv
    simp only [Array.toList_map, List.mem_map] at hv
    obtain ⟨i, _, rfl⟩ := hv
    rw [show (Value.agg #[.int .i64 0, .int .u64 0, .int .i64 0, .int .u64 0, .string ⟨#[]⟩, .slice none 0 0, .slice none 0 0, .slice none 0 0, .int .i64 0, .int .i64 0, .int .i64 0, .int .i64 0, .slice none 0 0, .int .i64 0, .int .i64 0]).cells = #[.int .i64 0, .int .u64 0, .int .i64 0, .int .u64 0, .string ⟨#[]⟩, .slice none 0 0, .slice none 0 0, .slice none 0 0, .int .i64 0, .int .i64 0, .int .i64 0, .int .i64 0, .slice none 0 0, .int .i64 0, .int .i64 0] from rfl]
    exact zero_cell (i % 15) (Nat.mod_lt _ (by decide))
  have hst := run_storeCells_cells (P := Try.prog) b o zs.toList 0 w (by rw [hsz]; simpa using hc) (by rw [hsz]; simpa using hf) hone
  simp only [Nat.add_zero] at hst
  refine ⟨zs.toList, hsz, fun ty => ?_⟩
  obtain ⟨m, rfl⟩ : ∃ m, n = m + 1 := ⟨n - 1, by omega⟩
  have hz := Try.zeroValue40
  simp [Builtin.clear_, run_underlying Try.underlying43, hz, hzs, hst]

set_option maxRecDepth 100000 in
set_option maxHeartbeats 1000000 in
theorem delete_walk (r cap n k : Nat) (news : List Value) (w : World) (hk : 0 < k) (hkn : k ≤ n) (hnc : n ≤ cap) (hcm : cap ≤ 9223372036854775807) (hl : news.length = (n - k) * 15) (h1 : ∀ u ∈ news, u.oneCell' = true)
    (hsrc : ∀ i u, news[i]? = some u → w.cell? ⟨r, k * 15 + i, none⟩ = some u) (hall : ∀ i, i < n * 15 → (w.cell? ⟨r, i, none⟩).isSome = true ∧ w.frozen? ⟨r, i, none⟩ = false) :
    Calls Try.prog 17 #[.slice (some ⟨r, 0, none⟩) n cap, .int .i64 0, .int .i64 k] w fun e w' => e = .returned (.slice (some ⟨r, 0, none⟩) (n - k) cap) ∧
      ∃ vs : List Value, vs.length = k * 15 ∧ w' = (w.drew.setCells r 0 news).setCells r ((n - k) * 15) vs := by
  obtain ⟨i0, hi0, hz0, hz1, hz2⟩ := info_parts info_evt
  obtain ⟨A, hA, hsrc'⟩ : ∃ A : Addr, (if cap = k then some (⟨r, 0, none⟩ : Addr) else some ⟨r, k * 15, none⟩) = some A ∧ Hid (∀ t u, news[t]? = some u → w.drew.cell? (A.add t) = some u) := by
    by_cases h : cap = k
    · refine ⟨⟨r, 0, none⟩, by simp [h], fun t u hu => ?_⟩
      rw [List.length_eq_zero_iff.1 (by omega : news.length = 0)] at hu
      simp at hu
    · refine ⟨⟨r, k * 15, none⟩, by simp [h], fun t u hu => ?_⟩
      have e : (⟨r, k * 15, none⟩ : Addr).add t = ⟨r, k * 15 + t, none⟩ := by unfold Addr.add; split <;> simp_all
      rw [e]
      exact hsrc t u hu
  have s1 := Lib.hid hl
  have s2 : Hid (∀ u ∈ news, u.oneCell' = true) := h1
  have s3 : Hid (∀ t, t < news.length → (w.drew.cell? ⟨r, 0 + 0 * 15 + t, none⟩).isSome = true ∧ w.drew.frozen? ⟨r, 0 + 0 * 15 + t, none⟩ = false) := by
    intro t ht
    simpa using hall t (by omega)
  obtain ⟨W1, hW1⟩ : ∃ W1, W1 = w.drew.setCells r (0 + 0 * 15) news := ⟨_, rfl⟩
  obtain ⟨vs, hvs, hcl⟩ := run_clear_evt W1 r ((n - k) * 15) (n - (n - k)) (cap - (n - k)) (by omega) (fun t ht => by
      rw [hW1, World.cell?_setCells_out r _ _ _ _ (fun _ _ => .inr (by show 0 + 0 * 15 + news.length ≤ (n - k) * 15 + t; omega))]
      exact (hall _ (by omega)).1) (fun t ht => by
      rw [hW1, World.frozen?_setCells]
      exact (hall _ (by omega)).2)
  have HW : Hid (W1 = w.drew.setCells r (0 + 0 * 15) news) := hW1
  have HVS := Lib.hid (show vs.length = k * 15 by rw [hvs]; omega)
  have hne : ¬ ((0 : Int) = (k : Int)) := by omega
  have e0 := at_row r k
  have e1 := at_row r (n - k)
  clear hW1 hsrc hall hl h1 hvs
  go_enter Try.func17, Try.ntmps17
  go_wp2_with fail
  go_region_law (refine step_append_room rfl (.tmp 22) (.tmp 25) 43 rfl 40 i0 15 Try.underlying43 hi0 hz1 r 0 0 cap (by simp [Act.eval, Act.put]) A (n - k) (cap - k) news (by simp [Act.eval, Act.put]) s1.out hsrc'.out s2.out (by omega) s3.out ?_; rw [← HW.out])
  go_wp2
  go_ret
  exact ⟨rfl, vs, HVS.out, by rw [HW.out]⟩
/-- DELETE FROM THE FRONT -/
theorem delete_any (r cap k : Nat) (L : List Evt) (w : World) (h : w.ownsRow 0 40 15 (.slice (some ⟨r, 0, none⟩) L.length cap) L.length (flatE L)) (hk : 0 < k) (hkn : k ≤ L.length) :
    Calls Try.prog 17 #[.slice (some ⟨r, 0, none⟩) L.length cap, .int .i64 0, .int .i64 k] w fun e w' => e = .returned (.slice (some ⟨r, 0, none⟩) (L.length - k) cap) ∧
      w'.ownsRow 0 40 15 (.slice (some ⟨r, 0, none⟩) (L.drop k).length cap) (L.drop k).length (flatE (L.drop k)) ∧ OnlyB r w w' := by
  obtain ⟨hnc, hcm⟩ := own_cap h
  obtain ⟨cur, hcur, hcs, hget⟩ : ∃ cur, w.heap[r]? = some (.cells cur 40 (0, 0)) ∧ cur.size = cap * 15 ∧ cur.toList.take (L.length * 15) = flatE L := by
    rcases h.2 with ⟨e1, e2⟩ | ⟨g', cap', cur, e1, _, e2, e3, e4, e5, e6⟩
    · cases e1
    · injection e1 with e1 _ e7; injection e1 with e1; injection e1 with e1
      subst e1 e7
      exact ⟨cur, e2, e5, e6⟩
  have hln : (flatE (L.drop k)).length = (L.length - k) * 15 := by rw [flatE_length, List.length_drop]
  refine (delete_walk r cap L.length k (flatE (L.drop k)) w hk hkn hnc (by unfold maxLen at hcm; exact hcm) hln (flatE_one _) ?_ ?_).mono ?_
  · intro i u hu
    have hi := (List.getElem?_eq_some_iff.1 hu).1
    rw [hln] at hi
    rw [h.cellAt (k * 15 + i) (by omega), ← hu, ← flatE_drop, List.getElem?_drop]
  · intro i hi
    refine ⟨?_, h.frozenAt _⟩
    rw [h.cellAt i hi, List.getElem?_eq_getElem (by rw [flatE_length]; exact hi)]
    rfl
  · rintro e w' ⟨rfl, vs, hvs, rfl⟩
    obtain ⟨⟨c1, h1, s1, g1⟩, t1⟩ := set_row r 40 (flatE (L.drop k)) 0 w.drew cur hcur (by rw [hln, hcs]; omega)
    obtain ⟨⟨c2, h2, s2, g2⟩, t2⟩ := set_row r 40 vs ((L.length - k) * 15) _ c1 h1 (by rw [hvs, s1, hcs]; omega)
    refine ⟨rfl, ⟨by rw [flatE_length], .inr ⟨r, cap, c2, rfl, Nat.zero_le _, h2, by rw [List.length_drop]; omega, hcm, by rw [s2, s1, hcs], ?_⟩⟩, (((OnlyB.refl r w).drew).trans t1).trans t2⟩
    apply List.ext_getElem?
    intro i
    rw [List.length_drop]
    by_cases hi : i < (L.length - k) * 15
    · rw [List.getElem?_take_of_lt hi, Array.getElem?_toList, g2 i, if_neg (by omega), g1 i, if_pos (by rw [hln]; omega), Nat.sub_zero]
    · rw [List.getElem?_eq_none (by rw [List.length_take]; omega), List.getElem?_eq_none (by rw [hln]; omega)]
/-- .. of none -/
theorem delete_zero (A : Option Addr) (n cap : Nat) (hnc : n ≤ cap) (hcm : cap ≤ 9223372036854775807) (w : World) :
    Calls Try.prog 17 #[.slice A n cap, .int .i64 0, .int .i64 0] w fun e w' => e = .returned (.slice A n cap) ∧ w = w' := by
  have h1 : (n : Int) ≤ (cap : Int) := by omega
  go_enter Try.func17, Try.ntmps17
  go_wp2
  go_ret
  exact ⟨rfl, rfl⟩
end Eg
end Go.Proofs.Ytldhlilcfadieaa
