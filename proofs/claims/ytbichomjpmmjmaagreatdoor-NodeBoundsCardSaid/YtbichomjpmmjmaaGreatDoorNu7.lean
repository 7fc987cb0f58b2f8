/-
  All of an owner's ports freed: slices.IndexFunc and slices.DeleteFunc of table entries, in place. Condition: the table is one (Tb).
-/
import Derived.Test.YtbichomjpmmjmaaGreatDoorNu6
import Derived.Test.YtbichomjpmmjmaaGreatDoorChecked
import Derived.Test.YtbichomjpmmjmaaGreatDoorNu0
import Derived.Test.YtbichomjpmmjmaaGreatDoorNu5
import Derived.Test.YtbichomjpmmjmaaGreatDoorNu3
import Derived.Lib.SliceRun
import Derived.Laws.OwnMore
import Derived.MapKept
import Derived.Laws.IdiomRangeMap
import Derived.Maps.OwnSet
import Derived.Maps.RangeWalk
import Derived.WalkKit
import Derived.ProofKit
import Derived.OwnWalk
import Derived.Lib.Hide
import Derived.Laws.Rows
import Derived.Laws.AppendOwn
import Derived.Maps.AppendAt
import Derived.Deep.MidRow
import Derived.BigQuiet
import Derived.Deep.QuietTactic
import Derived.Below
set_option linter.unusedVariables false
set_option linter.unusedSimpArgs false
namespace Go.Proofs.YtbichomjpmmjmaaGreatDoor
open Go.ChangeShapes Go.WideShapes Go.ChangeAt Go.RowKit Go.Lib
namespace Pt
/-- the first entry of the owner; -1: none -/
def idxO (o : Int) : Nat → Tab → Int
  | _, [] => -1
  | k, x :: l => if x.2 = o then (k : Int) else idxO o (k + 1) l
theorem idx_spec (o : Int) : ∀ (l : Tab) (k : Nat), (idxO o k l = -1 ∧ ∀ x ∈ l, x.2 ≠ o) ∨ ∃ i, idxO o k l = ((k + i : Nat) : Int) ∧ i < l.length ∧ freeL (l.take (i + 1)) o = l.take i
  | [], k => .inl ⟨rfl, fun x hx => by simp at hx⟩
  | x :: l, k => by
    by_cases hx : x.2 = o
    · refine .inr ⟨0, by unfold idxO; rw [if_pos hx]; simp, by simp, ?_⟩
      simp [freeL, hx]
    · rcases idx_spec o l (k + 1) with ⟨h1, h2⟩ | ⟨i, h1, h2, h3⟩
      · refine .inl ⟨by unfold idxO; rw [if_neg hx, h1], fun y hy => ?_⟩
        rcases List.mem_cons.1 hy with rfl | hy
        · exact hx
        · exact h2 y hy
      · refine .inr ⟨i + 1, by unfold idxO; rw [if_neg hx, h1]; congr 1; omega, by simp; omega, ?_⟩
        rw [List.take_succ_cons, List.take_succ_cons, ← h3]
        simp [freeL, hx]
theorem gone_any (x : Int × Int) (b : Nat) (o : Int) (w : World) (hb : w.cell? ⟨b, 0, none⟩ = some (.int .i64 o)) (hlt : b < w.heap.size) :
    Calls Tryz.prog 71 #[.agg #[.int .i64 x.1, .int .i64 x.2], .pointer (some ⟨b, 0, none⟩)] w fun e w' => e = .returned (.bool (decide (x.2 = o))) ∧ Below w.heap.size w w' := by
  have hne : b ≠ w.heap.size := by omega
  go_enter Tryz.func71, Tryz.ntmps71
  go_wp2
  all_goals (go_ret; refine ⟨?_, (Below.refl _ _).alloc (Nat.le_refl _) _⟩; by_cases h : x.2 = o <;> simp_all)
set_option maxRecDepth 100000 in
set_option maxHeartbeats 1000000 in
theorem index_any {B : Nat} {l : Tab} {A : Option Addr} {c : Nat} (b : Nat) (o : Int) (w : World) (h : w.ownsRow B 110 2 (.slice A l.length c) l.length (flat l)) (hb : w.cell? ⟨b, 0, none⟩ = some (.int .i64 o)) (hlt : b < w.heap.size) (hn : l.length ≤ 100000) :
    Calls Tryz.prog 90 #[.slice A l.length c, .func (.func 71) #[] #[.pointer (some ⟨b, 0, none⟩)]] w fun e w' => e = .returned (.int .i64 (idxO o 0 l)) ∧ Below w.heap.size w w' := by
  have H := Lib.hid h
  have HB := Lib.hid hb
  obtain ⟨R, hR⟩ : ∃ R, idxO o 0 l = R := ⟨_, rfl⟩
  obtain ⟨n, hln⟩ : ∃ n, l.length = n := ⟨_, rfl⟩
  have HLN := Lib.hid hln
  rw [hln] at hn
  rw [hR, hln]
  have HR := Lib.hid hR
  clear h hb hR hln
  have hn' : (n : Int) ≤ 100000 := by omega
  go_enter Tryz.func90, Tryz.ntmps90
  go_wp2
  go_loopw [8] (fun i wr => ∃ k : Nat, k ≤ n ∧ i = .int .i64 k ∧ Hid (R = idxO o k (l.drop k)) ∧ Hid (Below w.heap.size w wr)) (fun i _ => n - (RowKit.intOf i).toNat)
  case atStart => exact ⟨0, Nat.zero_le _, rfl, by unfold Hid; rw [← HR.out, List.drop_zero], Below.refl _ _⟩
  case round =>
    obtain ⟨k, hk, rfl, HK, HW⟩ := hrel
    by_cases hkn : k < n
    · obtain ⟨y, hy⟩ : ∃ y, l[k]? = some y := ⟨_, List.getElem?_eq_getElem (by have := HLN.out; omega)⟩
      obtain ⟨r, rfl, hr, k1, k2⟩ := row_at (owns_below H.out HW.out) hy
      have hd : l.drop k = y :: l.drop (k + 1) := by
        rw [List.drop_eq_getElem_cons (by have := HLN.out; omega), (List.getElem?_eq_some_iff.1 hy).2]
      have hc := gone_any y b o wr ((HW.out.cell (p := ⟨b, 0, none⟩) hlt).trans HB.out) (Nat.lt_of_lt_of_le hlt HW.out.size)
      have hkn' : (k : Int) < (n : Int) := by omega
      clear hy
      by_cases hyo : y.2 = o
      · rw [decide_eq_true hyo] at hc
        have HK2 := Lib.hid (show R = (k : Int) by rw [HK.out, hd]; unfold idxO; rw [if_pos hyo])
        clear hyo hd
        go_wp2_with (go_at_call 71; refine hc.mono ?_; rintro e w' ⟨rfl, hbb⟩; have HBB := Lib.hid hbb; clear hbb)
        go_ret
        exact ⟨by rw [HK2.out]; rfl, HW.out.trans (HBB.out.mono HW.out.size)⟩
      · rw [decide_eq_false hyo] at hc
        have HK2 := Lib.hid (show R = idxO o (k + 1) (l.drop (k + 1)) by rw [HK.out, hd]; conv => lhs; unfold idxO; rw [if_neg hyo])
        clear hyo hd
        go_wp2_with (go_at_call 71; refine hc.mono ?_; rintro e w' ⟨rfl, hbb⟩; have HBB := Lib.hid hbb; clear hbb)
        go_roundw
        case rel => exact ⟨k + 1, by omega, by simp, HK2.out, HW.out.trans (HBB.out.mono HW.out.size)⟩
        case measure => simp [RowKit.intOf]; omega
    · have hkn' : ¬ (k : Int) < (n : Int) := by omega
      have HK2 := Lib.hid (show R = -1 by rw [HK.out, List.drop_eq_nil_of_le (by have := HLN.out; omega)]; rfl)
      go_wp2
      go_ret
      exact ⟨by rw [HK2.out]; rfl, HW.out⟩
/-- all that was there is as it was, but block r -/
structure OnlyB (r : Nat) (w w' : World) : Prop where
  os : w'.os = w.os
  tape : w'.tape = w.tape
  output : w'.output = w.output
  size : w'.heap.size = w.heap.size
  block : ∀ k, k ≠ r → w'.heap[k]? = w.heap[k]?
theorem OnlyB.refl (r : Nat) (w : World) : OnlyB r w w := ⟨rfl, rfl, rfl, rfl, fun _ _ => rfl⟩
theorem OnlyB.trans {r : Nat} {a b c : World} (h : OnlyB r a b) (k : OnlyB r b c) : OnlyB r a c :=
  ⟨k.os.trans h.os, k.tape.trans h.tape, k.output.trans h.output, k.size.trans h.size, fun i hi => (k.block i hi).trans (h.block i hi)⟩
theorem OnlyB.setCell {r : Nat} {a b : World} (h : OnlyB r a b) (o : Nat) (v : Value) : OnlyB r a (b.setCell ⟨r, o, none⟩ v) :=
  h.trans ⟨rfl, rfl, rfl, by simp [World.setCell], fun k hk => Below.heap_setCell _ _ _ _ hk⟩
theorem OnlyB.grown {r : Nat} {a b : World} (h : OnlyB r a b) : a.grownBy b (some r) := ⟨h.os, h.tape, h.output, Nat.le_of_eq h.size.symm, fun k _ hk => h.block k (fun e => hk (by rw [e]))⟩
/-- a row that is written in place -/
theorem set_row (g : Nat) (t : TypeId) : ∀ (vs : List Value) (o : Nat) (w : World) (cur : Array Value), w.heap[g]? = some (.cells cur t (0, 0)) → o + vs.length ≤ cur.size →
    (∃ cur', (w.setCells g o vs).heap[g]? = some (.cells cur' t (0, 0)) ∧ cur'.size = cur.size ∧ ∀ i, cur'[i]? = if o ≤ i ∧ i < o + vs.length then vs[i - o]? else cur[i]?) ∧ OnlyB g w (w.setCells g o vs)
  | [], o, w, cur, h, _ => ⟨⟨cur, h, rfl, fun i => by rw [if_neg (by simp only [List.length_nil]; omega)]⟩, OnlyB.refl _ _⟩
  | v :: vs, o, w, cur, h, hl => by
    have h1 := heap_setCell_same w g o cur t v h
    simp only [List.length_cons] at hl
    obtain ⟨⟨cur', h2, h3, h4⟩, h5⟩ := set_row g t vs (o + 1) (w.setCell ⟨g, o, none⟩ v) _ h1 (by simp; omega)
    refine ⟨⟨cur', h2, by simpa using h3, fun i => ?_⟩, ((OnlyB.refl g w).setCell o v).trans h5⟩
    rw [h4 i, Array.getElem?_setIfInBounds]
    simp only [List.length_cons]
    by_cases c1 : o = i
    · subst c1
      rw [if_neg (by omega), if_pos rfl, if_pos (by omega), if_pos (by omega), Nat.sub_self]
      rfl
    · by_cases c2 : o + 1 ≤ i ∧ i < o + 1 + vs.length
      · rw [if_pos c2, if_pos (by omega), show i - o = (i - (o + 1)) + 1 by omega]
        rfl
      · rw [if_neg c2, if_neg c1, if_neg (by omega)]
theorem flat_set : ∀ (M : Tab) (i : Nat) (x : Int × Int), ((flat M).set (i * 2) (.int .i64 x.1)).set (i * 2 + 1) (.int .i64 x.2) = flat (M.set i x)
  | [], i, x => by simp [flat]
  | y :: M, 0, x => by simp [flat]
  | y :: M, i + 1, x => by
    rw [show (i + 1) * 2 = i * 2 + 1 + 1 by omega]
    simp only [flat, List.set_cons_succ, flat_set M i x]
theorem set_two {w : World} {B r n c : Nat} {M : Tab} (h : w.ownsRow B 110 2 (.slice (some ⟨r, 0, none⟩) n c) n (flat M)) (i : Nat) (x : Int × Int) :
    ((w.setCell ⟨r, i * 2, none⟩ (.int .i64 x.1)).setCell ⟨r, i * 2 + 1, none⟩ (.int .i64 x.2)).ownsRow B 110 2 (.slice (some ⟨r, 0, none⟩) n c) n (flat (M.set i x)) ∧
    w.grownBy ((w.setCell ⟨r, i * 2, none⟩ (.int .i64 x.1)).setCell ⟨r, i * 2 + 1, none⟩ (.int .i64 x.2)) (some r) := by
  obtain ⟨h1, g1⟩ := h.stored (i * 2) (.int .i64 x.1)
  obtain ⟨h2, g2⟩ := h1.stored (i * 2 + 1) (.int .i64 x.2)
  rw [flat_set] at h2
  exact ⟨h2, g1.trans g2⟩
/-- the row's front, what is behind it written anew -/
theorem cut_row {w : World} {B r n c : Nat} {M : Tab} (h : w.ownsRow B 110 2 (.slice (some ⟨r, 0, none⟩) n c) n (flat M)) (i : Nat) (hi : i ≤ n) (vs : List Value) (hv : vs.length = (n - i) * 2) :
    (w.setCells r (i * 2) vs).ownsRow B 110 2 (.slice (some ⟨r, 0, none⟩) i c) i (flat (M.take i)) ∧ w.grownBy (w.setCells r (i * 2) vs) (some r) := by
  obtain ⟨cur, hB, hcur, hnc, hcm, hcs, hget⟩ : ∃ cur, B ≤ r ∧ w.heap[r]? = some (.cells cur 110 (0, 0)) ∧ n ≤ c ∧ c ≤ maxLen ∧ cur.size = c * 2 ∧ cur.toList.take (n * 2) = flat M := by
    rcases h.2 with ⟨e1, e2⟩ | ⟨g', cap', cur, e1, e0, e2, e3, e4, e5, e6⟩
    · cases e1
    · injection e1 with e1 _ e7; injection e1 with e1; injection e1 with e1
      subst e1 e7
      exact ⟨cur, e0, e2, e3, e4, e5, e6⟩
  obtain ⟨⟨c1, h1, s1, g1⟩, t1⟩ := set_row r 110 vs (i * 2) w cur hcur (by rw [hv, hcs]; omega)
  have hml : M.length = n := by have := h.1; rw [flat_length] at this; omega
  refine ⟨⟨by rw [flat_length, List.length_take]; omega, .inr ⟨r, c, c1, rfl, hB, h1, by omega, hcm, by rw [s1, hcs], ?_⟩⟩, t1.grown⟩
  rw [← flat_take, ← hget, List.take_take, Nat.min_eq_left (by omega)]
  apply List.ext_getElem?
  intro k
  by_cases hk : k < i * 2
  · rw [List.getElem?_take_of_lt hk, List.getElem?_take_of_lt hk, Array.getElem?_toList, Array.getElem?_toList, g1 k, if_neg (by omega)]
  · rw [List.getElem?_eq_none (by rw [List.length_take]; omega), List.getElem?_eq_none (by rw [List.length_take]; omega)]
theorem info_tk : (Tryz.prog.info? 110).map (fun i => (i.zero, i.size, i.bytes)) = some (some (.agg #[.int .i64 0, .int .i64 0]), 2, 16) := by kernel_rfl
theorem at_row (r k : Nat) : (⟨r, 0, none⟩ : Addr).add (k * 2) = ⟨r, k * 2, none⟩ := by unfold Addr.add; split <;> simp_all
theorem run_clear_tk (w : World) (b o n c : Nat) (hn : 0 < n) (hc : ∀ j, j < n * 2 → (w.cell? ⟨b, o + j, none⟩).isSome = true) (hf : ∀ j, j < n * 2 → w.frozen? ⟨b, o + j, none⟩ = false) :
    ∃ vs : List Value, vs.length = n * 2 ∧ ∀ ty : TypeId, (Builtin.clear_ #[98] ty #[.slice (some ⟨b, o, none⟩) n c]).run Tryz.prog w = .ok (.tuple #[]) (w.setCells b o vs) := by
  obtain ⟨zs, hzs⟩ : ∃ zs, Builtin.zeroCells (Value.agg #[.int .i64 0, .int .i64 0]).cells n = zs := ⟨_, rfl⟩
  have hsz : zs.toList.length = n * 2 := by rw [← hzs, Array.length_toList, size_zeroCells]; rfl
  have hone : ∀ v ∈ zs.toList, v.oneCell' = true := by
    intro v hv
    rw [← hzs] at hv
    unfold Builtin.zeroCells at hv
    simp only [Array.toList_map, List.mem_map] at hv
    obtain ⟨i, _, rfl⟩ := hv
    rw [show (Value.agg #[.int .i64 0, .int .i64 0]).cells = #[.int .i64 0, .int .i64 0] from rfl]
    rcases (show i % 2 = 0 ∨ i % 2 = 1 by omega) with h | h <;> simp only [List.size_toArray, List.length_cons, List.length_nil, Nat.reduceAdd, h] <;> rfl
  have hst := run_storeCells_cells (P := Tryz.prog) b o zs.toList 0 w (by rw [hsz]; simpa using hc) (by rw [hsz]; simpa using hf) hone
  simp only [Nat.add_zero] at hst
  refine ⟨zs.toList, hsz, fun ty => ?_⟩
  obtain ⟨m, rfl⟩ : ∃ m, n = m + 1 := ⟨n - 1, by omega⟩
  have hz := Tryz.zeroValue110
  simp [Builtin.clear_, run_underlying Tryz.underlying98, hz, hzs, hst]
theorem free_step {l : Tab} {j : Nat} {y : Int × Int} (hy : l[j]? = some y) (o : Int) : freeL (l.take (j + 1)) o = if y.2 = o then freeL (l.take j) o else freeL (l.take j) o ++ [y] := by
  rw [List.take_add_one, hy]
  unfold freeL
  rw [List.filter_append]
  split <;> rename_i h <;> simp [h]
set_option maxRecDepth 100000 in
set_option maxHeartbeats 2000000 in
theorem delete_any {B : Nat} {l : Tab} {A : Option Addr} {c : Nat} (b : Nat) (o : Int) (w : World) (h : w.ownsRow B 110 2 (.slice A l.length c) l.length (flat l)) (hb : w.heap[b]? = some (.cells #[.int .i64 o] 3 (0, 0))) (hn : l.length ≤ 100000) :
    Calls Tryz.prog 70 #[.slice A l.length c, .func (.func 71) #[] #[.pointer (some ⟨b, 0, none⟩)]] w fun e w' => e = .returned (.slice A (freeL l o).length c) ∧
      w'.ownsRow B 110 2 (.slice A (freeL l o).length c) (freeL l o).length (flat (freeL l o)) ∧ w.grownBy w' (Value.slice A l.length c).ownBlock := by
  have hbc := box_cell hb 0 rfl
  have hblt := lt_of_block hb
  have hi := index_any b o w h hbc hblt hn
  rcases idx_spec o l 0 with ⟨h1, h2⟩ | ⟨i0, h1, h2, h3⟩
  · rw [h1] at hi
    have H := Lib.hid h
    have HF := Lib.hid (free_none h2)
    clear h hb hbc h1 h2
    go_enter Tryz.func70, Tryz.ntmps70
    go_wp2_with (go_at_call 90; refine hi.mono ?_; rintro e w' ⟨rfl, hbb⟩; have HBB := Lib.hid hbb; clear hbb)
    go_ret
    refine ⟨by rw [HF.out]; rfl, by rw [HF.out]; exact owns_below H.out HBB.out, ?_⟩
    have hx := HBB.out
    exact ⟨hx.os, hx.tape, hx.output, hx.size, fun k hk _ => hx.block k hk⟩
  · rw [h1, Nat.zero_add] at hi
    rcases own_addr h with ⟨_, h0, _⟩ | ⟨r, rfl, hBr, hr⟩
    · omega
    · obtain ⟨hnc, hcm⟩ := own_cap h
      have H := Lib.hid h
      have HBX := Lib.hid hb
      have HI := Lib.hid h3
      obtain ⟨n, hln⟩ : ∃ n, l.length = n := ⟨_, rfl⟩
      have HLN := Lib.hid hln
      rw [hln] at hn h2 hnc hi H ⊢
      have hbr : b ≠ r := by
        rintro rfl
        obtain ⟨_, cur, hc⟩ := owns_at h rfl
        rw [hb] at hc
        cases hc
      clear h hb hbc h1 h3 hln
      have hn' : (n : Int) ≤ 100000 := by omega
      have hm1 : ((i0 : Int) == -1) = false := by
        rw [beq_eq_false_iff_ne]; omega
      go_enter Tryz.func70, Tryz.ntmps70
      go_wp2_with (go_at_call 90; refine hi.mono ?_; rintro e w1 ⟨rfl, hbb⟩; have HBB := Lib.hid hbb; clear hbb)
      clear hi
      go_loopw [5, 6] (fun s5 s6 wr => ∃ (i j : Nat) (M : Tab), s5 = .int .i64 i ∧ s6 = .int .i64 j ∧ i < j ∧ j ≤ n ∧ Hid (M.length = n) ∧ Hid (M.take i = freeL (l.take j) o) ∧ Hid (M.drop j = l.drop j) ∧
        Hid (wr.ownsRow B 110 2 (.slice (some ⟨r, 0, none⟩) n c) n (flat M)) ∧ Hid (w.grownBy wr (some r))) (fun _ j _ => n - (RowKit.intOf j).toNat)
      case atStart =>
        refine ⟨i0, i0 + 1, l, rfl, by simp, by omega, by omega, HLN.out, HI.out.symm, rfl, ?_, ?_⟩
        · have := owns_below H.out HBB.out
          exact this
        · have hx := HBB.out
          exact ⟨hx.os, hx.tape, hx.output, hx.size, fun k hk _ => hx.block k hk⟩
      case round =>
        obtain ⟨i, j, M, rfl, rfl, hij, hjn, HM, HT, HD, HO, HG⟩ := hrel
        by_cases hj : j < n
        · obtain ⟨y, hy⟩ : ∃ y, l[j]? = some y := ⟨_, List.getElem?_eq_getElem (by have := HLN.out; omega)⟩
          have hMy : M[j]? = some y := by
            have e := congrArg (fun (x : Tab) => x[0]?) HD.out
            simpa [hy] using e
          have HO2 : wr.ownsRow B 110 2 (.slice (some ⟨r, 0, none⟩) M.length c) M.length (flat M) := by rw [HM.out]; exact HO.out
          obtain ⟨r2, er, hr2, k1, k2⟩ := row_at HO2 hMy
          obtain ⟨z, hMz⟩ : ∃ z, M[i]? = some z := ⟨_, List.getElem?_eq_getElem (by have := HM.out; omega)⟩
          obtain ⟨r3, er3, _, z1, z2⟩ := row_at HO2 hMz
          cases er
          cases er3
          have f1 := HO2.frozenAt (i * 2)
          have f2 := HO2.frozenAt (i * 2 + 1)
          have hbw : wr.cell? ⟨b, 0, none⟩ = some (.int .i64 o) := box_cell ((HG.out.block b hblt (by simpa using hbr)).trans HBX.out) 0 rfl
          have hbl : b < wr.heap.size := Nat.lt_of_lt_of_le hblt HG.out.size
          have hne1 : b ≠ wr.heap.size := by omega
          have hne2 : r ≠ wr.heap.size := by omega
          have HS := Lib.hid (free_step hy o)
          have hjn' : (j : Int) < (n : Int) := by omega
          have hin' : (i : Int) < (n : Int) := by omega
          have HMY := Lib.hid hMy
          clear hy hMy hMz HO2
          obtain ⟨u, hu⟩ : ∃ u, wr.alloc (.cells #[.int .i64 y.1, .int .i64 y.2] 110) = u := ⟨_, rfl⟩
          have hBu : Below wr.heap.size wr u := by rw [← hu]; exact (Below.refl _ _).alloc (Nat.le_refl _) _
          have hbx : u.heap[wr.heap.size]? = some (.cells #[.int .i64 y.1, .int .i64 y.2] 110 (0, 0)) := by rw [← hu]; exact heap_alloc_new wr _
          have hus : wr.heap.size < u.heap.size := lt_of_block hbx
          have hgo := gone_any y b o u ((hBu.cell (p := ⟨b, 0, none⟩) hbl).trans hbw) (Nat.lt_of_lt_of_le hbl hBu.size)
          have HU := Lib.hid hu
          have HBX := Lib.hid hbx
          have HBU := Lib.hid hBu
          have HUS := Lib.hid hus
          have HOU := Lib.hid (owns_below HO.out hBu)
          have Z1 := Lib.hid ((hBu.cell (p := ⟨r, i * 2, none⟩) hr2).trans z1)
          have Z2 := Lib.hid ((hBu.cell (p := ⟨r, i * 2 + 1, none⟩) hr2).trans z2)
          have HR := Lib.hid (Nat.lt_of_lt_of_le hr2 hBu.size)
          clear hu hBu hbx hus z1 z2 f1 f2
          by_cases hyo : y.2 = o
          · have HYO := Lib.hid hyo
            rw [decide_eq_true hyo] at hgo
            clear hyo
            go_wp2_with (go_at_call 71; rw [HU.out]; refine hgo.mono ?_; rintro e w2 ⟨rfl, hbb⟩; have HB2 := Lib.hid hbb; clear hbb)
            go_roundw
            case rel =>
              refine ⟨i, j + 1, M, rfl, by simp, by omega, by omega, HM.out, ?_, ?_, owns_below HOU.out HB2.out, ?_⟩
              · show M.take i = _
                rw [HS.out, if_pos HYO.out, HT.out]
              · show M.drop (j + 1) = l.drop (j + 1)
                rw [← List.drop_drop, HD.out, List.drop_drop]
              · have hx := HBU.out
                have hx2 := HB2.out
                exact (HG.out.trans ⟨hx.os, hx.tape, hx.output, hx.size, fun k hk _ => hx.block k hk⟩).trans ⟨hx2.os, hx2.tape, hx2.output, hx2.size, fun k hk _ => hx2.block k hk⟩
            case measure => simp [RowKit.intOf]; omega
          · have HYO := Lib.hid hyo
            rw [decide_eq_false hyo] at hgo
            clear hyo
            go_wp2_with (go_at_call 71; rw [HU.out]; refine hgo.mono ?_; rintro e w2 ⟨rfl, hbb⟩
                         have v1 := (hbb.cell (p := ⟨wr.heap.size, 0, none⟩) HUS.out).trans (box_cell HBX.out 0 rfl)
                         have v2 := (hbb.cell (p := ⟨wr.heap.size, 1, none⟩) HUS.out).trans (box_cell HBX.out 1 rfl)
                         have y1 := (hbb.cell (p := ⟨r, i * 2, none⟩) HR.out).trans Z1.out
                         have y2 := (hbb.cell (p := ⟨r, i * 2 + 1, none⟩) HR.out).trans Z2.out
                         have ho2 := owns_below HOU.out hbb
                         have f1 := ho2.frozenAt (i * 2)
                         have f2 := ho2.frozenAt (i * 2 + 1)
                         have HO2 := Lib.hid ho2; have HB2 := Lib.hid hbb; clear hbb ho2)
            go_roundw
            case rel =>
              obtain ⟨h5, h6⟩ := set_two HO2.out i y
              have ht : (M.take i).length = i := by rw [List.length_take, HM.out]; omega
              refine ⟨i + 1, j + 1, M.set i y, by simp, by simp, by omega, by omega, ?_, ?_, ?_, h5, ?_⟩
              · show (M.set i y).length = n
                rw [List.length_set]; exact HM.out
              · show (M.set i y).take (i + 1) = _
                rw [HS.out, if_neg HYO.out, ← HT.out, List.take_add_one, List.take_set_of_le (Nat.le_refl _), List.getElem?_set_self (by have := HM.out; omega)]
                rfl
              · show (M.set i y).drop (j + 1) = l.drop (j + 1)
                rw [List.drop_set_of_lt (by omega), ← List.drop_drop, HD.out, List.drop_drop]
              · have hx := HBU.out
                have hx2 := HB2.out
                exact ((HG.out.trans ⟨hx.os, hx.tape, hx.output, hx.size, fun k hk _ => hx.block k hk⟩).trans ⟨hx2.os, hx2.tape, hx2.output, hx2.size, fun k hk _ => hx2.block k hk⟩).trans h6
            case measure => simp [RowKit.intOf]; omega
        · have hjn2 : j = n := by omega
          have hci : ¬ (c = i) := by omega
          have e1 := at_row r i
          obtain ⟨vs, hvs, hcl⟩ := run_clear_tk wr r (i * 2) (n - i) (c - i) (by omega) (fun t ht => by
              rw [HO.out.cellAt (i * 2 + t) (by omega), List.getElem?_eq_getElem (by rw [flat_length, HM.out]; omega)]; rfl) (fun t ht => HO.out.frozenAt _)
          obtain ⟨h5, h6⟩ := cut_row HO.out i (by omega) vs hvs
          have H5 := Lib.hid h5
          have H6 := Lib.hid h6
          have HTT := Lib.hid (show M.take i = freeL l o by rw [HT.out, hjn2, ← HLN.out, List.take_length])
          have hjn' : ¬ (j : Int) < (n : Int) := by omega
          have hin0 : (0 : Int) ≤ (i : Int) := by omega
          have hin1 : (i : Int) ≤ (n : Int) := by omega
          have hin2 : (n : Int) ≤ (c : Int) := by omega
          clear h5 h6 hvs hjn2
          go_wp2
          go_ret
          have hfi : (freeL l o).length = i := by rw [← HTT.out, List.length_take, HM.out]; omega
          refine ⟨by rw [hfi]; rfl, ?_, HG.out.trans H6.out⟩
          rw [hfi, ← HTT.out]; exact H5.out
theorem grown_kt {B g : Nat} {w w' : World} {v : Value} {e n : Nat} {xs : List Value} (h : w.ownsRow B 110 e v n xs) (hg : w.grownBy w' v.ownBlock) : Kt B g w w' :=
  ⟨hg.os, hg.tape, hg.output, hg.size, fun k hk _ hd => hg.block k hk (fun e' => by
    obtain ⟨h1, cur, hc⟩ := owns_at h e'.symm
    rcases hd with hd | hd
    · omega
    · exact hd ⟨cur, hc⟩)⟩
/-- a store into the table's box -/
theorem set_tb {B g n' c' : Nat} {w : World} {l l' : Tab} {A A' : Option Addr} {c : Nat} (hB : B ≤ g) (hb : w.heap[g]? = some (.cells #[.slice A l.length c] 100 (0, 0))) (hr : w.ownsRow B 110 2 (.slice A' n' c') n' (flat l')) (hn : n' = l'.length) :
    Tb B (w.setCell ⟨g, 0, none⟩ (.slice A' n' c')) g l' ∧ Kt B g w (w.setCell ⟨g, 0, none⟩ (.slice A' n' c')) := by
  subst hn
  refine ⟨⟨A', c', hB, box_set hb 0 _ rfl, owns_of hr fun r he => ?_⟩, ⟨rfl, rfl, rfl, by simp [World.setCell], fun k hk hkg _ => Below.heap_setCell _ _ _ _ hkg⟩⟩
  obtain ⟨_, cur, hc⟩ := owns_at hr he
  refine Below.heap_setCell _ _ _ _ ?_
  rintro rfl
  rw [hb] at hc
  cases hc
theorem tb_store {B g c c' : Nat} {u w2 : World} {l l' : Tab} {A A' : Option Addr} (h : TbAt B u g l A c) (hrow : w2.ownsRow B 110 2 (.slice A' l'.length c') l'.length (flat l')) (hgr : u.grownBy w2 (Value.slice A l.length c).ownBlock) :
    w2.cell? ⟨g, 0, none⟩ = some (.slice A l.length c) ∧ w2.frozen? ⟨g, 0, none⟩ = false ∧ Tb B (w2.setCell ⟨g, 0, none⟩ (.slice A' l'.length c')) g l' ∧ Kt B g u (w2.setCell ⟨g, 0, none⟩ (.slice A' l'.length c')) := by
  have hbox := (hgr.block g h.lt (fun e' => by obtain ⟨_, cur, hc⟩ := owns_at h.row e'.symm; rw [h.box] at hc; cases hc)).trans h.box
  obtain ⟨h1, h2⟩ := set_tb h.hB hbox hrow rfl
  exact ⟨box_cell hbox 0 rfl, box_free hbox 0, h1, (grown_kt h.row hgr).trans h2⟩
set_option maxRecDepth 100000 in
theorem free_any {B g : Nat} {l : Tab} (o : Int) (w : World) (h : Tb B w g l) (hn : l.length ≤ 100000) :
    Calls Tryz.prog 44 #[.pointer (some ⟨g, 0, none⟩), .int .i64 o] w fun e w' => e = .returned (.int .i64 ((l.length : Int) - ((freeL l o).length : Int))) ∧ Tb B w' g (freeL l o) ∧ Kt B g w w' := by
  obtain ⟨u, hu⟩ : ∃ u, w.alloc (.cells #[.int .i64 o] 3) = u := ⟨_, rfl⟩
  have hBu : Below w.heap.size w u := by rw [← hu]; exact (Below.refl _ _).alloc (Nat.le_refl _) _
  have hbx : u.heap[w.heap.size]? = some (.cells #[.int .i64 o] 3 (0, 0)) := by rw [← hu]; exact heap_alloc_new w _
  have hTu := h.below hBu
  have hL := len_any u hTu
  obtain ⟨A, c, hT⟩ := hTu
  have hD := delete_any w.heap.size o u hT.row hbx hn
  have c0 := hT.cell
  have f0 := box_free hT.box 0
  have HT := Lib.hid hT
  have HU := Lib.hid hu
  have HBU := Lib.hid hBu
  have hfl := free_length l o
  have hll : (l.length : Int) ≤ 100000 := by omega
  obtain ⟨m, hm⟩ : ∃ m, (freeL l o).length = m := ⟨_, rfl⟩
  have HM := Lib.hid hm
  rw [hm] at hfl hD ⊢
  clear hu hBu hbx hT h hm
  go_enter Tryz.func44, Tryz.ntmps44
  go_wp2_with (first
    | (go_at_call 70; refine hD.mono ?_; clear hD; rintro e w2 ⟨rfl, hrow, hgr⟩; rw [← HM.out] at hrow; obtain ⟨c2, f2, hT2, hK2⟩ := tb_store HT.out hrow hgr; rw [HM.out] at hT2 hK2; have hL2 := len_any _ hT2; rw [HM.out] at hL2; have HT2 := Lib.hid hT2; have HK2 := Lib.hid hK2; clear hrow hgr hT2 hK2)
    | (go_at_call 69; rw [HU.out]; refine hL.mono ?_; clear hL; rintro e w1 ⟨rfl, rfl⟩)
    | (go_at_call 69; refine hL2.mono ?_; clear hL2; rintro e w3 ⟨rfl, rfl⟩))
  go_ret
  exact ⟨rfl, HT2.out, (Kt.of_below HBU.out).trans HK2.out⟩
end Pt
end Go.Proofs.YtbichomjpmmjmaaGreatDoor

/-
  A map of whole numbers to values, as a list of pairs in whatever order: looked up, written, struck, counted, gone through. No condition.
-/
set_option linter.unusedVariables false
set_option linter.unusedSimpArgs false
namespace Go.Proofs.YtbichomjpmmjmaaGreatDoor
open Go.RowKit Go.MapKept
namespace Mp
/-- a key's number -/
def ki : Value → Int
  | .int _ n => n
  | _ => 0
def kv (p : Int × Value) : Value × Value := (.int .i64 p.1, p.2)
def ev (e : MapEntry) : Value × Value := (e.key, e.val)
/-- block b is a map whose pairs are l's -/
def MapAt (w : World) (b : Nat) (l : List (Int × Value)) : Prop := ∃ es clock, w.heap[b]? = some (.map es clock) ∧ Stamped es clock ∧ (es.toList.map ev).Perm (l.map kv)
theorem MapAt.lt {w : World} {b : Nat} {l : List (Int × Value)} (h : MapAt w b l) : b < w.heap.size := by
  obtain ⟨es, clock, hb, _⟩ := h
  rcases Nat.lt_or_ge b w.heap.size with hl | hl
  · exact hl
  · rw [Array.getElem?_eq_none hl] at hb; cases hb
theorem MapAt.keep {w v : World} {b : Nat} {l : List (Int × Value)} (h : MapAt w b l) (hb : v.heap[b]? = w.heap[b]?) : MapAt v b l := by
  obtain ⟨es, clock, h1, h2⟩ := h
  exact ⟨es, clock, hb.trans h1, h2⟩
theorem MapAt.perm {w : World} {b : Nat} {l l' : List (Int × Value)} (h : MapAt w b l) (hp : l.Perm l') : MapAt w b l' := by
  obtain ⟨es, clock, h1, h2, h3⟩ := h
  exact ⟨es, clock, h1, h2, h3.trans (hp.map kv)⟩
theorem keys_perm {es : Array MapEntry} {l : List (Int × Value)} (h : (es.toList.map ev).Perm (l.map kv)) : (es.toList.map (·.key)).Perm (l.map fun p => Value.int .i64 p.1) := by
  have := h.map Prod.fst
  rw [List.map_map, List.map_map] at this
  exact this
theorem MapAt.nodup {w : World} {b : Nat} {l : List (Int × Value)} (h : MapAt w b l) : (l.map Prod.fst).Nodup := by
  obtain ⟨es, clock, _, h2, h3⟩ := h
  have := (keys_perm h3).nodup_iff.1 h2.2.2
  rw [show (l.map fun p => Value.int .i64 p.1) = (l.map Prod.fst).map (Value.int .i64) by rw [List.map_map]; rfl] at this
  exact (List.pairwise_map.1 this).imp (fun h e => h (by rw [e])) |> fun h => List.nodup_iff_pairwise_ne.2 h
theorem is_key {es : Array MapEntry} {l : List (Int × Value)} (h : (es.toList.map ev).Perm (l.map kv)) : ∀ x ∈ es.toList, IsKey (.int .i64) x.key := fun x hx => by
  have := h.subset (List.mem_map.2 ⟨x, hx, rfl⟩)
  obtain ⟨p, _, hp⟩ := List.mem_map.1 this
  have : x.key = .int .i64 p.1 := (congrArg Prod.fst hp).symm
  rw [this]; rfl
theorem new_map (w : World) : MapAt (w.alloc (.map #[] 0)) w.heap.size [] := ⟨#[], 0, heap_alloc_new w _, stamped_empty 0, by simp⟩
/-- an entry of the key k -/
theorem find_cases {es : Array MapEntry} {l : List (Int × Value)} (h : (es.toList.map ev).Perm (l.map kv)) (k : Int) :
    (Instr.findNow (.int .i64) (.int .i64 k) es.toList 0 = some none ∧ k ∉ l.map Prod.fst) ∨ ∃ j e, Instr.findNow (.int .i64) (.int .i64 k) es.toList 0 = some (some (j, e.val)) ∧ es[j]? = some e ∧ e.key = .int .i64 k ∧ (k, e.val) ∈ l := by
  rcases findNow_spec (d := .int .i64) (k := .int .i64 k) rfl es.toList 0 (is_key h) with ⟨h1, h2⟩ | ⟨j, e, h1, h2, h3⟩
  · refine .inl ⟨h1, fun hk => ?_⟩
    obtain ⟨p, hp, rfl⟩ := List.mem_map.1 hk
    have := h.symm.subset (List.mem_map.2 ⟨p, hp, rfl⟩)
    obtain ⟨x, hx, he⟩ := List.mem_map.1 this
    exact h2 x hx (congrArg Prod.fst he)
  · refine .inr ⟨j, e, by rw [h1, Nat.zero_add], by simpa using h2, h3, ?_⟩
    have := h.subset (List.mem_map.2 ⟨e, List.mem_of_getElem? h2, rfl⟩)
    obtain ⟨p, hp, he⟩ := List.mem_map.1 this
    have h4 : Value.int .i64 p.1 = e.key := congrArg Prod.fst he
    rw [h3] at h4
    injection h4 with _ h4
    have h5 : p.2 = e.val := congrArg Prod.snd he
    obtain ⟨p1, p2⟩ := p
    simp only at h4 h5
    rw [← h4, ← h5]
    exact hp
theorem pair_inj {l : List (Int × Value)} (hn : (l.map Prod.fst).Nodup) {k : Int} {u v : Value} (h1 : (k, u) ∈ l) (h2 : (k, v) ∈ l) : u = v := by
  induction l with
  | nil => cases h1
  | cons p l ih =>
    rw [List.map_cons, List.nodup_cons] at hn
    rcases List.mem_cons.1 h1 with rfl | h3
    · rcases List.mem_cons.1 h2 with h4 | h4
      · injection h4 with _ h4; exact h4.symm
      · exact absurd (List.mem_map.2 ⟨(k, v), h4, rfl⟩ : k ∈ l.map Prod.fst) hn.1
    · rcases List.mem_cons.1 h2 with rfl | h4
      · exact absurd (List.mem_map.2 ⟨(k, u), h3, rfl⟩ : k ∈ l.map Prod.fst) hn.1
      · exact ih hn.2 h3 h4
section
variable {P : Program} {w : World} {mt kt et : TypeId} {b : Nat} {l : List (Int × Value)}
theorem run_lookup_some (ht : P.underlying mt = some (.map kt et)) (hd : P.underlying kt = some (.int .i64)) (h : MapAt w b l) {k : Int} {v : Value} (hv : (k, v) ∈ l) :
    (Instr.lookup mt (.map (some b)) (.int .i64 k) true).run P w = .ok (.tuple #[v, .bool true]) w ∧ (Instr.lookup mt (.map (some b)) (.int .i64 k) false).run P w = .ok v w := by
  have hn := h.nodup
  obtain ⟨es, clock, hb, hs, hp⟩ := h
  rcases find_cases hp k with ⟨_, h2⟩ | ⟨j, e, h1, _, _, h4⟩
  · exact absurd (List.mem_map.2 ⟨_, hv, rfl⟩) h2
  · have := pair_inj hn hv h4
    subst this
    exact ⟨by simp [Instr.lookup, run_underlying ht, MapKept.run_getObj_map hb, MapKept.run_checkKey hd (k := .int .i64 k) rfl, MapKept.run_findKey hd h1, Result.andThen], by simp [Instr.lookup, run_underlying ht, MapKept.run_getObj_map hb, MapKept.run_checkKey hd (k := .int .i64 k) rfl, MapKept.run_findKey hd h1, Result.andThen]⟩
theorem run_lookup_none (ht : P.underlying mt = some (.map kt et)) (hd : P.underlying kt = some (.int .i64)) {z : Value} (hz : (zeroValue et).run P w = .ok z w) (h : MapAt w b l) {k : Int} (hv : k ∉ l.map Prod.fst) :
    (Instr.lookup mt (.map (some b)) (.int .i64 k) true).run P w = .ok (.tuple #[z, .bool false]) w := by
  obtain ⟨es, clock, hb, hs, hp⟩ := h
  rcases find_cases hp k with ⟨h1, _⟩ | ⟨j, e, _, _, _, h4⟩
  · simp [Instr.lookup, run_underlying ht, MapKept.run_getObj_map hb, MapKept.run_checkKey hd (k := .int .i64 k) rfl, MapKept.run_findKey hd h1, hz, Result.andThen]
  · exact absurd (List.mem_map.2 ⟨_, h4, rfl⟩) hv
theorem only_set (o : Obj) (hb : ∃ es clock, w.heap[b]? = some (.map es clock)) : Pt.OnlyB b w { w with heap := w.heap.setIfInBounds b o } := by
  obtain ⟨es, clock, hb⟩ := hb
  exact ⟨rfl, rfl, rfl, by simp, fun k hk => (heap_set hb).2 k hk⟩
/-- m[k] = v, no such key being there -/
theorem run_put_new (ht : P.underlying mt = some (.map kt et)) (hd : P.underlying kt = some (.int .i64)) (h : MapAt w b l) {k : Int} (hv : k ∉ l.map Prod.fst) (v : Value) :
    ∃ w', (Instr.mapUpdate mt (.map (some b)) (.int .i64 k) v).run P w = .ok () w' ∧ MapAt w' b (l ++ [(k, v)]) ∧ Pt.OnlyB b w w' := by
  obtain ⟨es, clock, hb, hs, hp⟩ := h
  rcases find_cases hp k with ⟨h1, h2⟩ | ⟨j, e, _, _, _, h4⟩
  · have h3 : ∀ x ∈ es.toList, x.key ≠ .int .i64 k := fun x hx he => h2 (by
      have := (keys_perm hp).subset (List.mem_map.2 ⟨x, hx, rfl⟩)
      obtain ⟨p, hpl, hpe⟩ := List.mem_map.1 this
      rw [he] at hpe
      injection hpe with _ hpe
      exact List.mem_map.2 ⟨p, hpl, hpe⟩)
    refine ⟨{ w with heap := w.heap.setIfInBounds b (.map (es.push { key := .int .i64 k, val := v, born := clock }) (clock + 1)) }, ?_, ⟨_, _, (heap_set hb).1, stamped_push hs h3, ?_⟩, only_set _ ⟨_, _, hb⟩⟩
    · simp [Instr.mapUpdate, run_underlying ht, MapKept.run_getObj_map hb, MapKept.run_checkKey hd (k := .int .i64 k) rfl, MapKept.run_findKey hd h1, MapKept.run_setObj_map _ hb, Result.andThen]
    · rw [Array.toList_push, List.map_append, List.map_append]
      exact hp.append (List.Perm.refl _)
  · exact absurd (List.mem_map.2 ⟨_, h4, rfl⟩) hv
/-- delete(m, k), the key being there -/
theorem run_del (ht : P.underlying mt = some (.map kt et)) (hd : P.underlying kt = some (.int .i64)) (h : MapAt w b l) {k : Int} (hv : k ∈ l.map Prod.fst) :
    ∃ w', (∀ ty, (Builtin.delete_ #[mt, kt] ty #[.map (some b), .int .i64 k]).run P w = .ok (.tuple #[]) w') ∧ MapAt w' b (l.filter (fun p => p.1 != k)) ∧ Pt.OnlyB b w w' := by
  obtain ⟨es, clock, hb, hs, hp⟩ := h
  rcases find_cases hp k with ⟨_, h2⟩ | ⟨j, e, h1, hj, hk, h4⟩
  · exact absurd hv h2
  · obtain ⟨hjl, hje⟩ := Array.getElem?_eq_some_iff.1 hj
    refine ⟨{ w with heap := w.heap.setIfInBounds b (.map (es.eraseIdxIfInBounds j) clock) }, fun ty => ?_, ⟨_, _, (heap_set hb).1, stamped_erase hs _, ?_⟩, only_set _ ⟨_, _, hb⟩⟩
    · simp [Builtin.delete_, run_underlying ht, MapKept.run_getObj_map hb, MapKept.run_checkKey hd (k := .int .i64 k) rfl, MapKept.run_findKey hd h1, MapKept.run_setObj_map _ hb, Result.andThen]
    · have e0 : (es.eraseIdxIfInBounds j).toList = es.toList.eraseIdx j := by unfold Array.eraseIdxIfInBounds; rw [dif_pos hjl, Array.toList_eraseIdx]
      have hjl' : j < es.toList.length := by simpa using hjl
      have e1 : es.toList.Perm (e :: es.toList.eraseIdx j) := by
        have h6 : es.toList = es.toList.take j ++ e :: es.toList.drop (j + 1) := by
          have := (List.take_append_drop j es.toList).symm
          rw [List.drop_eq_getElem_cons hjl', show es.toList[j] = e by simpa using hje] at this
          exact this
        rw [List.eraseIdx_eq_take_drop_succ]
        exact (List.Perm.of_eq h6).trans List.perm_middle
      have hnd := (e1.map (·.key)).nodup_iff.1 hs.2.2
      rw [List.map_cons, List.nodup_cons] at hnd
      have e2 : ((es.toList.eraseIdx j).map ev).filter (fun q => ki q.1 != k) = (es.toList.eraseIdx j).map ev := by
        rw [List.filter_eq_self]
        intro q hq
        obtain ⟨x, hx, rfl⟩ := List.mem_map.1 hq
        have h5 := (keys_perm hp).subset (List.mem_map.2 ⟨x, List.mem_of_mem_eraseIdx hx, rfl⟩)
        obtain ⟨p, _, hpe⟩ := List.mem_map.1 h5
        have : p.1 ≠ k := fun hxk => hnd.1 (by rw [hk, ← hxk, hpe]; exact List.mem_map.2 ⟨x, hx, rfl⟩)
        simpa [ev, ← hpe, ki] using this
      have e3 : (l.filter (fun p => p.1 != k)).map kv = (l.map kv).filter (fun q => ki q.1 != k) := by
        rw [List.filter_map]
        rfl
      rw [e0, e3, ← e2]
      have e4 : ((es.toList.map ev).filter (fun q => ki q.1 != k)).Perm (((es.toList.eraseIdx j).map ev).filter (fun q => ki q.1 != k)) := by
        have := (e1.map ev).filter (fun q => ki q.1 != k)
        rw [List.map_cons, List.filter_cons_of_neg (by simp [ev, hk, ki])] at this
        exact this
      exact e4.symm.trans (hp.filter _)
end
section
variable {P : Program} {w : World} {ops : Array Oper} {rest : List Oper} {o : Oper} {a : Act} {Q : Exit → Act → World → Prop}
/-- the look-up, by its run -/
theorem wpList_lookup_run (hg : o.guard = none) (m x : Operand) (t : TypeId) (c : Bool) (hop : o.op = Op.lookup t m x c) (M K V : Value) (hm : a.eval m = M) (hx : a.eval x = K) (hr : (Instr.lookup t M K c).run P w = .ok V w) (hK : wpList P ops Q rest (a.put o.dst V) w) : wpList P ops Q (o :: rest) a w := by
  refine wpList_plain hg fun K' hK' => ?_
  unfold Oper.wp
  simp [execOp, hop, hm, hx, hr, Result.andThen]
  exact hK' _ _ hK
theorem wpList_delete_run (hg : o.guard = none) (m x : Operand) (t k : TypeId) (hop : o.op = Op.call { callee := Callee.builtin Builtin.delete, args := #[m, x], argTypes := #[t, k] }) (M K : Value) (v : World) (hm : a.eval m = M) (hx : a.eval x = K) (hr : ∀ ty, (Builtin.delete_ #[t, k] ty #[M, K]).run P w = .ok (.tuple #[]) v) (hK : wpList P ops Q rest (a.put o.dst (.tuple #[])) v) : wpList P ops Q (o :: rest) a w := by
  refine wpList_plain hg fun K' hK' => ?_
  unfold Oper.wp
  simp [execOp, hop, resolve, invoke, builtin, hm, hx, hr o.type, Result.andThen]
  exact hK' _ _ hK
end
end Mp
end Go.Proofs.YtbichomjpmmjmaaGreatDoor

/-
  The document's nodes in memory: the row of its pods, their ports, each in rows of their own. No condition.
-/
set_option linter.unusedVariables false
set_option linter.unusedSimpArgs false
namespace Go.Proofs.YtbichomjpmmjmaaGreatDoor
open Go.ChangeShapes Go.WideShapes Go.ChangeAt Go.RowKit Go.Lib
namespace Nd
open Re
end Nd
end Go.Proofs.YtbichomjpmmjmaaGreatDoor

/-
  The program's node in memory: its box, its map of what its pods ask for, its table of ports; what its calls keep. No condition.
-/
set_option linter.unusedVariables false
set_option linter.unusedSimpArgs false
namespace Go.Proofs.YtbichomjpmmjmaaGreatDoor
open Go.ChangeShapes Go.WideShapes Go.ChangeAt Go.RowKit Go.Lib
namespace Nn
open Re Nd
def rv (a : Rx) : Value := .agg (R3 a).toArray
def kvs (l : Pods) : List (Int × Value) := l.map fun x => (x.uid, rv x.ask)
abbrev cells8 (has used : Rx) (m p : Nat) : List Value := [.int .i64 has.c, .int .i64 has.m, .int .i64 has.p, .int .i64 used.c, .int .i64 used.m, .int .i64 used.p, .map (some m), .pointer (some ⟨p, 0, none⟩)]
/-- a block of a node's -/
def IsN (w : World) (k : Nat) : Prop := (∃ cur, w.heap[k]? = some (.cells cur 68 (0, 0))) ∨ (∃ cur, w.heap[k]? = some (.cells cur 100 (0, 0))) ∨ Pt.IsT w k ∨ ∃ es clock, w.heap[k]? = some (.map es clock)
theorem IsN.of {v w : World} {k : Nat} (h : IsN w k) (e : v.heap[k]? = w.heap[k]?) : IsN v k := by
  rcases h with ⟨c, h⟩ | ⟨c, h⟩ | ⟨c, h⟩ | ⟨a, b, h⟩
  · exact .inl ⟨c, e.trans h⟩
  · exact .inr (.inl ⟨c, e.trans h⟩)
  · exact .inr (.inr (.inl ⟨c, e.trans h⟩))
  · exact .inr (.inr (.inr ⟨a, b, e.trans h⟩))
/-- what a node's calls keep: all below B, and all that is no node's -/
structure Kn (B : Nat) (w w' : World) : Prop where
  os : w'.os = w.os
  tape : w'.tape = w.tape
  output : w'.output = w.output
  size : w.heap.size ≤ w'.heap.size
  block : ∀ k, k < w.heap.size → (k < B ∨ ¬ IsN w k) → w'.heap[k]? = w.heap[k]?
theorem Kn.refl (B : Nat) (w : World) : Kn B w w := ⟨rfl, rfl, rfl, Nat.le_refl _, fun _ _ _ => rfl⟩
theorem Kn.trans {B : Nat} {a b c : World} (h : Kn B a b) (k : Kn B b c) : Kn B a c :=
  ⟨k.os.trans h.os, k.tape.trans h.tape, k.output.trans h.output, Nat.le_trans h.size k.size, fun i hi hd => by
    have e := h.block i hi hd
    refine (k.block i (Nat.lt_of_lt_of_le hi h.size) ?_).trans e
    rcases hd with hd | hd
    · exact .inl hd
    · exact .inr fun h => hd (h.of e.symm)⟩
theorem Kn.of_below {B : Nat} {a b : World} (h : Below a.heap.size a b) : Kn B a b := ⟨h.os, h.tape, h.output, h.size, fun k hk _ => h.block k hk⟩
theorem Kn.below {B B' : Nat} {a b : World} (h : Kn B a b) (hB : B' ≤ a.heap.size) (h2 : B' ≤ B) : Below B' a b := ⟨h.os, h.tape, h.output, h.size, fun k hk => h.block k (by omega) (.inl (by omega))⟩
theorem Kn.of_kt {B p : Nat} {a b : World} {T : Pt.Tab} (h : Pt.Kt B p a b) (ht : Pt.Tb B a p T) : Kn B a b := by
  obtain ⟨A, c, ht⟩ := ht
  refine ⟨h.os, h.tape, h.output, h.size, fun k hk hd => ?_⟩
  rcases hd with hd | hd
  · exact h.block k hk (fun e => by have := ht.hB; omega) (.inl hd)
  · exact h.block k hk (fun e => hd (by subst e; exact .inr (.inl ⟨_, ht.box⟩))) (.inr fun e => hd (.inr (.inr (.inl e))))
/-- one block written, which is a node's from B on -/
theorem Kn.only {B r : Nat} {a b : World} (h : Pt.OnlyB r a b) (hr : B ≤ r) (hn : IsN a r) : Kn B a b :=
  ⟨h.os, h.tape, h.output, Nat.le_of_eq h.size.symm, fun k hk hd => h.block k fun e => by
    rcases hd with hd | hd
    · omega
    · subst e; exact hd hn⟩
/-- the node at block g, its parts -/
structure NnAt (B : Nat) (w : World) (g : Nat) (has : Rx) (l : Pods) (m p : Nat) (T : Pt.Tab) : Prop where
  hB : B ≤ g
  box : w.heap[g]? = some (.cells (cells8 has (usedR l) m p).toArray 68 (0, 0))
  hm : B ≤ m
  map : Mp.MapAt w m (kvs l)
  tab : Pt.Tb B w p T
  same : Same T l
  ok : Nd.Ok has l
def Nn (B : Nat) (w : World) (g : Nat) (has : Rx) (l : Pods) : Prop := ∃ m p T, NnAt B w g has l m p T
section
variable {B : Nat} {w w' : World} {g : Nat} {has : Rx} {l : Pods} {m p : Nat} {T : Pt.Tab}
theorem NnAt.lt (h : NnAt B w g has l m p T) : g < w.heap.size := Pt.lt_of_block h.box
theorem NnAt.keep (h : NnAt B w g has l m p T) (hk : ∀ k, k < w.heap.size → IsN w k → w'.heap[k]? = w.heap[k]?) : NnAt B w' g has l m p T := by
  refine ⟨h.hB, (hk g h.lt (.inl ⟨_, h.box⟩)).trans h.box, h.hm, h.map.keep (hk m h.map.lt (by obtain ⟨es, cl, e, _⟩ := h.map; exact .inr (.inr (.inr ⟨es, cl, e⟩)))), ?_, h.same, h.ok⟩
  obtain ⟨A, c, ht⟩ := h.tab
  exact ⟨A, c, ht.keep fun k hk1 hk2 => hk k hk1 (by
    rcases hk2 with rfl | hk2
    · exact .inr (.inl ⟨_, ht.box⟩)
    · exact .inr (.inr (.inl hk2)))⟩
theorem NnAt.below (h : NnAt B w g has l m p T) (hb : Below w.heap.size w w') : NnAt B w' g has l m p T := h.keep fun k hk _ => hb.block k hk
theorem Nn.below (h : Nn B w g has l) (hb : Below w.heap.size w w') : Nn B w' g has l := by
  obtain ⟨m, p, T, h⟩ := h
  exact ⟨m, p, T, h.below hb⟩
theorem Nn.ok (h : Nn B w g has l) : Nd.Ok has l := by
  obtain ⟨m, p, T, h⟩ := h
  exact h.ok
theorem NnAt.has3 (h : NnAt B w g has l m p T) : w.rangeAt g 0 (R3 has) := fun j v hv => by
  refine Pt.box_cell h.box (0 + j) ?_
  match j, hv with
  | 0, hv => exact hv
  | 1, hv => exact hv
  | 2, hv => exact hv
  | j + 3, hv => simp at hv
theorem NnAt.used3 (h : NnAt B w g has l m p T) : w.rangeAt g 3 (R3 (usedR l)) := fun j v hv => by
  refine Pt.box_cell h.box (3 + j) ?_
  match j, hv with
  | 0, hv => exact hv
  | 1, hv => exact hv
  | 2, hv => exact hv
  | j + 3, hv => simp at hv
theorem NnAt.asked (h : NnAt B w g has l m p T) : w.cell? ⟨g, 6, none⟩ = some (.map (some m)) := Pt.box_cell h.box 6 rfl
theorem NnAt.ports (h : NnAt B w g has l m p T) : w.cell? ⟨g, 7, none⟩ = some (.pointer (some ⟨p, 0, none⟩)) := Pt.box_cell h.box 7 rfl
theorem NnAt.few (h : NnAt B w g has l m p T) : T.length ≤ 65535 := tab_len h.same.ok
/-- a list of the document's pods, a list of numbers, whatever is none of a node's, stays -/
theorem not_n {w : World} {k : Nat} {cur : Array Value} {t : TypeId} (h : w.heap[k]? = some (.cells cur t (0, 0))) (h1 : t ≠ 68) (h2 : t ≠ 100) (h3 : t ≠ 110) : ¬ IsN w k := by
  rintro (⟨c, e⟩ | ⟨c, e⟩ | ⟨c, e⟩ | ⟨a, b, e⟩) <;> rw [h] at e <;> injection e with e <;> injection e
  · exact h1 ‹_›
  · exact h2 ‹_›
  · exact h3 ‹_›
theorem owns_kn {base : Nat} {e : TypeId} {size n : Nat} {v : Value} {xs : List Value} (h : w.ownsRow base e size v n xs) (hk : Kn B w w') (h1 : e ≠ 68) (h2 : e ≠ 100) (h3 : e ≠ 110) : w'.ownsRow base e size v n xs :=
  Pt.owns_of h fun r hr => by
    obtain ⟨_, cur, hc⟩ := Pt.owns_at h hr
    exact hk.block r (Pt.lt_of_block hc) (.inr (not_n hc h1 h2 h3))
end
/-- the map's pairs -/
theorem look_in {l : Pods} {u : Int} {x : Pod} (h : l[idx u l]? = some x) (hu : x.uid = u) : (u, rv x.ask) ∈ kvs l := List.mem_map.2 ⟨x, List.mem_of_getElem? h, by rw [hu]⟩
theorem look_out {l : Pods} {u : Int} (h : isIn u l = false) : u ∉ (kvs l).map Prod.fst := by
  intro hu
  rw [kvs, List.map_map] at hu
  obtain ⟨x, hx, e⟩ := List.mem_map.1 hu
  exact notIn h x hx e
theorem key_in {l : Pods} {u : Int} (h : isIn u l = true) : u ∈ (kvs l).map Prod.fst := by
  obtain ⟨x, h1, h2⟩ := idx_at h
  rw [kvs, List.map_map]
  exact List.mem_map.2 ⟨x, List.mem_of_getElem? h1, h2⟩
theorem kvs_ins (x : Pod) (l : Pods) : (kvs l ++ [(x.uid, rv x.ask)]).Perm (kvs (insP x l)) := by
  refine List.Perm.trans (List.perm_append_comm) ?_
  exact ((ins_perm x l).symm.map fun x => (x.uid, rv x.ask))
theorem kvs_cut {has : Rx} {l : Pods} (h : Nd.Ok has l) {u : Int} (hi : isIn u l = true) : ((kvs l).filter fun p => p.1 != u).Perm (kvs (cut u l)) := by
  obtain ⟨x, h1, h2⟩ := idx_at hi
  have hp := cut_perm h1
  have hk : ∀ y ∈ cut u l, y.uid ≠ u := by
    have hn : (l.map Pod.uid).Nodup := List.nodup_iff_pairwise_ne.2 (List.pairwise_map.2 (h.up.imp fun h e => by omega))
    have := (hp.map Pod.uid).nodup_iff.1 hn
    rw [List.map_cons, List.nodup_cons] at this
    intro y hy e
    exact this.1 (List.mem_map.2 ⟨y, hy, by rw [e, h2]⟩)
  have h3 := (hp.map fun x => (x.uid, rv x.ask)).filter (fun p => p.1 != u)
  rw [List.map_cons, List.filter_cons_of_neg (by simp [h2])] at h3
  have h4 : ((cut u l).map fun x => (x.uid, rv x.ask)).filter (fun p => p.1 != u) = kvs (cut u l) := by
    refine List.filter_eq_self.2 fun q hq => ?_
    obtain ⟨y, hy, rfl⟩ := List.mem_map.1 hq
    simpa using hk y hy
  rw [← h4]
  exact h3
end Nn
end Go.Proofs.YtbichomjpmmjmaaGreatDoor

/-
  A region that draws its order, reads, calls functions, and stores into one box that was there (JE), or into one that it makes (JN): what is true on the way, whatever the numbers of these operations. Condition: what depends on what (D).
-/
set_option linter.unusedVariables false
set_option linter.unusedSimpArgs false
namespace Go.Proofs.YtbichomjpmmjmaaGreatDoor
open Go.ChangeShapes Go.WideShapes Go.ChangeAt Go.RowKit Go.Lib
namespace Jx
theorem lt_of_at {w : World} {g : Nat} {o : Obj} (h : w.heap[g]? = some o) : g < w.heap.size := by
  rcases Nat.lt_or_ge g w.heap.size with hl | hl
  · exact hl
  · rw [Array.getElem?_eq_none hl] at h; cases h
/-- all that is below B is as it was, but block b -/
structure But (B b : Nat) (v u : World) : Prop where
  os : u.os = v.os
  tape : u.tape = v.tape
  output : u.output = v.output
  size : v.heap.size ≤ u.heap.size
  block : ∀ k, k < B → k ≠ b → u.heap[k]? = v.heap[k]?
theorem But.then {B b : Nat} {v u u' : World} (h : But B b v u) (hB : B ≤ v.heap.size) (hb : Below u.heap.size u u') : But B b v u' :=
  ⟨hb.os.trans h.os, hb.tape.trans h.tape, hb.output.trans h.output, Nat.le_trans h.size hb.size, fun k hk hn => (hb.block k (by have := h.size; omega)).trans (h.block k hk hn)⟩
structure JE (v : World) (b n : Nat) (cs ds : List Value) (t : TypeId) (D : List (Nat × Nat)) (vs : List Value) (s : Nat → Bool) (V : Nat → Value) (u : World) : Prop where
  but : But v.heap.size b v u
  val : ∀ j, j ≠ n → s j = true → V j = vs.getD j undef
  cl : ∀ p ∈ D, s p.1 = true → s p.2 = true
  bx : u.heap[b]? = some (.cells (if s n = true then ds else cs).toArray t (0, 0))
section
variable {v u : World} {b n : Nat} {cs ds : List Value} {t : TypeId} {D : List (Nat × Nat)} {vs : List Value} {s : Nat → Bool} {V : Nat → Value}
theorem cl_add {i : Nat} (h : ∀ p ∈ D, s p.1 = true → s p.2 = true) (hi : (D.filter fun p => p.1 == i).all (fun p => s p.2) = true) : ∀ p ∈ D, (s p.1 || p.1 == i) = true → (s p.2 || p.2 == i) = true := fun p hp h1 => by
  rw [Bool.or_eq_true] at h1 ⊢
  rcases h1 with h1 | h1
  · exact .inl (h p hp h1)
  · exact .inl (List.all_eq_true.1 hi p (List.mem_filter.2 ⟨hp, h1⟩))
theorem JE.step (h : JE v b n cs ds t D vs s V u) (i : Nat) (hi : i ≠ n) (hc : (D.filter fun p => p.1 == i).all (fun p => s p.2) = true) {u' : World} (hb : Below u.heap.size u u') {x : Value} (hx : x = vs.getD i undef) : JE v b n cs ds t D vs (fun j => s j || j == i) (fun j => if j = i then x else V j) u' := by
  refine ⟨h.but.then (Nat.le_refl _) hb, fun j hj hs => ?_, cl_add h.cl hc, ?_⟩
  · by_cases hji : j = i
    · subst hji; rw [if_pos rfl]; exact hx
    · rw [if_neg hji]; exact h.val j hj (by simpa [hji] using hs)
  · have e : (n == i) = false := by simp; omega
    simp only [e, Bool.or_false]
    exact (hb.block b (lt_of_at h.bx)).trans h.bx
end
/-- a new box, made (na) and filled (ns) -/
structure JN (v : World) (na ns : Nat) (m : Nat) (ds : List Value) (t : TypeId) (vs : List Value) (s : Nat → Bool) (V : Nat → Value) (u : World) : Prop where
  bel : Below v.heap.size v u
  val : ∀ j, j ≠ na → j ≠ ns → s j = true → V j = vs.getD j undef
  bx : s na = true → ∃ q X, V na = .pointer (some ⟨q, 0, none⟩) ∧ v.heap.size ≤ q ∧ u.heap[q]? = some (.cells X t (0, 0)) ∧ X.size = m ∧ (s ns = true → X = ds.toArray)
  ord : s ns = true → s na = true
section
variable {v u : World} {na ns m : Nat} {ds : List Value} {t : TypeId} {vs : List Value} {s : Nat → Bool} {V : Nat → Value}
theorem JN.start (V : Nat → Value) : JN v na ns m ds t vs (fun _ => false) V v.drew :=
  ⟨Below.drew (Below.refl _ _), fun _ _ _ h => Bool.noConfusion h, fun h => Bool.noConfusion h, fun h => Bool.noConfusion h⟩
theorem JN.get (h : JN v na ns m ds t vs s V u) (j : Nat) (h1 : j ≠ na) (h2 : j ≠ ns) (hs : s j = true) {x : Value} (hx : vs.getD j undef = x) : V j = x := (h.val j h1 h2 hs).trans hx
theorem JN.step (h : JN v na ns m ds t vs s V u) (i : Nat) (h1 : i ≠ na) (h2 : i ≠ ns) {u' : World} (hb : Below u.heap.size u u') {x : Value} (hx : x = vs.getD i undef) : JN v na ns m ds t vs (fun j => s j || j == i) (fun j => if j = i then x else V j) u' := by
  have e1 : (na == i) = false := by simp; omega
  have e2 : (ns == i) = false := by simp; omega
  refine ⟨h.bel.trans (hb.mono h.bel.size), fun j g1 g2 hs => ?_, ?_, ?_⟩
  · by_cases hji : j = i
    · subst hji; rw [if_pos rfl]; exact hx
    · rw [if_neg hji]; exact h.val j g1 g2 (by simpa [hji] using hs)
  all_goals simp only [e1, e2, Bool.or_false, if_neg (Ne.symm h1)]
  · intro hs
    obtain ⟨q, X, q1, q2, q3, q4⟩ := h.bx hs
    exact ⟨q, X, q1, q2, (hb.block q (lt_of_at q3)).trans q3, q4⟩
  · exact h.ord
theorem JN.al (h : JN v na ns m ds t vs s V u) (hne : ns ≠ na) (hs : s na = false) (Z : Array Value) (hZ : Z.size = m) : JN v na ns m ds t vs (fun j => s j || j == na) (fun j => if j = na then .pointer (some ⟨u.heap.size, 0, none⟩) else V j) (u.alloc (.cells Z t (0, 0))) := by
  have hb : Below u.heap.size u (u.alloc (.cells Z t (0, 0))) := (Below.refl _ _).alloc (Nat.le_refl _) _
  have hn : s ns = false := by
    cases hk : s ns with
    | false => rfl
    | true => rw [h.ord hk] at hs; cases hs
  have e1 : (na == na) = true := by simp
  have e2 : (ns == na) = false := by simp; omega
  refine ⟨h.bel.trans (hb.mono h.bel.size), fun j g1 g2 hs => ?_, ?_, ?_⟩
  · rw [if_neg g1]; exact h.val j g1 g2 (by simpa [g1] using hs)
  all_goals simp only [e1, e2, Bool.or_false, Bool.or_true, if_pos]
  · exact fun _ => ⟨u.heap.size, Z, rfl, h.bel.size, heap_alloc_new u _, hZ, fun h => by rw [hn] at h; cases h⟩
  · exact fun h => by simp
theorem JN.st (h : JN v na ns m ds t vs s V u) (hne : ns ≠ na) (hr : ds.length = m) (hs : s na = true) {q : Nat} (hq : V na = .pointer (some ⟨q, 0, none⟩)) (x : Value) : JN v na ns m ds t vs (fun j => s j || j == ns) (fun j => if j = ns then x else V j) (u.setCells q 0 ds) := by
  obtain ⟨p, X, e1, e2, e3, e4, e5⟩ := h.bx hs
  obtain rfl : p = q := by rw [hq] at e1; injection e1 with e1; injection e1 with e1; injection e1 with e1; exact e1.symm
  have f := Back.far p ds 0 u
  have g1 : (na == ns) = false := by simp; omega
  have g2 : (ns == ns) = true := by simp
  refine ⟨⟨f.1.trans h.bel.os, f.2.1.trans h.bel.tape, f.2.2.1.trans h.bel.output, by rw [f.2.2.2.1]; exact h.bel.size, fun k hk => (f.2.2.2.2 k (by omega)).trans (h.bel.block k hk)⟩, fun j h1 h2 hs => ?_, ?_, ?_⟩
  · rw [if_neg h2]; exact h.val j h1 h2 (by simpa [h2] using hs)
  all_goals simp only [g1, g2, Bool.or_false, Bool.or_true, if_neg (Ne.symm hne)]
  · exact fun _ => ⟨p, ds.toArray, hq, e2, Back.st e3 (by rw [e4, hr]), by simpa using hr, fun _ => rfl⟩
  · exact fun _ => hs
end
end Jx
end Go.Proofs.YtbichomjpmmjmaaGreatDoor

/-
  A region that draws its order, reads, calls functions, and does one thing to the world (operation n: P ahead of it, Q behind); one value (of operation x) may be what R says instead of a plain one. Condition: what depends on what (D).
-/
set_option linter.unusedVariables false
set_option linter.unusedSimpArgs false
namespace Go.Proofs.YtbichomjpmmjmaaGreatDoor
open Go.RowKit
namespace Jx
structure JX (P Q : World → Prop) (n x : Nat) (R : Value → World → Prop) (D : List (Nat × Nat)) (vs : List Value) (s : Nat → Bool) (V : Nat → Value) (u : World) : Prop where
  pre : s n = false → P u
  post : s n = true → Q u
  rx : s n = false → s x = true → R (V x) u
  val : ∀ j, j ≠ n → j ≠ x → s j = true → V j = vs.getD j undef
  cl : ∀ p ∈ D, s p.1 = true → s p.2 = true
section
variable {P Q : World → Prop} {n x : Nat} {R : Value → World → Prop} {D : List (Nat × Nat)} {vs : List Value} {s : Nat → Bool} {V : Nat → Value} {u : World}
theorem JX.start (h : P u) (V : Nat → Value) : JX P Q n x R D vs (fun _ => false) V u :=
  ⟨fun _ => h, fun h => Bool.noConfusion h, fun _ h => Bool.noConfusion h, fun _ _ _ h => Bool.noConfusion h, fun _ _ h => Bool.noConfusion h⟩
theorem JX.get (h : JX P Q n x R D vs s V u) (j : Nat) (h1 : j ≠ n) (h2 : j ≠ x) (hs : s j = true) {y : Value} (hy : vs.getD j undef = y) : V j = y := (h.val j h1 h2 hs).trans hy
theorem JX.both (h : JX P P n x R D vs s V u) : P u := by
  cases hn : s n with
  | false => exact h.pre hn
  | true => exact h.post hn
/-- one that leaves the world as it is, or (before n) lets it grow -/
theorem JX.step (h : JX P Q n x R D vs s V u) (i : Nat) (hi : i ≠ n) (hx : i ≠ x) (hc : (D.filter fun p => p.1 == i).all (fun p => s p.2) = true) {u' : World} (hp : s n = false → P u → P u') (hq : s n = true → Q u → Q u') (hr : s n = false → s x = true → R (V x) u → R (V x) u') {y : Value} (hy : y = vs.getD i undef) :
    JX P Q n x R D vs (fun j => s j || j == i) (fun j => if j = i then y else V j) u' := by
  have e1 : (n == i) = false := by simp; omega
  have e2 : (x == i) = false := by simp; omega
  refine ⟨?_, ?_, ?_, fun j g1 g2 hs => ?_, cl_add h.cl hc⟩
  · simp only [e1, Bool.or_false]; exact fun hs => hp hs (h.pre hs)
  · simp only [e1, Bool.or_false]; exact fun hs => hq hs (h.post hs)
  · simp only [e1, e2, Bool.or_false, if_neg (Ne.symm hx)]; exact fun h1 h2 => hr h1 h2 (h.rx h1 h2)
  · by_cases hji : j = i
    · subst hji; rw [if_pos rfl]; exact hy
    · rw [if_neg hji]; exact h.val j g1 g2 (by simpa [hji] using hs)
theorem JX.stay (h : JX P Q n x R D vs s V u) (i : Nat) (hi : i ≠ n) (hx : i ≠ x) (hc : (D.filter fun p => p.1 == i).all (fun p => s p.2) = true) {y : Value} (hy : y = vs.getD i undef) :
    JX P Q n x R D vs (fun j => s j || j == i) (fun j => if j = i then y else V j) u := h.step i hi hx hc (fun _ h => h) (fun _ h => h) (fun _ _ h => h) hy
/-- the one whose value is told by R -/
theorem JX.told (h : JX P Q n x R D vs s V u) (hne : x ≠ n) (hc : (D.filter fun p => p.1 == x).all (fun p => s p.2) = true) (hs : s n = false) {u' : World} {y : Value} (hp : P u') (hr : R y u') :
    JX P Q n x R D vs (fun j => s j || j == x) (fun j => if j = x then y else V j) u' := by
  have e1 : (n == x) = false := by simp; omega
  refine ⟨fun _ => hp, ?_, fun _ _ => by simp only [if_true]; exact hr, fun j g1 g2 hs => ?_, cl_add h.cl hc⟩
  · simp only [e1, Bool.or_false]; exact fun h => by rw [hs] at h; cases h
  · rw [if_neg g2]; exact h.val j g1 g2 (by simpa [g2] using hs)
/-- the thing itself -/
theorem JX.fire (h : JX P Q n x R D vs s V u) (hc : (D.filter fun p => p.1 == n).all (fun p => s p.2) = true) {u' : World} (hq : Q u') (y : Value) :
    JX P Q n x R D vs (fun j => s j || j == n) (fun j => if j = n then y else V j) u' := by
  have e1 : (n == n) = true := by simp
  refine ⟨?_, fun _ => hq, ?_, fun j g1 g2 hs => ?_, cl_add h.cl hc⟩
  · simp only [e1, Bool.or_true]; exact fun h => Bool.noConfusion h
  · simp only [e1, Bool.or_true]; exact fun h => Bool.noConfusion h
  · rw [if_neg g1]; exact h.val j g1 g2 (by simpa [g1] using hs)
theorem JX.back (h : JX P Q n x R D vs s V u) {j : Nat} (k : Nat) (hp : (k, j) ∈ D) (hs : s j = false) : s k = false := by
  cases hk : s k with
  | false => rfl
  | true => rw [h.cl _ hp hk] at hs; cases hs
end
theorem wanted_of {ops : Array Oper} {o : Oper} {a : Act} {j d : Nat} {b : Bool} (hg : o.guard = some (j, b)) (hj : (ops[j]?).bind (·.dst) = some d) (hv : a.tmps.getD d undef = .bool b) : Region.wanted o (yielded ops a.tmps) = true := by
  have hs : a.tmps[d]? = some (.bool b) := by
    rw [Array.getD_eq_getD_getElem?] at hv
    cases h : a.tmps[d]? with
    | none => rw [h] at hv; simp [undef] at hv
    | some x => rw [h] at hv; simp at hv; rw [hv]
  unfold Region.wanted
  rw [hg]
  simp [yielded, hj, hs]
theorem unwanted_of {ops : Array Oper} {o : Oper} {a : Act} {j d : Nat} {b : Bool} (hg : o.guard = some (j, !b)) (hj : (ops[j]?).bind (·.dst) = some d) (hv : a.tmps.getD d undef = .bool b) : Region.wanted o (yielded ops a.tmps) = false := by
  have hs : a.tmps[d]? = some (.bool b) := by
    rw [Array.getD_eq_getD_getElem?] at hv
    cases h : a.tmps[d]? with
    | none => rw [h] at hv; simp [undef] at hv
    | some x => rw [h] at hv; simp at hv; rw [hv]
  unfold Region.wanted
  rw [hg]
  simp [yielded, hj, hs]
/-- cells written in the middle of a box -/
def setA (A : Array Value) : Nat → List Value → Array Value
  | _, [] => A
  | o, v :: vs => setA (A.setIfInBounds o v) (o + 1) vs
theorem set_mid (g : Nat) (t : TypeId) : ∀ (vs : List Value) (o : Nat) (w : World) (A : Array Value), w.heap[g]? = some (.cells A t (0, 0)) → (w.setCells g o vs).heap[g]? = some (.cells (setA A o vs) t (0, 0))
  | [], _, _, _, h => h
  | v :: vs, o, w, A, h => set_mid g t vs (o + 1) (w.setCell ⟨g, o, none⟩ v) _ (heap_setCell_same w g o A t v h)
end Jx
end Go.Proofs.YtbichomjpmmjmaaGreatDoor
