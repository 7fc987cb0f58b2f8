/-
  All of an owner's ports freed: slices.IndexFunc and slices.DeleteFunc of table entries, in place. Condition: the table is one (Tb).
-/
import Derived.Test.YtgnfpcacpcnanaaPtFind
import Derived.Lib.SliceRun
import Derived.Laws.OwnMore
set_option linter.unusedVariables false
set_option linter.unusedSimpArgs false
namespace Go.Proofs.Ytgnfpcacpcnanaa
open Go.ChangeShapes Go.WideShapes Go.ChangeAt Go.RowKit Go.Lib
namespace Pt

/-- the first entry of the owner; -1: none -/
def idxO (o : Int) : Nat → Tab → Int
  | _, [] => -1
  | k, x :: l => if x.2 = o then (k : Int) else idxO o (k + 1) l
theorem idx_spec (o : Int) : ∀ (l : Tab) (k : Nat), (idxO o k l = -1 ∧ ∀ x ∈ l, x.2 ≠ o) ∨ ∃ i, idxO o k l = ((k + i : Nat) : Int) ∧ i < l.length ∧ freeL (l.take (i + 1)) o = l.take i
  | [], k => .inl ⟨rfl, fun x hx => by simp at hx⟩
  | x :: l, k => by
    by_cases hx : x.2 = o
    · refine .inr ⟨0, by unfold idxO; rw [if_pos hx]; simp, by simp, ?_⟩
      simp [freeL, hx]
    · rcases idx_spec o l (k + 1) with ⟨h1, h2⟩ | ⟨i, h1, h2, h3⟩
      · refine .inl ⟨by unfold idxO; rw [if_neg hx, h1], fun y hy => ?_⟩
        rcases List.mem_cons.1 hy with rfl | hy
        · exact hx
        · exact h2 y hy
      · refine .inr ⟨i + 1, by unfold idxO; rw [if_neg hx, h1]; congr 1; omega, by simp; omega, ?_⟩
        rw [List.take_succ_cons, List.take_succ_cons, ← h3]
        simp [freeL, hx]
theorem gone_any (x : Int × Int) (b : Nat) (o : Int) (w : World) (hb : w.cell? ⟨b, 0, none⟩ = some (.int .i64 o)) (hlt : b < w.heap.size) :
    Calls Try.prog 25 #[.agg #[.int .i64 x.1, .int .i64 x.2], .pointer (some ⟨b, 0, none⟩)] w fun e w' => e = .returned (.bool (decide (x.2 = o))) ∧ Below w.heap.size w w' := by
  have hne : b ≠ w.heap.size := by omega
  go_enter Try.func25, Try.ntmps25
  go_wp2
  all_goals (go_ret; refine ⟨?_, (Below.refl _ _).alloc (Nat.le_refl _) _⟩; by_cases h : x.2 = o <;> simp_all)
set_option maxRecDepth 100000 in
set_option maxHeartbeats 1000000 in
theorem index_any {B : Nat} {l : Tab} {A : Option Addr} {c : Nat} (b : Nat) (o : Int) (w : World) (h : w.ownsRow B 59 2 (.slice A l.length c) l.length (flat l)) (hb : w.cell? ⟨b, 0, none⟩ = some (.int .i64 o)) (hlt : b < w.heap.size) (hn : l.length ≤ 100000) :
    Calls Try.prog 36 #[.slice A l.length c, .func (.func 25) #[] #[.pointer (some ⟨b, 0, none⟩)]] w fun e w' => e = .returned (.int .i64 (idxO o 0 l)) ∧ Below w.heap.size w w' := by
  have H := Lib.hid h
  have HB := Lib.hid hb
  obtain ⟨R, hR⟩ : ∃ R, idxO o 0 l = R := ⟨_, rfl⟩
  obtain ⟨n, hln⟩ : ∃ n, l.length = n := ⟨_, rfl⟩
  have HLN := Lib.hid hln
  rw [hln] at hn
  rw [hR, hln]
  have HR := Lib.hid hR
  clear h hb hR hln
  have hn' : (n : Int) ≤ 100000 := by omega
  go_enter Try.func36, Try.ntmps36
  go_wp2
  go_loopw [8] (fun i wr => ∃ k : Nat, k ≤ n ∧ i = .int .i64 k ∧ Hid (R = idxO o k (l.drop k)) ∧ Hid (Below w.heap.size w wr)) (fun i _ => n - (RowKit.intOf i).toNat)
  case atStart => exact ⟨0, Nat.zero_le _, rfl, by unfold Hid; rw [← HR.out, List.drop_zero], Below.refl _ _⟩
  case round =>
    obtain ⟨k, hk, rfl, HK, HW⟩ := hrel
    by_cases hkn : k < n
    · obtain ⟨y, hy⟩ : ∃ y, l[k]? = some y := ⟨_, List.getElem?_eq_getElem (by have := HLN.out; omega)⟩
      obtain ⟨r, rfl, hr, k1, k2⟩ := row_at (owns_below H.out HW.out) hy
      have hd : l.drop k = y :: l.drop (k + 1) := by
        rw [List.drop_eq_getElem_cons (by have := HLN.out; omega), (List.getElem?_eq_some_iff.1 hy).2]
      have hc := gone_any y b o wr ((HW.out.cell (p := ⟨b, 0, none⟩) hlt).trans HB.out) (Nat.lt_of_lt_of_le hlt HW.out.size)
      have hkn' : (k : Int) < (n : Int) := by omega
      clear hy
      by_cases hyo : y.2 = o
      · rw [decide_eq_true hyo] at hc
        have HK2 := Lib.hid (show R = (k : Int) by rw [HK.out, hd]; unfold idxO; rw [if_pos hyo])
        clear hyo hd
        go_wp2_with (go_at_call 25; refine hc.mono ?_; rintro e w' ⟨rfl, hbb⟩; have HBB := Lib.hid hbb; clear hbb)
        go_ret
        exact ⟨by rw [HK2.out]; rfl, HW.out.trans (HBB.out.mono HW.out.size)⟩
      · rw [decide_eq_false hyo] at hc
        have HK2 := Lib.hid (show R = idxO o (k + 1) (l.drop (k + 1)) by rw [HK.out, hd]; conv => lhs; unfold idxO; rw [if_neg hyo])
        clear hyo hd
        go_wp2_with (go_at_call 25; refine hc.mono ?_; rintro e w' ⟨rfl, hbb⟩; have HBB := Lib.hid hbb; clear hbb)
        go_roundw
        case rel => exact ⟨k + 1, by omega, by simp, HK2.out, HW.out.trans (HBB.out.mono HW.out.size)⟩
        case measure => simp [RowKit.intOf]; omega
    · have hkn' : ¬ (k : Int) < (n : Int) := by omega
      have HK2 := Lib.hid (show R = -1 by rw [HK.out, List.drop_eq_nil_of_le (by have := HLN.out; omega)]; rfl)
      go_wp2
      go_ret
      exact ⟨by rw [HK2.out]; rfl, HW.out⟩

/-- all that was there is as it was, but block r -/
structure OnlyB (r : Nat) (w w' : World) : Prop where
  os : w'.os = w.os
  tape : w'.tape = w.tape
  output : w'.output = w.output
  size : w'.heap.size = w.heap.size
  block : ∀ k, k ≠ r → w'.heap[k]? = w.heap[k]?
theorem OnlyB.refl (r : Nat) (w : World) : OnlyB r w w := ⟨rfl, rfl, rfl, rfl, fun _ _ => rfl⟩
theorem OnlyB.trans {r : Nat} {a b c : World} (h : OnlyB r a b) (k : OnlyB r b c) : OnlyB r a c :=
  ⟨k.os.trans h.os, k.tape.trans h.tape, k.output.trans h.output, k.size.trans h.size, fun i hi => (k.block i hi).trans (h.block i hi)⟩
theorem OnlyB.setCell {r : Nat} {a b : World} (h : OnlyB r a b) (o : Nat) (v : Value) : OnlyB r a (b.setCell ⟨r, o, none⟩ v) :=
  h.trans ⟨rfl, rfl, rfl, by simp [World.setCell], fun k hk => Below.heap_setCell _ _ _ _ hk⟩
theorem OnlyB.grown {r : Nat} {a b : World} (h : OnlyB r a b) : a.grownBy b (some r) := ⟨h.os, h.tape, h.output, Nat.le_of_eq h.size.symm, fun k _ hk => h.block k (fun e => hk (by rw [e]))⟩
/-- a row that is written in place -/
theorem set_row (g : Nat) (t : TypeId) : ∀ (vs : List Value) (o : Nat) (w : World) (cur : Array Value), w.heap[g]? = some (.cells cur t (0, 0)) → o + vs.length ≤ cur.size →
    (∃ cur', (w.setCells g o vs).heap[g]? = some (.cells cur' t (0, 0)) ∧ cur'.size = cur.size ∧ ∀ i, cur'[i]? = if o ≤ i ∧ i < o + vs.length then vs[i - o]? else cur[i]?) ∧ OnlyB g w (w.setCells g o vs)
  | [], o, w, cur, h, _ => ⟨⟨cur, h, rfl, fun i => by rw [if_neg (by simp only [List.length_nil]; omega)]⟩, OnlyB.refl _ _⟩
  | v :: vs, o, w, cur, h, hl => by
    have h1 := heap_setCell_same w g o cur t v h
    simp only [List.length_cons] at hl
    obtain ⟨⟨cur', h2, h3, h4⟩, h5⟩ := set_row g t vs (o + 1) (w.setCell ⟨g, o, none⟩ v) _ h1 (by simp; omega)
    refine ⟨⟨cur', h2, by simpa using h3, fun i => ?_⟩, ((OnlyB.refl g w).setCell o v).trans h5⟩
    rw [h4 i, Array.getElem?_setIfInBounds]
    simp only [List.length_cons]
    by_cases c1 : o = i
    · subst c1
      rw [if_neg (by omega), if_pos rfl, if_pos (by omega), if_pos (by omega), Nat.sub_self]
      rfl
    · by_cases c2 : o + 1 ≤ i ∧ i < o + 1 + vs.length
      · rw [if_pos c2, if_pos (by omega), show i - o = (i - (o + 1)) + 1 by omega]
        rfl
      · rw [if_neg c2, if_neg c1, if_neg (by omega)]
theorem flat_set : ∀ (M : Tab) (i : Nat) (x : Int × Int), ((flat M).set (i * 2) (.int .i64 x.1)).set (i * 2 + 1) (.int .i64 x.2) = flat (M.set i x)
  | [], i, x => by simp [flat]
  | y :: M, 0, x => by simp [flat]
  | y :: M, i + 1, x => by
    rw [show (i + 1) * 2 = i * 2 + 1 + 1 by omega]
    simp only [flat, List.set_cons_succ, flat_set M i x]
theorem set_two {w : World} {B r n c : Nat} {M : Tab} (h : w.ownsRow B 59 2 (.slice (some ⟨r, 0, none⟩) n c) n (flat M)) (i : Nat) (x : Int × Int) :
    ((w.setCell ⟨r, i * 2, none⟩ (.int .i64 x.1)).setCell ⟨r, i * 2 + 1, none⟩ (.int .i64 x.2)).ownsRow B 59 2 (.slice (some ⟨r, 0, none⟩) n c) n (flat (M.set i x)) ∧
    w.grownBy ((w.setCell ⟨r, i * 2, none⟩ (.int .i64 x.1)).setCell ⟨r, i * 2 + 1, none⟩ (.int .i64 x.2)) (some r) := by
  obtain ⟨h1, g1⟩ := h.stored (i * 2) (.int .i64 x.1)
  obtain ⟨h2, g2⟩ := h1.stored (i * 2 + 1) (.int .i64 x.2)
  rw [flat_set] at h2
  exact ⟨h2, g1.trans g2⟩
/-- the row's front, what is behind it written anew -/
theorem cut_row {w : World} {B r n c : Nat} {M : Tab} (h : w.ownsRow B 59 2 (.slice (some ⟨r, 0, none⟩) n c) n (flat M)) (i : Nat) (hi : i ≤ n) (vs : List Value) (hv : vs.length = (n - i) * 2) :
    (w.setCells r (i * 2) vs).ownsRow B 59 2 (.slice (some ⟨r, 0, none⟩) i c) i (flat (M.take i)) ∧ w.grownBy (w.setCells r (i * 2) vs) (some r) := by
  obtain ⟨cur, hB, hcur, hnc, hcm, hcs, hget⟩ : ∃ cur, B ≤ r ∧ w.heap[r]? = some (.cells cur 59 (0, 0)) ∧ n ≤ c ∧ c ≤ maxLen ∧ cur.size = c * 2 ∧ cur.toList.take (n * 2) = flat M := by
    rcases h.2 with ⟨e1, e2⟩ | ⟨g', cap', cur, e1, e0, e2, e3, e4, e5, e6⟩
    · cases e1
    · injection e1 with e1 _ e7; injection e1 with e1; injection e1 with e1
      subst e1 e7
      exact ⟨cur, e0, e2, e3, e4, e5, e6⟩
  obtain ⟨⟨c1, h1, s1, g1⟩, t1⟩ := set_row r 59 vs (i * 2) w cur hcur (by rw [hv, hcs]; omega)
  have hml : M.length = n := by have := h.1; rw [flat_length] at this; omega
  refine ⟨⟨by rw [flat_length, List.length_take]; omega, .inr ⟨r, c, c1, rfl, hB, h1, by omega, hcm, by rw [s1, hcs], ?_⟩⟩, t1.grown⟩
  rw [← flat_take, ← hget, List.take_take, Nat.min_eq_left (by omega)]
  apply List.ext_getElem?
  intro k
  by_cases hk : k < i * 2
  · rw [List.getElem?_take_of_lt hk, List.getElem?_take_of_lt hk, Array.getElem?_toList, Array.getElem?_toList, g1 k, if_neg (by omega)]
  · rw [List.getElem?_eq_none (by rw [List.length_take]; omega), List.getElem?_eq_none (by rw [List.length_take]; omega)]
theorem info_tk : (Try.prog.info? 59).map (fun i => (i.zero, i.size, i.bytes)) = some (some (.agg #[.int .i64 0, .int .i64 0]), 2, 16) := by kernel_rfl
theorem at_row (r k : Nat) : (⟨r, 0, none⟩ : Addr).add (k * 2) = ⟨r, k * 2, none⟩ := by unfold Addr.add; split <;> simp_all
theorem run_clear_tk (w : World) (b o n c : Nat) (hn : 0 < n) (hc : ∀ j, j < n * 2 → (w.cell? ⟨b, o + j, none⟩).isSome = true) (hf : ∀ j, j < n * 2 → w.frozen? ⟨b, o + j, none⟩ = false) :
    ∃ vs : List Value, vs.length = n * 2 ∧ ∀ ty : TypeId, (Builtin.clear_ #[46] ty #[.slice (some ⟨b, o, none⟩) n c]).run Try.prog w = .ok (.tuple #[]) (w.setCells b o vs) := by
  obtain ⟨zs, hzs⟩ : ∃ zs, Builtin.zeroCells (Value.agg #[.int .i64 0, .int .i64 0]).cells n = zs := ⟨_, rfl⟩
  have hsz : zs.toList.length = n * 2 := by rw [← hzs, Array.length_toList, size_zeroCells]; rfl
  have hone : ∀ v ∈ zs.toList, v.oneCell' = true := by
    intro v hv
    rw [← hzs] at hv
    unfold Builtin.zeroCells at hv
    simp only [Array.toList_map, List.mem_map] at hv
    obtain ⟨i, _, rfl⟩ := hv
    rw [show (Value.agg #[.int .i64 0, .int .i64 0]).cells = #[.int .i64 0, .int .i64 0] from rfl]
    rcases (show i % 2 = 0 ∨ i % 2 = 1 by omega) with h | h <;> simp only [List.size_toArray, List.length_cons, List.length_nil, Nat.reduceAdd, h] <;> rfl
  have hst := run_storeCells_cells (P := Try.prog) b o zs.toList 0 w (by rw [hsz]; simpa using hc) (by rw [hsz]; simpa using hf) hone
  simp only [Nat.add_zero] at hst
  refine ⟨zs.toList, hsz, fun ty => ?_⟩
  obtain ⟨m, rfl⟩ : ∃ m, n = m + 1 := ⟨n - 1, by omega⟩
  have hz := Try.zeroValue59
  simp [Builtin.clear_, run_underlying Try.underlying46, hz, hzs, hst]
theorem free_step {l : Tab} {j : Nat} {y : Int × Int} (hy : l[j]? = some y) (o : Int) : freeL (l.take (j + 1)) o = if y.2 = o then freeL (l.take j) o else freeL (l.take j) o ++ [y] := by
  rw [List.take_add_one, hy]
  unfold freeL
  rw [List.filter_append]
  split <;> rename_i h <;> simp [h]
set_option maxRecDepth 100000 in
set_option maxHeartbeats 2000000 in
theorem delete_any {B : Nat} {l : Tab} {A : Option Addr} {c : Nat} (b : Nat) (o : Int) (w : World) (h : w.ownsRow B 59 2 (.slice A l.length c) l.length (flat l)) (hb : w.heap[b]? = some (.cells #[.int .i64 o] 3 (0, 0))) (hn : l.length ≤ 100000) :
    Calls Try.prog 24 #[.slice A l.length c, .func (.func 25) #[] #[.pointer (some ⟨b, 0, none⟩)]] w fun e w' => e = .returned (.slice A (freeL l o).length c) ∧
      w'.ownsRow B 59 2 (.slice A (freeL l o).length c) (freeL l o).length (flat (freeL l o)) ∧ w.grownBy w' (Value.slice A l.length c).ownBlock := by
  have hbc := box_cell hb 0 rfl
  have hblt := lt_of_block hb
  have hi := index_any b o w h hbc hblt hn
  rcases idx_spec o l 0 with ⟨h1, h2⟩ | ⟨i0, h1, h2, h3⟩
  · rw [h1] at hi
    have H := Lib.hid h
    have HF := Lib.hid (free_none h2)
    clear h hb hbc h1 h2
    go_enter Try.func24, Try.ntmps24
    go_wp2_with (go_at_call 36; refine hi.mono ?_; rintro e w' ⟨rfl, hbb⟩; have HBB := Lib.hid hbb; clear hbb)
    go_ret
    refine ⟨by rw [HF.out]; rfl, by rw [HF.out]; exact owns_below H.out HBB.out, ?_⟩
    have hx := HBB.out
    exact ⟨hx.os, hx.tape, hx.output, hx.size, fun k hk _ => hx.block k hk⟩
  · rw [h1, Nat.zero_add] at hi
    rcases own_addr h with ⟨_, h0, _⟩ | ⟨r, rfl, hBr, hr⟩
    · omega
    · obtain ⟨hnc, hcm⟩ := own_cap h
      have H := Lib.hid h
      have HBX := Lib.hid hb
      have HI := Lib.hid h3
      obtain ⟨n, hln⟩ : ∃ n, l.length = n := ⟨_, rfl⟩
      have HLN := Lib.hid hln
      rw [hln] at hn h2 hnc hi H ⊢
      have hbr : b ≠ r := by
        rintro rfl
        obtain ⟨_, cur, hc⟩ := owns_at h rfl
        rw [hb] at hc
        cases hc
      clear h hb hbc h1 h3 hln
      have hn' : (n : Int) ≤ 100000 := by omega
      have hm1 : ((i0 : Int) == -1) = false := by
        rw [beq_eq_false_iff_ne]; omega
      go_enter Try.func24, Try.ntmps24
      go_wp2_with (go_at_call 36; refine hi.mono ?_; rintro e w1 ⟨rfl, hbb⟩; have HBB := Lib.hid hbb; clear hbb)
      clear hi
      go_loopw [5, 6] (fun s5 s6 wr => ∃ (i j : Nat) (M : Tab), s5 = .int .i64 i ∧ s6 = .int .i64 j ∧ i < j ∧ j ≤ n ∧ Hid (M.length = n) ∧ Hid (M.take i = freeL (l.take j) o) ∧ Hid (M.drop j = l.drop j) ∧
        Hid (wr.ownsRow B 59 2 (.slice (some ⟨r, 0, none⟩) n c) n (flat M)) ∧ Hid (w.grownBy wr (some r))) (fun _ j _ => n - (RowKit.intOf j).toNat)
      case atStart =>
        refine ⟨i0, i0 + 1, l, rfl, by simp, by omega, by omega, HLN.out, HI.out.symm, rfl, ?_, ?_⟩
        · have := owns_below H.out HBB.out
          exact this
        · have hx := HBB.out
          exact ⟨hx.os, hx.tape, hx.output, hx.size, fun k hk _ => hx.block k hk⟩
      case round =>
        obtain ⟨i, j, M, rfl, rfl, hij, hjn, HM, HT, HD, HO, HG⟩ := hrel
        by_cases hj : j < n
        · obtain ⟨y, hy⟩ : ∃ y, l[j]? = some y := ⟨_, List.getElem?_eq_getElem (by have := HLN.out; omega)⟩
          have hMy : M[j]? = some y := by
            have e := congrArg (fun (x : Tab) => x[0]?) HD.out
            simpa [hy] using e
          have HO2 : wr.ownsRow B 59 2 (.slice (some ⟨r, 0, none⟩) M.length c) M.length (flat M) := by rw [HM.out]; exact HO.out
          obtain ⟨r2, er, hr2, k1, k2⟩ := row_at HO2 hMy
          obtain ⟨z, hMz⟩ : ∃ z, M[i]? = some z := ⟨_, List.getElem?_eq_getElem (by have := HM.out; omega)⟩
          obtain ⟨r3, er3, _, z1, z2⟩ := row_at HO2 hMz
          cases er
          cases er3
          have f1 := HO2.frozenAt (i * 2)
          have f2 := HO2.frozenAt (i * 2 + 1)
          have hbw : wr.cell? ⟨b, 0, none⟩ = some (.int .i64 o) := box_cell ((HG.out.block b hblt (by simpa using hbr)).trans HBX.out) 0 rfl
          have hbl : b < wr.heap.size := Nat.lt_of_lt_of_le hblt HG.out.size
          have hne1 : b ≠ wr.heap.size := by omega
          have hne2 : r ≠ wr.heap.size := by omega
          have HS := Lib.hid (free_step hy o)
          have hjn' : (j : Int) < (n : Int) := by omega
          have hin' : (i : Int) < (n : Int) := by omega
          have HMY := Lib.hid hMy
          clear hy hMy hMz HO2
          obtain ⟨u, hu⟩ : ∃ u, wr.alloc (.cells #[.int .i64 y.1, .int .i64 y.2] 59) = u := ⟨_, rfl⟩
          have hBu : Below wr.heap.size wr u := by rw [← hu]; exact (Below.refl _ _).alloc (Nat.le_refl _) _
          have hbx : u.heap[wr.heap.size]? = some (.cells #[.int .i64 y.1, .int .i64 y.2] 59 (0, 0)) := by rw [← hu]; exact heap_alloc_new wr _
          have hus : wr.heap.size < u.heap.size := lt_of_block hbx
          have hgo := gone_any y b o u ((hBu.cell (p := ⟨b, 0, none⟩) hbl).trans hbw) (Nat.lt_of_lt_of_le hbl hBu.size)
          have HU := Lib.hid hu
          have HBX := Lib.hid hbx
          have HBU := Lib.hid hBu
          have HUS := Lib.hid hus
          have HOU := Lib.hid (owns_below HO.out hBu)
          have Z1 := Lib.hid ((hBu.cell (p := ⟨r, i * 2, none⟩) hr2).trans z1)
          have Z2 := Lib.hid ((hBu.cell (p := ⟨r, i * 2 + 1, none⟩) hr2).trans z2)
          have HR := Lib.hid (Nat.lt_of_lt_of_le hr2 hBu.size)
          clear hu hBu hbx hus z1 z2 f1 f2
          by_cases hyo : y.2 = o
          · have HYO := Lib.hid hyo
            rw [decide_eq_true hyo] at hgo
            clear hyo
            go_wp2_with (go_at_call 25; rw [HU.out]; refine hgo.mono ?_; rintro e w2 ⟨rfl, hbb⟩; have HB2 := Lib.hid hbb; clear hbb)
            go_roundw
            case rel =>
              refine ⟨i, j + 1, M, rfl, by simp, by omega, by omega, HM.out, ?_, ?_, owns_below HOU.out HB2.out, ?_⟩
              · show M.take i = _
                rw [HS.out, if_pos HYO.out, HT.out]
              · show M.drop (j + 1) = l.drop (j + 1)
                rw [← List.drop_drop, HD.out, List.drop_drop]
              · have hx := HBU.out
                have hx2 := HB2.out
                exact (HG.out.trans ⟨hx.os, hx.tape, hx.output, hx.size, fun k hk _ => hx.block k hk⟩).trans ⟨hx2.os, hx2.tape, hx2.output, hx2.size, fun k hk _ => hx2.block k hk⟩
            case measure => simp [RowKit.intOf]; omega
          · have HYO := Lib.hid hyo
            rw [decide_eq_false hyo] at hgo
            clear hyo
            go_wp2_with (go_at_call 25; rw [HU.out]; refine hgo.mono ?_; rintro e w2 ⟨rfl, hbb⟩
                         have v1 := (hbb.cell (p := ⟨wr.heap.size, 0, none⟩) HUS.out).trans (box_cell HBX.out 0 rfl)
                         have v2 := (hbb.cell (p := ⟨wr.heap.size, 1, none⟩) HUS.out).trans (box_cell HBX.out 1 rfl)
                         have y1 := (hbb.cell (p := ⟨r, i * 2, none⟩) HR.out).trans Z1.out
                         have y2 := (hbb.cell (p := ⟨r, i * 2 + 1, none⟩) HR.out).trans Z2.out
                         have ho2 := owns_below HOU.out hbb
                         have f1 := ho2.frozenAt (i * 2)
                         have f2 := ho2.frozenAt (i * 2 + 1)
                         have HO2 := Lib.hid ho2; have HB2 := Lib.hid hbb; clear hbb ho2)
            go_roundw
            case rel =>
              obtain ⟨h5, h6⟩ := set_two HO2.out i y
              have ht : (M.take i).length = i := by rw [List.length_take, HM.out]; omega
              refine ⟨i + 1, j + 1, M.set i y, by simp, by simp, by omega, by omega, ?_, ?_, ?_, h5, ?_⟩
              · show (M.set i y).length = n
                rw [List.length_set]; exact HM.out
              · show (M.set i y).take (i + 1) = _
                rw [HS.out, if_neg HYO.out, ← HT.out, List.take_add_one, List.take_set_of_le (Nat.le_refl _), List.getElem?_set_self (by have := HM.out; omega)]
                rfl
              · show (M.set i y).drop (j + 1) = l.drop (j + 1)
                rw [List.drop_set_of_lt (by omega), ← List.drop_drop, HD.out, List.drop_drop]
              · have hx := HBU.out
                have hx2 := HB2.out
                exact ((HG.out.trans ⟨hx.os, hx.tape, hx.output, hx.size, fun k hk _ => hx.block k hk⟩).trans ⟨hx2.os, hx2.tape, hx2.output, hx2.size, fun k hk _ => hx2.block k hk⟩).trans h6
            case measure => simp [RowKit.intOf]; omega
        · have hjn2 : j = n := by omega
          have hci : ¬ (c = i) := by omega
          have e1 := at_row r i
          obtain ⟨vs, hvs, hcl⟩ := run_clear_tk wr r (i * 2) (n - i) (c - i) (by omega) (fun t ht => by
              rw [HO.out.cellAt (i * 2 + t) (by omega), List.getElem?_eq_getElem (by rw [flat_length, HM.out]; omega)]; rfl) (fun t ht => HO.out.frozenAt _)
          obtain ⟨h5, h6⟩ := cut_row HO.out i (by omega) vs hvs
          have H5 := Lib.hid h5
          have H6 := Lib.hid h6
          have HTT := Lib.hid (show M.take i = freeL l o by rw [HT.out, hjn2, ← HLN.out, List.take_length])
          have hjn' : ¬ (j : Int) < (n : Int) := by omega
          have hin0 : (0 : Int) ≤ (i : Int) := by omega
          have hin1 : (i : Int) ≤ (n : Int) := by omega
          have hin2 : (n : Int) ≤ (c : Int) := by omega
          clear h5 h6 hvs hjn2
          go_wp2
          go_ret
          have hfi : (freeL l o).length = i := by rw [← HTT.out, List.length_take, HM.out]; omega
          refine ⟨by rw [hfi]; rfl, ?_, HG.out.trans H6.out⟩
          rw [hfi, ← HTT.out]; exact H5.out
theorem grown_kt {B g : Nat} {w w' : World} {v : Value} {e n : Nat} {xs : List Value} (h : w.ownsRow B 59 e v n xs) (hg : w.grownBy w' v.ownBlock) : Kt B g w w' :=
  ⟨hg.os, hg.tape, hg.output, hg.size, fun k hk _ hd => hg.block k hk (fun e' => by
    obtain ⟨h1, cur, hc⟩ := owns_at h e'.symm
    rcases hd with hd | hd
    · omega
    · exact hd ⟨cur, hc⟩)⟩
/-- a store into the table's box -/
theorem set_tb {B g n' c' : Nat} {w : World} {l l' : Tab} {A A' : Option Addr} {c : Nat} (hB : B ≤ g) (hb : w.heap[g]? = some (.cells #[.slice A l.length c] 48 (0, 0))) (hr : w.ownsRow B 59 2 (.slice A' n' c') n' (flat l')) (hn : n' = l'.length) :
    Tb B (w.setCell ⟨g, 0, none⟩ (.slice A' n' c')) g l' ∧ Kt B g w (w.setCell ⟨g, 0, none⟩ (.slice A' n' c')) := by
  subst hn
  refine ⟨⟨A', c', hB, box_set hb 0 _ rfl, owns_of hr fun r he => ?_⟩, ⟨rfl, rfl, rfl, by simp [World.setCell], fun k hk hkg _ => Below.heap_setCell _ _ _ _ hkg⟩⟩
  obtain ⟨_, cur, hc⟩ := owns_at hr he
  refine Below.heap_setCell _ _ _ _ ?_
  rintro rfl
  rw [hb] at hc
  cases hc
theorem tb_store {B g c c' : Nat} {u w2 : World} {l l' : Tab} {A A' : Option Addr} (h : TbAt B u g l A c) (hrow : w2.ownsRow B 59 2 (.slice A' l'.length c') l'.length (flat l')) (hgr : u.grownBy w2 (Value.slice A l.length c).ownBlock) :
    w2.cell? ⟨g, 0, none⟩ = some (.slice A l.length c) ∧ w2.frozen? ⟨g, 0, none⟩ = false ∧ Tb B (w2.setCell ⟨g, 0, none⟩ (.slice A' l'.length c')) g l' ∧ Kt B g u (w2.setCell ⟨g, 0, none⟩ (.slice A' l'.length c')) := by
  have hbox := (hgr.block g h.lt (fun e' => by obtain ⟨_, cur, hc⟩ := owns_at h.row e'.symm; rw [h.box] at hc; cases hc)).trans h.box
  obtain ⟨h1, h2⟩ := set_tb h.hB hbox hrow rfl
  exact ⟨box_cell hbox 0 rfl, box_free hbox 0, h1, (grown_kt h.row hgr).trans h2⟩
set_option maxRecDepth 100000 in
theorem free_any {B g : Nat} {l : Tab} (o : Int) (w : World) (h : Tb B w g l) (hn : l.length ≤ 100000) :
    Calls Try.prog 10 #[.pointer (some ⟨g, 0, none⟩), .int .i64 o] w fun e w' => e = .returned (.int .i64 ((l.length : Int) - ((freeL l o).length : Int))) ∧ Tb B w' g (freeL l o) ∧ Kt B g w w' := by
  obtain ⟨u, hu⟩ : ∃ u, w.alloc (.cells #[.int .i64 o] 3) = u := ⟨_, rfl⟩
  have hBu : Below w.heap.size w u := by rw [← hu]; exact (Below.refl _ _).alloc (Nat.le_refl _) _
  have hbx : u.heap[w.heap.size]? = some (.cells #[.int .i64 o] 3 (0, 0)) := by rw [← hu]; exact heap_alloc_new w _
  have hTu := h.below hBu
  have hL := len_any u hTu
  obtain ⟨A, c, hT⟩ := hTu
  have hD := delete_any w.heap.size o u hT.row hbx hn
  have c0 := hT.cell
  have f0 := box_free hT.box 0
  have HT := Lib.hid hT
  have HU := Lib.hid hu
  have HBU := Lib.hid hBu
  have hfl := free_length l o
  have hll : (l.length : Int) ≤ 100000 := by omega
  obtain ⟨m, hm⟩ : ∃ m, (freeL l o).length = m := ⟨_, rfl⟩
  have HM := Lib.hid hm
  rw [hm] at hfl hD ⊢
  clear hu hBu hbx hT h hm
  go_enter Try.func10, Try.ntmps10
  go_wp2_with (first
    | (go_at_call 24; refine hD.mono ?_; clear hD; rintro e w2 ⟨rfl, hrow, hgr⟩; rw [← HM.out] at hrow; obtain ⟨c2, f2, hT2, hK2⟩ := tb_store HT.out hrow hgr; rw [HM.out] at hT2 hK2; have hL2 := len_any _ hT2; rw [HM.out] at hL2; have HT2 := Lib.hid hT2; have HK2 := Lib.hid hK2; clear hrow hgr hT2 hK2)
    | (go_at_call 11; rw [HU.out]; refine hL.mono ?_; clear hL; rintro e w1 ⟨rfl, rfl⟩)
    | (go_at_call 11; refine hL2.mono ?_; clear hL2; rintro e w3 ⟨rfl, rfl⟩))
  go_ret
  exact ⟨rfl, HT2.out, (Kt.of_below HBU.out).trans HK2.out⟩
end Pt
end Go.Proofs.Ytgnfpcacpcnanaa
