/-
  The iterators of package port: All over a copy of the table, slices.Values over a call's ports: what they tell, as far as one likes. Conditions: the table is one; the ports lie in memory.
-/
import Derived.Test.YtgnfpcacpcnanaaPtInsert
import Derived.Test.YtgnfpcacpcnanaaLists
import Derived.RangeFuncBox
import Derived.RangeFuncCalls
import Derived.RangeFuncLeaves
import Derived.Shelf.Abstract
import Derived.OwnWalkIn
import Derived.TacticsInMore
import Derived.LoopNIn
import Derived.LoopIn
import Derived.Maps.AppendAt
import Derived.Lib.SliceRun
set_option linter.unusedVariables false
set_option linter.unusedSimpArgs false
namespace Go.Proofs.Ytgnfpcacpcnanaa
open Go.ChangeShapes Go.WideShapes Go.ChangeAt Go.RowKit Go.Lib
open Lists
namespace Pt

attribute [local go_sem] Oper.semAt_some

set_option maxRecDepth 100000 in
theorem clone_any {B : Nat} {l : Tab} {A : Option Addr} {c : Nat} (w : World) (h : w.ownsRow B 59 2 (.slice A l.length c) l.length (flat l)) (hn : l.length ≤ 100000) :
    Calls Try.prog 37 #[.slice A l.length c] w fun e w' => ∃ A' c', e = .returned (.slice A' l.length c') ∧ w'.ownsRow w.heap.size 59 2 (.slice A' l.length c') l.length (flat l) ∧ Below w.heap.size w w' := by
  have hq : ∀ v, (binOp .eql 46 (.slice A l.length c) (.slice none 0 0)).run Try.prog v = .ok (.bool A.isNone) v := fun v => Lib.run_eql_slice_nil v _ _ A l.length c 0 0 Try.underlying46
  rcases own_addr h with ⟨rfl, h0, rfl⟩ | ⟨r, rfl, _, hr⟩
  · have hz : l = [] := List.eq_nil_of_length_eq_zero h0
    subst hz
    have hq' : ∀ v, (binOp .eql 46 (.slice none 0 0) (.slice none 0 0)).run Try.prog v = .ok (.bool true) v := hq
    clear hq h
    go_enter Try.func37, Try.ntmps37
    go_wp2
    go_ret
    exact ⟨none, 0, rfl, World.ownsRow_nil _ _ _ _, Below.refl _ _⟩
  · have H := Lib.hid h
    have HR := Lib.hid hr
    obtain ⟨i0, hi, hz0, hz1, hz2⟩ := info_parts info_tk
    have hq' : ∀ v, (binOp .eql 46 (.slice (some ⟨r, 0, none⟩) l.length c) (.slice none 0 0)).run Try.prog v = .ok (.bool false) v := hq
    obtain ⟨n, hln⟩ : ∃ n, l.length = n := ⟨_, rfl⟩
    have HLN := Lib.hid hln
    rw [hln] at hq' hn H ⊢
    clear h hq hln hr
    go_enter Try.func37, Try.ntmps37
    go_wp2_with (at_builtin; refine wpList_append_own _ rfl _ _ 46 rfl w.heap.size 59 i0 (.agg #[.int .i64 0, .int .i64 0]) 2 16 Try.underlying46 hi hz0 hz1 hz2 rfl (by decide) _ _ _ rfl (World.ownsRow_made w #[] 0 (Nat.le_refl _) (Nat.zero_le _) rfl) ⟨r, 0, none⟩ n c (flat l) rfl ?qc1 ?qc2 ?qc3 ?qc4 ?qc5 ?qc6 ?_)
    case qc1 => rw [flat_length, HLN.out]
    case qc2 =>
      intro j u hj
      have hj2 := (List.getElem?_eq_some_iff.1 hj).1
      rw [flat_length, HLN.out] at hj2
      rw [at_off, Nat.zero_add]
      refine (((Below.refl w.heap.size w).alloc (Nat.le_refl _) _).cell (p := ⟨r, j, none⟩) HR.out).trans ?_
      rw [H.out.cellAt j hj2]; exact hj
    case qc3 => exact flat_one l
    case qc4 => unfold maxLen; omega
    case qc5 => omega
    case qc6 => simp
    intro v' w1 hown hgrow hnil
    obtain ⟨A', c', rfl⟩ := own_form hown
    have hb : Below w.heap.size w w1 := ((Below.refl _ w).alloc (Nat.le_refl _) _).grown hgrow (by simp) (by intro k hk; simp [Value.ownBlock] at hk; omega)
    have hown2 : w1.ownsRow w.heap.size 59 2 (.slice A' (0 + n) c') n (flat l) := by simpa using hown
    have HO := Lib.hid hown2
    have HB := Lib.hid hb
    clear hown hown2 hgrow hnil hb
    go_wp2
    go_ret
    exact ⟨A', c', by simp, by have := HO.out; simpa using this, HB.out⟩

/-- what a round keeps for the iterator: the blocks that K says -/
def Kk (K : Nat → Prop) (A B : World) : Prop := A.heap.size ≤ B.heap.size ∧ ∀ k, K k → B.heap[k]? = A.heap[k]?
theorem Kk.refl (K : Nat → Prop) (A : World) : Kk K A A := ⟨Nat.le_refl _, fun _ _ => rfl⟩
theorem Kk.trans {K : Nat → Prop} {A B C : World} (h : Kk K A B) (k : Kk K B C) : Kk K A C := ⟨Nat.le_trans h.1 k.1, fun i hi => (k.2 i hi).trans (h.2 i hi)⟩
theorem Kk.put {K : Nat → Prop} {n : Nat} (hK : ∀ k, K k → k < n) (W : World) (l : Nat) (o o' : Obj) (hl : n ≤ l) (h : W.heap[l]? = some o) (_ : o.isCells = false) (_ : o.isWalk = false) : Kk K W (W.putObj l o') :=
  ⟨by simp [World.putObj], fun k hk => World.putObj_heap_other (by have := hK k hk; omega)⟩
theorem Kk.of_below {K : Nat → Prop} {n : Nat} {A B : World} (hK : ∀ k, K k → k < n) (h : Below n A B) : Kk K A B := ⟨h.size, fun k hk => h.block k (hK k hk)⟩
/-- the iterator's blocks -/
def It (b : Nat) (v : Value) (k : Nat) : Prop := k = b ∨ v.ownBlock = some k

set_option maxRecDepth 100000 in
set_option maxHeartbeats 2000000 in
theorem all_stops (n0 : Nat) (hn0 : 1 ≤ n0) (b B : Nat) (l : Tab) (A : Option Addr) (c : Nat) (w : World) (hb : w.heap[b]? = some (.cells #[.slice A l.length c] 46 (0, 0))) (hr : w.ownsRow B 59 2 (.slice A l.length c) l.length (flat l)) (hl : l.length ≤ 100000) :
    SeqStopsK Fence.wide n0 Try.prog 38 #[.pointer (some ⟨b, 0, none⟩)] (fun x : Int × Int => #[Value.int .i64 x.1, Value.int .i64 x.2]) (Kk (It b (.slice A l.length c))) (fun ys => ys = l) (fun pre => pre <+: l) l.length w := by
  intro l0 J Jx W hW hJ hJx hY h0
  have hbW := (hW.block b (lt_of_block hb)).trans hb
  have hrW : W.ownsRow B 59 2 (.slice A l.length c) l.length (flat l) := owns_of hr fun r he => by obtain ⟨_, cur, hc⟩ := owns_at hr he; exact hW.block r (lt_of_block hc)
  have hlt : ∀ k, It b (.slice A l.length c) k → k < W.heap.size := by
    rintro k (rfl | he)
    · exact lt_of_block hbW
    · obtain ⟨_, cur, hc⟩ := owns_at hrW he; exact lt_of_block hc
  have c0 := box_cell hbW 0 rfl
  have HR := Lib.hid hrW
  have HJ := Lib.hid hJ
  have HY := Lib.hid hY
  have H0 := Lib.hid h0
  have HLT := Lib.hid hlt
  obtain ⟨n, hln⟩ : ∃ n, l.length = n := ⟨_, rfl⟩
  have HLN := Lib.hid hln
  rw [hln] at c0 hl HR HY HLT
  have hl' : (n : Int) ≤ 100000 := by omega
  clear hb hr hW hJ hJx hY h0 hbW hrW hlt hln
  refine callsIn_of_wp Try.func38 rfl trivial ?_ rfl
  simp only [Try.ntmps38, List.size_toArray, List.length_cons, List.length_nil, Nat.reduceAdd, Nat.reduceSub, Array.replicate_succ, Array.replicate_zero, List.push_toArray, List.append_toArray, List.nil_append, List.cons_append]
  gi_wp2
  gi_loopw [7] (fun i wr => ∃ k : Nat, k ≤ n ∧ i = .int .i64 k ∧ Hid (J (l.take k) wr) ∧ Hid (Kk (It b (.slice A n c)) W wr)) (fun i _ => n - (RowKit.intOf i).toNat)
  case atStart => exact ⟨0, Nat.zero_le _, rfl, by rw [List.take_zero]; exact H0.out, Kk.refl _ _⟩
  case round =>
    obtain ⟨k, hk, rfl, HJs, HK⟩ := hrel
    by_cases hkn : k < n
    · obtain ⟨y, hy⟩ : ∃ y, l[k]? = some y := ⟨_, List.getElem?_eq_getElem (by have := HLN.out; omega)⟩
      have hrr : wr.ownsRow B 59 2 (.slice A l.length c) l.length (flat l) := by
        rw [HLN.out]; exact owns_of HR.out fun r he => HK.out.2 r (.inr he)
      obtain ⟨r, rfl, hr, k1, k2⟩ := row_at hrr hy
      have hJ1 : J (l.take k) (wr.alloc (.cells #[.int .i64 y.1, .int .i64 y.2] 59)) := HJ.out _ _ _ none HJs.out (World.grownBy_alloc _ _ _) (fun r e => by cases e)
      obtain ⟨fn, tmps, assign, body, hyy, hR⟩ := HY.out (l.take k) y _ hJ1 (by rw [List.length_take]; have := HLN.out; omega)
      have hkn' : (k : Int) < (n : Int) := by omega
      have HT := Lib.hid (show l.take k ++ [y] = l.take (k + 1) by rw [List.take_add_one, hy]; rfl)
      have HKA := Lib.hid (show Kk (It b (.slice (some ⟨r, 0, none⟩) n c)) wr (wr.alloc (.cells #[.int .i64 y.1, .int .i64 y.2] 59)) from Kk.of_below (n := wr.heap.size) (fun k hk => Nat.lt_of_lt_of_le (HLT.out k hk) HK.out.1) ((Below.refl _ _).alloc (Nat.le_refl _) _))
      clear hJ1 hrr hy
      gi_wp2
      refine hR.mono ?_
      rintro e W3 (⟨rfl, hJ3, hk3⟩ | ⟨rfl, hJx3⟩)
      · have HJ3 := Lib.hid hJ3
        have HK3 := Lib.hid hk3
        clear hJ3 hk3 hR hyy
        gi_wp2
        go_roundw
        case rel => exact ⟨k + 1, by omega, by simp, by rw [← HT.out]; exact HJ3.out, (HK.out.trans HKA.out).trans HK3.out⟩
        case measure => simp [RowKit.intOf]; omega
      · have HJ3 := Lib.hid hJx3
        clear hJx3 hR hyy
        gi_wp2
        refine bodyPost_ret (results_none rfl _ _ _) rfl ?_
        exact ⟨⟨_, rfl⟩, .inr ⟨_, List.take_prefix (k + 1) l, by rw [← HT.out]; exact HJ3.out⟩⟩
    · have hkn' : ¬ (k : Int) < (n : Int) := by omega
      have HD := Lib.hid (show l.take k = l from List.take_of_length_le (by have := HLN.out; omega))
      gi_wp2
      go_end0
      exact ⟨⟨_, rfl⟩, .inl (by have := HJs.out; rw [HD.out] at this; exact this)⟩
theorem allIt_any {B g : Nat} {l : Tab} (w : World) (h : Tb B w g l) (hn : l.length ≤ 100000) :
    Calls Try.prog 26 #[.pointer (some ⟨g, 0, none⟩)] w fun e w' => ∃ b A c, e = .returned (.func (.func 38) #[] #[.pointer (some ⟨b, 0, none⟩)]) ∧ w.heap.size ≤ b ∧
      w'.heap[b]? = some (.cells #[.slice A l.length c] 46 (0, 0)) ∧ w'.ownsRow w.heap.size 59 2 (.slice A l.length c) l.length (flat l) ∧ Below w.heap.size w w' := by
  obtain ⟨A, c, h⟩ := h
  have c0 := h.cell
  have hc := clone_any w h.row hn
  obtain ⟨n, hln⟩ : ∃ n, l.length = n := ⟨_, rfl⟩
  rw [hln] at c0 hc ⊢
  clear h hln
  go_enter Try.func26, Try.ntmps26
  go_wp2_with (go_at_call 37; refine hc.mono ?_; rintro e w1 ⟨A', c', rfl, hrow, hb⟩; have HR := Lib.hid hrow; have HB := Lib.hid hb; clear hrow hb)
  go_ret
  refine ⟨w1.heap.size, A', c', rfl, HB.out.size, heap_alloc_new w1 _, HR.out.alloc _, HB.out.alloc HB.out.size _⟩

set_option maxRecDepth 100000 in
set_option maxHeartbeats 2000000 in
theorem values_stops (n0 : Nat) (hn0 : 1 ≤ n0) (b : Nat) (l : List Int) (A : Option Addr) (c : Nat) (w : World) (hb : w.heap[b]? = some (.cells #[.slice A l.length c] 26 (0, 0))) (hA : Nums .i64 w A l) (hl : l.length ≤ 100000) :
    SeqStopsK Fence.wide n0 Try.prog 30 #[.pointer (some ⟨b, 0, none⟩)] (fun x : Int => #[Value.int .i64 x]) (Kk (fun k => k < w.heap.size)) (fun ys => ys = l) (fun pre => pre <+: l) l.length w := by
  intro l0 J Jx W hW hJ hJx hY h0
  have c0 := box_cell ((hW.block b (lt_of_block hb)).trans hb) 0 rfl
  have HA := Lib.hid (show ∀ v : World, Kk (fun k => k < w.heap.size) W v → Nums .i64 v A l from fun v hv k z hz => by
    obtain ⟨h1, a, h2, h3, h4⟩ := hA k z hz
    refine ⟨h1, a, h2, Nat.lt_of_lt_of_le h3 (Nat.le_trans hW.size hv.1), ?_⟩
    refine (World.cell?_of_block ?_).trans h4
    rw [add_block]
    exact (hv.2 _ h3).trans (hW.block _ h3))
  have HJ := Lib.hid hJ
  have HY := Lib.hid hY
  have H0 := Lib.hid h0
  obtain ⟨n, hln⟩ : ∃ n, l.length = n := ⟨_, rfl⟩
  have HLN := Lib.hid hln
  rw [hln] at c0 hl HY
  have hl' : (n : Int) ≤ 100000 := by omega
  clear hb hW hJ hJx hY h0 hln hA
  refine callsIn_of_wp Try.func30 rfl trivial ?_ rfl
  simp only [Try.ntmps30, List.size_toArray, List.length_cons, List.length_nil, Nat.reduceAdd, Nat.reduceSub, Array.replicate_succ, Array.replicate_zero, List.push_toArray, List.append_toArray, List.nil_append, List.cons_append]
  gi_wp2
  gi_loopw [7] (fun i wr => ∃ k : Nat, k ≤ n ∧ i = .int .i64 k ∧ Hid (J (l.take k) wr) ∧ Hid (Kk (fun k => k < w.heap.size) W wr)) (fun i _ => n - (RowKit.intOf i).toNat)
  case atStart => exact ⟨0, Nat.zero_le _, rfl, by rw [List.take_zero]; exact H0.out, Kk.refl _ _⟩
  case round =>
    obtain ⟨k, hk, rfl, HJs, HK⟩ := hrel
    by_cases hkn : k < n
    · obtain ⟨y, hy⟩ : ∃ y, l[k]? = some y := ⟨_, List.getElem?_eq_getElem (by have := HLN.out; omega)⟩
      obtain ⟨_, a, rfl, _, hca⟩ := HA.out wr HK.out k y hy
      obtain ⟨fn, tmps, assign, body, hyy, hR⟩ := HY.out (l.take k) y _ HJs.out (by rw [List.length_take]; have := HLN.out; omega)
      have hkn' : (k : Int) < (n : Int) := by omega
      have HT := Lib.hid (show l.take k ++ [y] = l.take (k + 1) by rw [List.take_add_one, hy]; rfl)
      clear hy
      gi_wp2
      refine hR.mono ?_
      rintro e W3 (⟨rfl, hJ3, hk3⟩ | ⟨rfl, hJx3⟩)
      · have HJ3 := Lib.hid hJ3
        have HK3 := Lib.hid hk3
        clear hJ3 hk3 hR hyy
        gi_wp2
        go_roundw
        case rel => exact ⟨k + 1, by omega, by simp, by rw [← HT.out]; exact HJ3.out, HK.out.trans HK3.out⟩
        case measure => simp [RowKit.intOf]; omega
      · have HJ3 := Lib.hid hJx3
        clear hJx3 hR hyy
        gi_wp2
        refine bodyPost_ret (results_none rfl _ _ _) rfl ?_
        exact ⟨⟨_, rfl⟩, .inr ⟨_, List.take_prefix (k + 1) l, by rw [← HT.out]; exact HJ3.out⟩⟩
    · have hkn' : ¬ (k : Int) < (n : Int) := by omega
      have HD := Lib.hid (show l.take k = l from List.take_of_length_le (by have := HLN.out; omega))
      gi_wp2
      go_end0
      exact ⟨⟨_, rfl⟩, .inl (by have := HJs.out; rw [HD.out] at this; exact this)⟩
theorem values_any (A : Option Addr) (n c : Nat) (w : World) :
    Calls Try.prog 21 #[.slice A n c] w fun e w' => e = .returned (.func (.func 30) #[] #[.pointer (some ⟨w.heap.size, 0, none⟩)]) ∧ w' = w.alloc (.cells #[.slice A n c] 26) := by
  go_enter Try.func21, Try.ntmps21
  go_wp2
  go_ret
  exact ⟨rfl, rfl⟩
end Pt
end Go.Proofs.Ytgnfpcacpcnanaa
