/-
  The program's node: New, what a pod asks for. Conditions: numbers that can be; the node is one (Nn).
-/
import Derived.Test.YtbichomjpmmjmaaGreatDoorNu8
import Derived.Test.YtbichomjpmmjmaaGreatDoorNu7
import Derived.Test.YtbichomjpmmjmaaGreatDoorNu13
import Derived.Test.YtbichomjpmmjmaaGreatDoorNu0
import Derived.Test.YtbichomjpmmjmaaGreatDoorShelf6
import Derived.Shelf.Spec.SlicesInsert
import Derived.Lib.AppendZerosOnto
import Derived.Laws.NewBlocks
import Derived.Laws.CopyRow
import Derived.Lib.Overlaps
import Derived.RangeFuncBox
import Derived.RangeFuncCalls
import Derived.RangeFuncLeaves
import Derived.Shelf.Abstract
import Derived.OwnWalkIn
import Derived.TacticsInMore
import Derived.LoopNIn
import Derived.LoopIn
import Derived.Maps.AppendAt
import Derived.Lib.SliceRun
import Derived.Lib.SlKeysI
set_option linter.unusedVariables false
set_option linter.unusedSimpArgs false
namespace Go.Proofs.YtbichomjpmmjmaaGreatDoor
open Go.ChangeShapes Go.WideShapes Go.ChangeAt Go.RowKit Go.Lib
open NumMath
namespace Nn
open Re Nd
set_option maxRecDepth 100000 in
set_option maxHeartbeats 1000000 in
theorem new_any (has : Rx) (hh : has.Ok) (w : World) : Calls Tryz.prog 6 #[.agg (R3 has).toArray] w fun e w' => ∃ g, e = .returned (.pointer (some ⟨g, 0, none⟩)) ∧ Nn w.heap.size w' g (maxR has z3) [] ∧ Below w.heap.size w w' := by
  obtain ⟨w0, hw0⟩ : ∃ v, w.alloc (.cells (R3 has).toArray 23) = v := ⟨_, rfl⟩
  have R0 := Lib.hid (show w0.heap[w.heap.size]? = some (.cells (R3 has).toArray 23 (0, 0)) by rw [← hw0]; exact heap_alloc_new w _)
  have B0 := Lib.hid (show Below w.heap.size w w0 by rw [← hw0]; exact (Below.refl _ _).alloc (Nat.le_refl _) _)
  have RR := Lib.hid (range_box R0.out)
  have HO := Lib.hid (Nd.Ok.new hh)
  obtain ⟨m, hm⟩ : ∃ m, maxR has z3 = m := ⟨_, rfl⟩
  have CM := Lib.hid (show ∀ u, Calls Tryz.prog 28 #[.agg (R3 has).toArray, .agg (R3 z3).toArray] u (fun e w' => e = .returned (.agg (R3 m).toArray) ∧ Below u.heap.size u w') from fun u => by rw [← hm]; exact max_any has z3 u)
  rw [hm] at HO ⊢
  clear hm hh
  have hmm : ∀ u : World, (Instr.makeMap 64 none).run Tryz.prog u = .ok (.map (some u.heap.size)) (u.alloc (.map #[] 0)) := fun _ => rfl
  go_enter Tryz.func6, Tryz.ntmps6
  go_wp2_with (first
    | (refine wpList_load_mid rfl 23 _ rfl _ _ rfl _ _ RR.out Tryz.underlying23 rfl (by kernel_rfl) ?_)
    | (go_at_call 28; refine (CM.out _).mono ?_; rintro e w1 ⟨rfl, hb1⟩; have B1 := Lib.hid (B0.out.trans (hb1.mono B0.out.size)); clear hb1)
    | (go_at_call 29; obtain ⟨w2, hw2⟩ : ∃ v, w1.alloc (.map #[] 0) = v := ⟨_, rfl⟩; have M2 := Lib.hid (show Mp.MapAt w2 w1.heap.size [] by rw [← hw2]; exact Mp.new_map w1); have B2 := Lib.hid (show Below w.heap.size w w2 by rw [← hw2]; exact B1.out.alloc B1.out.size _); rw [hw2]; clear hw2; refine (Pt.new_any w2).mono ?_; rintro e w3 ⟨rfl, hT, hb3⟩; have T3 := Lib.hid hT; have B3 := Lib.hid (B2.out.trans (hb3.mono B2.out.size)); have M3 := Lib.hid (M2.out.keep (hb3.block _ M2.out.lt)); clear hb3 hT))
  go_ret
  have hb4 : Below w3.heap.size w3 (w3.alloc (.cells (cells8 m z3 w1.heap.size w2.heap.size).toArray 68)) := (Below.refl _ _).alloc (Nat.le_refl _) _
  have hs2 := B2.out.size
  have hs1 := B1.out.size
  have hs3 := B3.out.size
  exact ⟨w3.heap.size, rfl, ⟨w1.heap.size, w2.heap.size, [], ⟨hs3, heap_alloc_new w3 (.cells (cells8 m z3 w1.heap.size w2.heap.size).toArray 68), hs1, M3.out.keep (hb4.block _ M3.out.lt), (T3.out _ hs2).below hb4, Nd.Same.nil, HO.out⟩⟩, B3.out.trans (hb4.mono hs3)⟩
theorem res_of (tmps : Array Value) (w : World) (p : Nat) (xs : List Value) (x : Value) (h2 : tmps.getD 4 undef = .pointer (some ⟨p, 0, none⟩)) (h3 : tmps.getD 5 undef = x) (hX : w.heap[p]? = some (.cells xs.toArray 23 (0, 0))) (hm : xs.length = 3) :
    (results Tryz.f20 tmps).run Tryz.prog w = .ok (.tuple #[.agg xs.toArray, x]) w := by
  have h1 : (loadVar 23 ⟨p, 0, none⟩).run Tryz.prog w = .ok (.agg xs.toArray) w := run_loadVar_mid w p 0 23 _ _ (range_box hX) Tryz.underlying23 rfl (by rw [hm]; kernel_rfl)
  simp only [results, Tryz.results20]
  simp only [Array.getD_eq_getD_getElem?] at h2 h3
  have ha : (asAddr (tmps[4]?.getD undef)).run Tryz.prog w = .ok ⟨p, 0, none⟩ w := by rw [h2]; rfl
  simp [Sem.run_bind, h1, ha, h3]
theorem zero_res (w : World) : (zeroValue 23).run Tryz.prog w = .ok (rv z3) w := by kernel_rfl
/-- a look into the node's map -/
theorem look_any {B : Nat} {w : World} {g : Nat} {has : Rx} {l : Pods} {m p : Nat} {T : Pt.Tab} (h : NnAt B w g has l m p T) (u : Int) : (Instr.lookup 64 (.map (some m)) (.int .i64 u) true).run Tryz.prog w = .ok (.tuple #[.agg (R3 (ofU l u)).toArray, .bool (isIn u l)]) w := by
  cases hi : isIn u l with
  | true =>
    obtain ⟨x, h1, h2⟩ := idx_at hi
    rw [ofU_in h1]
    exact (Mp.run_lookup_some Tryz.underlying64 Tryz.underlying3 h.map (look_in h1 h2)).1
  | false =>
    rw [ofU_out hi]
    exact Mp.run_lookup_none Tryz.underlying64 Tryz.underlying3 (zero_res w) h.map (look_out hi)
set_option maxRecDepth 100000 in
set_option maxHeartbeats 1000000 in
theorem of_any {B : Nat} {g : Nat} {has : Rx} {l : Pods} (u : Int) (w : World) (h : Nn B w g has l) : Calls Tryz.prog 20 #[.pointer (some ⟨g, 0, none⟩), .int .i64 u] w (Told3 (ofU l u, isIn u l) w) := by
  obtain ⟨m, p, T, h⟩ := h
  obtain ⟨w0, hw0⟩ : ∃ v, w.alloc (.cells #[.int .i64 0, .int .i64 0, .int .i64 0] 23) = v := ⟨_, rfl⟩
  have B0 := Lib.hid (show Below w.heap.size w w0 by rw [← hw0]; exact (Below.refl _ _).alloc (Nat.le_refl _) _)
  have Z0 := Lib.hid (show w0.heap[w.heap.size]? = some (.cells #[.int .i64 0, .int .i64 0, .int .i64 0] 23 (0, 0)) by rw [← hw0]; exact heap_alloc_new w _)
  have H0 := h.below B0.out
  have HLK := Lib.hid (look_any H0 u)
  have c6 := H0.asked
  obtain ⟨a, ha⟩ : ∃ a, ofU l u = a := ⟨_, rfl⟩
  obtain ⟨b, hb⟩ : ∃ b, isIn u l = b := ⟨_, rfl⟩
  rw [ha, hb] at HLK ⊢
  clear ha hb h H0
  obtain ⟨w1, hw1⟩ : ∃ v, w0.alloc (.cells #[.int .i64 0, .int .i64 0, .int .i64 0] 23) = v := ⟨_, rfl⟩
  have Z1 := Lib.hid (show w1.heap[w0.heap.size]? = some (.cells #[.int .i64 0, .int .i64 0, .int .i64 0] 23 (0, 0)) by rw [← hw1]; exact heap_alloc_new w0 _)
  have hb1 : Below w0.heap.size w0 w1 := by rw [← hw1]; exact (Below.refl _ _).alloc (Nat.le_refl _) _
  have B1 := Lib.hid (B0.out.trans (hb1.mono B0.out.size))
  have Y1 := Lib.hid ((hb1.block _ (lt_of_block Z0.out)).trans Z0.out)
  have HNE := Lib.hid (show w.heap.size ≠ w0.heap.size by have := lt_of_block Z0.out; omega)
  obtain ⟨w2, hw2⟩ : ∃ v, w1.setCells w0.heap.size 0 (R3 a) = v := ⟨_, rfl⟩
  have TH1 := Lib.hid (show w1.there w0.heap.size 0 3 from Back.th Z1.out rfl)
  have ONE1 := Lib.hid (show (R3 a).toArray.all (·.oneCell') = true by simp [Value.oneCell'])
  have HV1 := Lib.hid hw2
  have Z2 := Lib.hid (show w2.heap[w0.heap.size]? = some (.cells (R3 a).toArray 23 (0, 0)) by rw [← hw2]; exact Back.st Z1.out rfl)
  have B2 := Lib.hid (show Below w.heap.size w w2 by rw [← hw2]; exact bel_set B1.out B0.out.size)
  have Y2 := Lib.hid (show w2.heap[w.heap.size]? = some (.cells #[.int .i64 0, .int .i64 0, .int .i64 0] 23 (0, 0)) by rw [← hw2]; exact ((Back.far w0.heap.size (R3 a) 0 w1).2.2.2.2 _ HNE.out).trans Y1.out)
  have RR := Lib.hid (range_box Z2.out)
  obtain ⟨w6, hw6⟩ : ∃ v, w2.setCells w.heap.size 0 (R3 a) = v := ⟨_, rfl⟩
  have THy := Lib.hid (show w2.there w.heap.size 0 3 from Back.th Y2.out rfl)
  have HVy := Lib.hid hw6
  have Z6 := Lib.hid (show w6.heap[w.heap.size]? = some (.cells (R3 a).toArray 23 (0, 0)) by rw [← hw6]; exact Back.st Y2.out rfl)
  have B6 := Lib.hid (show Below w.heap.size w w6 by rw [← hw6]; exact bel_set B2.out (Nat.le_refl _))
  clear hw2 hw6 hb1
  go_enter Tryz.func20, Tryz.ntmps20
  go_wp2_with (first
    | (refine Mp.wpList_lookup_run rfl _ _ _ _ rfl _ _ _ rfl rfl HLK.out ?_)
    | (refine wpList_store_at rfl 23 _ _ rfl _ _ _ rfl rfl TH1.out (by kernel_rfl) ONE1.out HV1.out ?_)
    | (refine wpList_load_mid rfl 23 _ rfl _ _ rfl _ _ RR.out Tryz.underlying23 rfl (by kernel_rfl) ?_)
    | (refine wpList_store_at rfl 23 _ _ rfl _ _ _ rfl rfl THy.out (by kernel_rfl) ONE1.out HVy.out ?_))
  refine bodyPost_ret (v := .tuple #[.agg (R3 a).toArray, .bool b]) (res_of _ _ _ (R3 a) _ rfl rfl Z6.out rfl) rfl ?_
  exact ⟨rfl, B6.out⟩
end Nn
end Go.Proofs.YtbichomjpmmjmaaGreatDoor

/-
  The program's node while a call is under way: its parts, when its box, its map or its table alone is written. No condition.
-/
set_option linter.unusedVariables false
set_option linter.unusedSimpArgs false
namespace Go.Proofs.YtbichomjpmmjmaaGreatDoor
open Go.ChangeShapes Go.WideShapes Go.ChangeAt Go.RowKit Go.Lib
namespace Nn
open Re Nd
section
variable {B : Nat} {w u : World} {g : Nat} {has us : Rx} {l : Pods} {m p : Nat} {T : Pt.Tab}
theorem th_mid {A : Array Value} {t : TypeId} (h : w.heap[g]? = some (.cells A t (0, 0))) (o n : Nat) (hn : o + n ≤ A.size) : w.there g o n := fun j hj =>
  ⟨by rw [Pt.box_cell h (o + j) (Array.getElem?_eq_getElem (by omega))]; rfl, Pt.box_free h _⟩
theorem set_used {t : TypeId} (us2 : Rx) (h : w.heap[g]? = some (.cells (cells8 has us m p).toArray t (0, 0))) : (w.setCells g 3 (R3 us2)).heap[g]? = some (.cells (cells8 has us2 m p).toArray t (0, 0)) := Jx.set_mid g t (R3 us2) 3 w _ h
theorem but_set {v : World} (h : Below v.heap.size v u) (o : Nat) (vs : List Value) : Jx.But v.heap.size g v (u.setCells g o vs) := by
  have f := Back.far g vs o u
  exact ⟨f.1.trans h.os, f.2.1.trans h.tape, f.2.2.1.trans h.output, by rw [f.2.2.2.1]; exact h.size, fun k hk hn => (f.2.2.2.2 k hn).trans (h.block k hk)⟩
theorem Kn.of_but (h : Jx.But w.heap.size g w u) (hg : B ≤ g) (hn : IsN w g) : Kn B w u :=
  ⟨h.os, h.tape, h.output, h.size, fun k hk hd => h.block k hk fun e => by
    rcases hd with hd | hd
    · omega
    · subst e; exact hd hn⟩
theorem NnAt.ne_gm (h : NnAt B w g has l m p T) : m ≠ g := fun e => by
  obtain ⟨es, c, hm, _⟩ := h.map
  rw [e, h.box] at hm
  injection hm with hm
  cases hm
theorem NnAt.ne_gp (h : NnAt B w g has l m p T) : p ≠ g := fun e => by
  obtain ⟨A, c, ht⟩ := h.tab
  have hb := ht.box
  rw [e, h.box] at hb
  injection hb with hb
  injection hb with _ hb _
  exact absurd hb (by decide)
theorem NnAt.isN (h : NnAt B w g has l m p T) : IsN w g := .inl ⟨_, h.box⟩
theorem not_t {k : Nat} {A : Array Value} {t : TypeId} (h : w.heap[k]? = some (.cells A t (0, 0))) (ht : t ≠ 110) : ¬ Pt.IsT w k := by
  rintro ⟨cur, e⟩
  rw [h] at e
  injection e with e
  injection e with _ e _
  exact ht e
/-- the box alone is written -/
theorem NnAt.but (h : NnAt B w g has l m p T) (hb : Jx.But w.heap.size g w u) : Mp.MapAt u m (kvs l) ∧ Pt.Tb B u p T := by
  refine ⟨h.map.keep (hb.block m h.map.lt h.ne_gm), ?_⟩
  have hp := h.ne_gp
  have hbox := h.box
  obtain ⟨A, c, ht⟩ := h.tab
  refine ⟨A, c, ht.keep fun k hk hd => hb.block k hk fun e => ?_⟩
  rcases hd with rfl | hd
  · exact hp e
  · subst e; exact not_t hbox (by decide) hd
/-- the map alone is written -/
theorem only_box {A : Array Value} {t : TypeId} (ho : Pt.OnlyB m w u) (h : w.heap[g]? = some (.cells A t (0, 0))) (hm : Mp.MapAt w m (kvs l)) : u.heap[g]? = some (.cells A t (0, 0)) := (ho.block g fun e => by
  obtain ⟨es, c, hm, _⟩ := hm
  rw [← e, h] at hm
  injection hm with hm
  cases hm).trans h
theorem only_tab (ho : Pt.OnlyB m w u) (hm : Mp.MapAt w m (kvs l)) (ht : Pt.Tb B w p T) : Pt.Tb B u p T := by
  obtain ⟨es, cl, hm, _⟩ := hm
  obtain ⟨A, c, ht⟩ := ht
  refine ⟨A, c, ht.keep fun k hk hd => ho.block k fun e => ?_⟩
  subst e
  rcases hd with rfl | ⟨cur, hd⟩
  · have := ht.box
    rw [hm] at this
    injection this with this
    cases this
  · rw [hm] at hd
    injection hd with hd
    cases hd
/-- the table alone is written -/
theorem kt_box {A : Array Value} (hk : Pt.Kt B p w u) (ht : Pt.Tb B w p T) (h : w.heap[g]? = some (.cells A 68 (0, 0))) : u.heap[g]? = some (.cells A 68 (0, 0)) := by
  refine (hk.block g (Pt.lt_of_block h) (fun e => ?_) (.inr (not_t h (by decide)))).trans h
  obtain ⟨A, c, ht⟩ := ht
  have hb := ht.box
  rw [← e, h] at hb
  injection hb with hb
  injection hb with _ hb _
  exact absurd hb (by decide)
theorem kt_map {L : List (Int × Value)} (hk : Pt.Kt B p w u) (ht : Pt.Tb B w p T) (h : Mp.MapAt w m L) : Mp.MapAt u m L := by
  refine h.keep (hk.block m h.lt (fun e => ?_) (.inr fun e => ?_))
  · obtain ⟨A, c, ht⟩ := ht
    obtain ⟨es, cl, hm, _⟩ := h
    have hb := ht.box
    rw [← e, hm] at hb
    injection hb with hb
    cases hb
  · obtain ⟨cur, e⟩ := e
    obtain ⟨es, cl, hm, _⟩ := h
    rw [hm] at e
    injection e with e
    cases e
end
theorem fit_zero {has : Rx} {l : Pods} {q : Nd.Ask} (h : fitC has l q = 0) : q.right = true ∧ Nd.room has l q = true ∧ anyOwn l q.ports = false := by
  unfold fitC at h
  split at h
  · exact absurd h (by decide)
  split at h
  · exact absurd h (by decide)
  split at h
  · exact absurd h (by decide)
  rename_i h1 h2 h3
  exact ⟨by simpa using h1, by simpa using h2, by simpa using h3⟩
theorem adm_fit {has : Rx} {l : Pods} {u : Int} {q : Nd.Ask} (hu : 1 ≤ u) (hi : isIn u l = false) : admC has l u q = fitC has l q := by
  unfold admC
  rw [if_neg (by omega), if_neg (by rw [hi]; decide)]
theorem adm_low {has : Rx} {l : Pods} {u : Int} {q : Nd.Ask} (hu : u < 1) : admC has l u q = 1 := by unfold admC; rw [if_pos hu]
theorem adm_there {has : Rx} {l : Pods} {u : Int} {q : Nd.Ask} (hu : 1 ≤ u) (hi : isIn u l = true) : admC has l u q = 7 := by
  unfold admC
  rw [if_neg (by omega), if_pos hi]
theorem adm_stay {has : Rx} {l : Pods} {u : Int} {q : Nd.Ask} (h : admC has l u q ≠ 0) : admL has l u q = l := by unfold admL; rw [if_neg h]
theorem adm_come {has : Rx} {l : Pods} {u : Int} {q : Nd.Ask} (h : admC has l u q = 0) : admL has l u q = insP ⟨u, q.ask, q.ports⟩ l := by unfold admL; rw [if_pos h]
end Nn
end Go.Proofs.YtbichomjpmmjmaaGreatDoor

/-
  slices.Insert of one entry into a row of table entries, in place or in a new row. Condition: the row is the call's own, the place lies in it.
-/
set_option linter.unusedVariables false
set_option linter.unusedSimpArgs false
namespace Go.Proofs.YtbichomjpmmjmaaGreatDoor
open Go.ChangeShapes Go.WideShapes Go.ChangeAt Go.RowKit Go.Lib
namespace Pt
theorem run_copy_k {P : Program} (w : World) (dT sT ty elem : TypeId) (k g o dLen dCap : Nat) (a : Addr) (sLen sCap m : Nat) (cur : Array Value) (t : TypeId) (cs : List Value)
    (hu : P.underlying dT = some (.slice elem)) (hs : (P.info? elem).map (·.size) = some k)
    (hg : w.heap[g]? = some (.cells cur t (0, 0))) (hm : Nat.min sLen dLen = m) (hn : cs.length = m * k)
    (hsrc : ∀ j v, cs[j]? = some v → w.cell? (a.add j) = some v) (hfit : o + cs.length ≤ cur.size) (h1 : ∀ v ∈ cs, v.oneCell' = true) :
    (Builtin.copy_ #[dT, sT] ty #[.slice (some ⟨g, o, none⟩) dLen dCap, .slice (some a) sLen sCap]).run P w =
      .ok (goInt m) (w.setRow g (cur.toList.take o ++ cs ++ cur.toList.drop (o + cs.length)).toArray) := by
  have hl := run_loadCells_list (P := P) w a cs hsrc
  rw [hn] at hl
  have hst := run_storeCells_at P g o t cs 0 cur w hg (by simpa using hfit) h1
  cases hq : P.info? elem with
  | none => simp [hq] at hs
  | some i =>
    have hi : i.size = k := by simpa [hq] using hs
    simp [Builtin.copy_, run_underlying hu, Builtin.lenOf, Builtin.firstCells, sizeOf, typeInfo, hq, hi, hm, hl, hst]
theorem own_cur {w : World} {B r n c : Nat} {e : TypeId} {xs : List Value} (h : w.ownsRow B e 2 (.slice (some ⟨r, 0, none⟩) n c) n xs) : ∃ cur, B ≤ r ∧ w.heap[r]? = some (.cells cur e (0, 0)) ∧ n ≤ c ∧ c ≤ maxLen ∧ cur.size = c * 2 ∧ cur.toList.take (n * 2) = xs := by
  rcases h.2 with ⟨e1, e2⟩ | ⟨g', cap', cur, e1, e0, e2, e3, e4, e5, e6⟩
  · cases e1
  · injection e1 with e1 _ e7; injection e1 with e1; injection e1 with e1
    subst e1 e7
    exact ⟨cur, e0, e2, e3, e4, e5, e6⟩
theorem list_shift (F L X : List Value) (a N : Nat) (hF : F.take N = L) (hN : N + 2 ≤ F.length) (ha : a ≤ N) (hX : X.length = 2) :
    (((F.take (a + 2) ++ L.drop a ++ F.drop (a + 2 + (L.drop a).length)).take a ++ X ++ (F.take (a + 2) ++ L.drop a ++ F.drop (a + 2 + (L.drop a).length)).drop (a + 2)).take (N + 2)) = L.take a ++ X ++ L.drop a := by
  have hL : L.length = N := by rw [← hF, List.length_take]; omega
  have e1 : (F.take (a + 2)).length = a + 2 := by rw [List.length_take]; omega
  have e2 : (F.take (a + 2) ++ L.drop a ++ F.drop (a + 2 + (L.drop a).length)).take a = L.take a := by
    rw [List.append_assoc, List.take_append_of_le_length (by omega), List.take_take, ← hF, List.take_take]
    congr 1
    omega
  have e3 : (F.take (a + 2) ++ L.drop a ++ F.drop (a + 2 + (L.drop a).length)).drop (a + 2) = L.drop a ++ F.drop (a + 2 + (L.drop a).length) := by
    rw [List.append_assoc, List.drop_append_of_le_length (by omega), List.drop_eq_nil_of_le (by omega), List.nil_append]
  rw [e2, e3, ← List.append_assoc]
  rw [List.take_append_of_le_length (by simp; omega)]
  exact List.take_of_length_le (by simp; omega)
theorem list_new (R L X : List Value) (a N : Nat) (hR : R.take a = L.take a) (hL : L.length = N) (hN : N + 2 ≤ R.length) (ha : a ≤ N) (hX : X.length = 2) :
    (((R.take a ++ X ++ R.drop (a + X.length)).take (a + 2) ++ L.drop a ++ (R.take a ++ X ++ R.drop (a + X.length)).drop (a + 2 + (L.drop a).length)).take (N + 2)) = L.take a ++ X ++ L.drop a := by
  have e1 : (R.take a ++ X).length = a + 2 := by simp; omega
  have e2 : (R.take a ++ X ++ R.drop (a + X.length)).take (a + 2) = L.take a ++ X := by
    rw [List.take_append_of_le_length (by omega), List.take_of_length_le (by omega), hR]
  rw [e2, List.take_append_of_le_length (by simp; omega)]
  exact List.take_of_length_le (by simp; omega)
def cells2 (x : Int × Int) : List Value := [.int .i64 x.1, .int .i64 x.2]
theorem flat_in (l : Tab) (i : Nat) (x : Int × Int) : (flat l).take (i * 2) ++ cells2 x ++ (flat l).drop (i * 2) = flat (l.take i ++ x :: l.drop i) := by
  rw [flat_take, flat_drop, flat_cat]
  simp [flat, cells2]
theorem cells2_one (x : Int × Int) : ∀ u ∈ cells2 x, u.oneCell' = true := by
  intro u hu
  simp only [cells2, List.mem_cons, List.not_mem_nil, or_false] at hu
  rcases hu with rfl | rfl <;> rfl
theorem at_off (r o j : Nat) : (⟨r, o, none⟩ : Addr).add j = ⟨r, o + j, none⟩ := by unfold Addr.add; split <;> simp_all
theorem set_row_grown (w : World) (g : Nat) (cs : Array Value) : w.grownBy (w.setRow g cs) (some g) := ⟨rfl, rfl, rfl, by simp, fun k _ hk => setRow_other w g k _ (fun e => hk (by simp [e]))⟩
/-- at the end -/
theorem insert_end {B : Nat} {l : Tab} {A : Option Addr} {c : Nat} (x : Int × Int) (vb : Nat) (w : World) (h : w.ownsRow B 110 2 (.slice A l.length c) l.length (flat l)) (hn : l.length ≤ 100000) (hB : B ≤ w.heap.size)
    (hv : w.heap[vb]? = some (.cells #[.int .i64 x.1, .int .i64 x.2] 110 (0, 0))) :
    Calls Tryz.prog 68 #[.slice A l.length c, .int .i64 l.length, .slice (some ⟨vb, 0, none⟩) 1 1] w fun e w' => ∃ A' c', e = .returned (.slice A' (l.length + 1) c') ∧
      w'.ownsRow B 110 2 (.slice A' (l.length + 1) c') (l.length + 1) (flat (l.take l.length ++ x :: l.drop l.length)) ∧ w.grownBy w' (Value.slice A l.length c).ownBlock := by
  obtain ⟨i0, hi0, hz0, hz1, hz2⟩ := info_parts info_tk
  obtain ⟨hnc, hcm⟩ := own_cap h
  have v1 := box_cell hv 0 rfl
  have v2 := box_cell hv 1 rfl
  have hfl : flat l ++ cells2 x = flat (l.take l.length ++ x :: l.drop l.length) := by rw [List.take_length, List.drop_length, flat_cat]; rfl
  have HFL := Lib.hid hfl
  have H := Lib.hid h
  have HV := Lib.hid hv
  have HC := Lib.hid (show ∀ j u, (cells2 x)[j]? = some u → w.cell? ((⟨vb, 0, none⟩ : Addr).add j) = some u by
    intro j u hu
    rw [at_off, Nat.zero_add]
    match j, hu with
    | 0, hu => simp [cells2] at hu; rw [← hu]; exact v1
    | 1, hu => simp [cells2] at hu; rw [← hu]; exact v2
    | j + 2, hu => simp [cells2] at hu)
  obtain ⟨n, hln⟩ : ∃ n, l.length = n := ⟨_, rfl⟩
  have HLN := Lib.hid hln
  rw [hln] at hn hnc HFL H ⊢
  clear h hv hfl v1 v2 hln
  have hn' : (n : Int) ≤ 100000 := by omega
  have hn0 : (0 : Int) ≤ (n : Int) := by omega
  have hnc' : (n : Int) ≤ (c : Int) := by omega
  by_cases hcn : c = n
  · subst hcn
    go_enter Tryz.func68, Tryz.ntmps68
    go_wp2_with (at_builtin; refine AppendAny.wpList_append_want (by simp [Region.wanted]) _ _ 98 rfl B 110 i0 (.agg #[.int .i64 0, .int .i64 0]) 2 16 Tryz.underlying98 hi0 hz0 hz1 hz2 rfl (by decide) (.slice A c c) c _ rfl H.out (some ⟨vb, 0, none⟩) 1 1 (cells2 x) rfl rfl (.inr ⟨_, rfl, HC.out⟩) (cells2_one x) (by unfold maxLen; omega) (by omega) hB ?_; intro v' w' hown hgr)
    go_ret
    rw [HFL.out] at hown
    obtain ⟨A', c', rfl⟩ := own_form hown
    exact ⟨A', c', rfl, hown, hgr⟩
  · go_enter Tryz.func68, Tryz.ntmps68
    go_wp2_with (at_builtin; refine AppendAny.wpList_append_want (by simp [Region.wanted]) _ _ 98 rfl B 110 i0 (.agg #[.int .i64 0, .int .i64 0]) 2 16 Tryz.underlying98 hi0 hz0 hz1 hz2 rfl (by decide) (.slice A n c) n _ rfl H.out (some ⟨vb, 0, none⟩) 1 1 (cells2 x) rfl rfl (.inr ⟨_, rfl, HC.out⟩) (cells2_one x) (by unfold maxLen; omega) (by omega) hB ?_; intro v' w' hown hgr)
    go_ret
    rw [HFL.out] at hown
    obtain ⟨A', c', rfl⟩ := own_form hown
    exact ⟨A', c', rfl, hown, hgr⟩
set_option maxRecDepth 100000 in
set_option maxHeartbeats 4000000 in
/-- in place -/
theorem insert_room {B : Nat} {l : Tab} {r c : Nat} (i : Nat) (x : Int × Int) (vb : Nat) (w : World) (h : w.ownsRow B 110 2 (.slice (some ⟨r, 0, none⟩) l.length c) l.length (flat l)) (hi : i < l.length) (hroom : l.length + 1 ≤ c)
    (hv : w.heap[vb]? = some (.cells #[.int .i64 x.1, .int .i64 x.2] 110 (0, 0))) (hne : vb ≠ r) :
    Calls Tryz.prog 68 #[.slice (some ⟨r, 0, none⟩) l.length c, .int .i64 i, .slice (some ⟨vb, 0, none⟩) 1 1] w fun e w' => e = .returned (.slice (some ⟨r, 0, none⟩) (l.length + 1) c) ∧
      w'.ownsRow B 110 2 (.slice (some ⟨r, 0, none⟩) (l.length + 1) c) (l.length + 1) (flat (l.take i ++ x :: l.drop i)) ∧ w.grownBy w' (some r) := by
  obtain ⟨i0, hi0, hz0, hz1, hz2⟩ := info_parts info_tk
  have hsz : (Tryz.prog.info? 110).map (·.size) = some 2 := by rw [hi0]; simp [hz1]
  obtain ⟨cur, hBr, hcur, hnc, hcm, hcs, hget⟩ := own_cur h
  have v1 := box_cell hv 0 rfl
  have v2 := box_cell hv 1 rfl
  have hln2 := flat_length l
  obtain ⟨n, hln⟩ : ∃ n, l.length = n := ⟨_, rfl⟩
  rw [hln] at hi hroom hnc hget hln2 h ⊢
  have hov : ∀ lb cb, (callFunc 88 #[.slice (some ⟨vb, 0, none⟩) 1 1, .slice (some ⟨r, (i + 1) * 2, none⟩) lb cb]).run Tryz.prog w = .ok (.value (.bool false)) w := fun lb cb => by
    rw [run_callFunc_extern Tryz.func88 (by kernel_rfl) (by kernel_rfl) (by kernel_rfl) (e := Extern.SlicesOverlaps.overlaps #[98, 98] #[4]) (by kernel_rfl),
      Lib.run_overlaps_apart w 98 4 110 Tryz.underlying98 2 Tryz.sizeOf110 ⟨vb, 0, none⟩ ⟨r, (i + 1) * 2, none⟩ 1 1 lb cb hne 110 110 2 (c * 2) (by simp [World.shape?, hv]) (by simp [World.shape?, hcur, hcs]) (by omega) (box_free hv 0) (box_free hv 2)]
    rfl
  have hdl : ((flat l).drop (i * 2)).length = (n - i) * 2 := by rw [List.length_drop, hln2]; omega
  have hc1 : ∀ ty dc sc, (Builtin.copy_ #[98, 98] ty #[.slice (some ⟨r, (i + 1) * 2, none⟩) (n - i) dc, .slice (some ⟨r, i * 2, none⟩) (n + 1 - i) sc]).run Tryz.prog w.drew = .ok (goInt ((n - i : Nat) : Int)) (w.drew.setRow r (cur.toList.take (i * 2 + 2) ++ (flat l).drop (i * 2) ++ cur.toList.drop (i * 2 + 2 + ((flat l).drop (i * 2)).length)).toArray) := fun ty dc sc => by
    have := run_copy_k (P := Tryz.prog) w.drew 98 98 ty 110 2 r ((i + 1) * 2) (n - i) dc ⟨r, i * 2, none⟩ (n + 1 - i) sc (n - i) cur 110 ((flat l).drop (i * 2)) Tryz.underlying98 hsz hcur (by simp only [Nat.min_def]; split <;> omega) hdl
      (fun j v hj => by
        rw [at_off]
        have hj2 := (List.getElem?_eq_some_iff.1 hj).1
        rw [List.getElem?_drop] at hj
        show w.cell? _ = _
        rw [h.cellAt (i * 2 + j) (by omega)]
        exact hj) (by rw [hdl, hcs]; omega) (fun v hv => flat_one l v (List.mem_of_mem_drop hv))
    rw [show (i + 1) * 2 = i * 2 + 2 by omega] at this ⊢
    exact this
  obtain ⟨W1, hW1⟩ : ∃ W1, W1 = w.drew.setRow r (cur.toList.take (i * 2 + 2) ++ (flat l).drop (i * 2) ++ cur.toList.drop (i * 2 + 2 + ((flat l).drop (i * 2)).length)).toArray := ⟨_, rfl⟩
  obtain ⟨cur1, hcur1⟩ : ∃ cur1, cur1 = (cur.toList.take (i * 2 + 2) ++ (flat l).drop (i * 2) ++ cur.toList.drop (i * 2 + 2 + ((flat l).drop (i * 2)).length)).toArray := ⟨_, rfl⟩
  have hk1 : W1.heap[r]? = some (.cells cur1 110 (0, 0)) := by rw [hW1, hcur1]; exact setRow_heap w.drew r cur _ _ _ hcur
  have hs1 : cur1.size = c * 2 := by rw [hcur1]; simp only [List.size_toArray, List.length_append, List.length_take, List.length_drop, Array.length_toList, hcs, hln2]; omega
  have hb1 : W1.heap[vb]? = some (.cells #[.int .i64 x.1, .int .i64 x.2] 110 (0, 0)) := by rw [hW1, setRow_other _ _ _ _ hne]; exact hv
  have hc2 : ∀ ty dc, (Builtin.copy_ #[98, 98] ty #[.slice (some ⟨r, i * 2, none⟩) (n + 1 - i) dc, .slice (some ⟨vb, 0, none⟩) 1 1]).run Tryz.prog W1 = .ok (goInt ((1 : Nat) : Int)) (W1.setRow r (cur1.toList.take (i * 2) ++ cells2 x ++ cur1.toList.drop (i * 2 + 2)).toArray) := fun ty dc =>
    run_copy_k (P := Tryz.prog) W1 98 98 ty 110 2 r (i * 2) (n + 1 - i) dc ⟨vb, 0, none⟩ 1 1 1 cur1 110 (cells2 x) Tryz.underlying98 hsz hk1 (by simp only [Nat.min_def]; split <;> omega) rfl
      (fun j u hu => by
        rw [at_off, Nat.zero_add]
        match j, hu with
        | 0, hu => simp [cells2] at hu; rw [← hu]; exact box_cell hb1 0 rfl
        | 1, hu => simp [cells2] at hu; rw [← hu]; exact box_cell hb1 1 rfl
        | j + 2, hu => simp [cells2] at hu) (by simp only [cells2, List.length_cons, List.length_nil]; omega) (cells2_one x)
  obtain ⟨W2, hW2⟩ : ∃ W2, W2 = W1.setRow r (cur1.toList.take (i * 2) ++ cells2 x ++ cur1.toList.drop (i * 2 + 2)).toArray := ⟨_, rfl⟩
  have hfin : W2.ownsRow B 110 2 (.slice (some ⟨r, 0, none⟩) (n + 1) c) (n + 1) (flat (l.take i ++ x :: l.drop i)) := by
    refine ⟨by rw [flat_length]; simp [hln]; omega, .inr ⟨r, c, _, rfl, hBr, by rw [hW2]; exact setRow_heap W1 r cur1 _ _ _ hk1, hroom, hcm, ?_, ?_⟩⟩
    · simp only [List.size_toArray, List.length_append, List.length_take, List.length_drop, Array.length_toList, hs1, cells2, List.length_cons, List.length_nil]; omega
    · rw [← flat_in, show (n + 1) * 2 = n * 2 + 2 by omega, hcur1]
      exact list_shift cur.toList (flat l) (cells2 x) (i * 2) (n * 2) hget (by rw [Array.length_toList, hcs]; omega) (by omega) rfl
  have hgrw : w.grownBy W2 (some r) := by
    rw [hW2, hW1]
    have g0 : w.grownBy w.drew (some r) := ⟨rfl, rfl, rfl, Nat.le_refl _, fun _ _ _ => rfl⟩
    exact (g0.trans (set_row_grown w.drew r _)).trans (set_row_grown _ r _)
  have HF := Lib.hid (And.intro hfin hgrw)
  have HC1 := Lib.hid hc1
  have HC2 := Lib.hid hc2
  have HW1 := Lib.hid hW1
  have HW2 := Lib.hid hW2
  have hz : ¬ ((i : Int) = (n : Int)) := by omega
  have hin : i ≤ n := by omega
  have hw1 : IntKind.i64.wrap ((i : Int) + 1) = (i : Int) + 1 := by rw [IntKind.wrap_i64]; unfold maxLen at hcm; omega
  have hw2 : IntKind.i64.wrap ((n : Int) + 1) = (n : Int) + 1 := by rw [IntKind.wrap_i64]; unfold maxLen at hcm; omega
  have hb2 : ¬ (c = i + 1) := by omega
  have hb4 : ¬ (c = i) := by omega
  have hcc : (n : Int) + 1 ≤ (c : Int) := by omega
  have hcc3 : ¬ ((c : Int) < (n : Int) + 1) := by omega
  have hi0' : (0 : Int) ≤ (i : Int) := by omega
  have hi1' : (i : Int) ≤ (n : Int) := by omega
  have hi2' : (i : Int) < (n : Int) := by omega
  have hi3' : (i : Int) + 1 ≤ (n : Int) + 1 := by omega
  have hi4' : (i : Int) ≤ (n : Int) + 1 := by omega
  have hcm' : (c : Int) ≤ 9223372036854775807 := by unfold maxLen at hcm; omega
  have hi5' : (0 : Int) ≤ (i : Int) + 1 := by omega
  have e1 := at_row r i
  have e2 := at_row r (i + 1)
  have ht1 : ((i : Int) + 1).toNat = i + 1 := by omega
  have ht2 : ((n : Int) + 1).toNat = n + 1 := by omega
  have hcA := hc1 3 (c - (i + 1)) (c - i)
  rw [← hW1] at hcA
  have hcB := hc2 3 (c - i)
  rw [← hW2] at hcB
  clear hc1 hc2 hW1 hW2 hfin hgrw hcur hcur1 hget h hv v1 v2 hk1 hb1 hs1 hcs hdl hln2 hcm
  go_enter Tryz.func68, Tryz.ntmps68
  go_wp2_with (simp only [hov])
  go_region
  go_wp2
  go_ret
  exact ⟨rfl, HF.out⟩
set_option maxRecDepth 100000 in
set_option maxHeartbeats 4000000 in
/-- in a new row -/
theorem insert_grow {B : Nat} {l : Tab} {r c : Nat} (i : Nat) (x : Int × Int) (vb : Nat) (w : World) (h : w.ownsRow B 110 2 (.slice (some ⟨r, 0, none⟩) l.length c) l.length (flat l)) (hi : i < l.length) (hroom : c < l.length + 1) (hsm : l.length ≤ 100000) (hB : B ≤ w.heap.size)
    (hv : w.heap[vb]? = some (.cells #[.int .i64 x.1, .int .i64 x.2] 110 (0, 0))) :
    Calls Tryz.prog 68 #[.slice (some ⟨r, 0, none⟩) l.length c, .int .i64 i, .slice (some ⟨vb, 0, none⟩) 1 1] w fun e w' => ∃ A' c', e = .returned (.slice A' (l.length + 1) c') ∧
      w'.ownsRow B 110 2 (.slice A' (l.length + 1) c') (l.length + 1) (flat (l.take i ++ x :: l.drop i)) ∧ w.grownBy w' (some r) := by
  obtain ⟨i0, hi0, hz0, hz1, hz2⟩ := info_parts info_tk
  have hsz : (Tryz.prog.info? 110).map (·.size) = some 2 := by rw [hi0]; simp [hz1]
  obtain ⟨cur, hBr, hcur, hnc, hcm, hcs, hget⟩ := own_cur h
  have hrw := lt_of_block hcur
  have hvw := lt_of_block hv
  have hln2 := flat_length l
  obtain ⟨n, hln⟩ : ∃ n, l.length = n := ⟨_, rfl⟩
  rw [hln] at hi hroom hnc hget hln2 h hsm ⊢
  have hft : flat (l.take i) = (flat l).take (i * 2) := (flat_take l i).symm
  have hold : (Builtin.firstCells i0.size i (.slice (some ⟨r, 0, none⟩) i c)).run Tryz.prog w.drew = .ok (flat (l.take i)).toArray w.drew := by
    rw [hz1]
    exact run_firstCells_some w.drew 2 i ⟨r, 0, none⟩ i c (flat (l.take i)) (by rw [flat_length, List.length_take]; omega) (fun j v hj => by
      rw [at_off, Nat.zero_add]
      have hj2 := (List.getElem?_eq_some_iff.1 hj).1
      rw [flat_length, List.length_take] at hj2
      show w.cell? _ = _
      rw [h.cellAt j (by omega), ← hj, hft, List.getElem?_take_of_lt (by omega)])
  obtain ⟨G, hG⟩ : ∃ G, G = grownCap w (n + 1) c 110 := ⟨_, rfl⟩
  obtain ⟨ROW, hROW⟩ : ∃ ROW : Array Value, ROW = (flat (l.take i)).toArray ++ Builtin.zeroCells (Value.agg #[.int .i64 0, .int .i64 0]).cells (n + 1 - i) ++ Builtin.zeroCells (Value.agg #[.int .i64 0, .int .i64 0]).cells (G - (n + 1)) := ⟨_, rfl⟩
  obtain ⟨W1, hW1⟩ : ∃ W1, W1 = w.drew.alloc (.cells ROW 110) := ⟨_, rfl⟩
  have hrz : ∀ ty, (Builtin.append_ #[98, 3] ty #[.slice (some ⟨r, 0, none⟩) i c, .int .i64 ((n : Int) + 1 - (i : Int))]).run Tryz.prog w = .ok (.slice (some ⟨w.heap.size, 0, none⟩) (n + 1) G) W1 := fun ty => by
    have h := Lib.run_append_grow_zeros w 98 3 ty 110 i0 _ .i64 .i64 Tryz.underlying98 Tryz.underlying3 hi0 hz0 (some ⟨r, 0, none⟩) i c (flat (l.take i)) hold (n + 1 - i) (by omega) (by omega) (by omega) (by omega) (by rw [hz2]; omega) (by rw [hz2, show i + (n + 1 - i) = n + 1 by omega]; exact growslice_fits hroom (by omega))
    rw [show i + (n + 1 - i) = n + 1 by omega] at h
    rw [show (n : Int) + 1 - (i : Int) = ((n + 1 - i : Nat) : Int) by omega, hW1, hROW, hG]
    exact h
  have hGn : n + 1 ≤ G := by rw [hG]; exact grownCap_ge w _ _ _
  have hG63 : G ≤ maxLen := by rw [hG]; exact grownCap_le_maxLen w (n + 1) c 110 (by unfold maxLen; omega)
  have hRs : ROW.size = G * 2 := by
    rw [hROW]
    simp only [Array.size_append, List.size_toArray, flat_length, List.length_take, size_zeroCells]
    simp only [Value.cells, List.size_toArray, List.length_cons, List.length_nil]
    omega
  have hRt : ROW.toList.take (i * 2) = (flat l).take (i * 2) := by
    rw [hROW]
    simp only [Array.toList_append, List.append_assoc]
    rw [List.take_append_of_le_length (by rw [flat_length, List.length_take]; omega), hft]
    exact List.take_of_length_le (by rw [List.length_take]; omega)
  obtain ⟨g2, hg2⟩ : ∃ g2, w.heap.size = g2 := ⟨_, rfl⟩
  have hk1 : W1.heap[g2]? = some (.cells ROW 110 (0, 0)) := by rw [hW1, ← hg2]; exact heap_alloc_new w.drew _
  have hb1 : W1.heap[vb]? = some (.cells #[.int .i64 x.1, .int .i64 x.2] 110 (0, 0)) := by rw [hW1]; exact (Below.heap_alloc w.drew _ vb hvw).trans hv
  have hr1 : W1.heap[r]? = some (.cells cur 110 (0, 0)) := by rw [hW1]; exact (Below.heap_alloc w.drew _ r hrw).trans hcur
  obtain ⟨W2, hW2⟩ : ∃ W2, W2 = W1.setRow g2 (ROW.toList.take (i * 2) ++ cells2 x ++ ROW.toList.drop (i * 2 + (cells2 x).length)).toArray := ⟨_, rfl⟩
  obtain ⟨RA, hRA⟩ : ∃ RA, RA = (ROW.toList.take (i * 2) ++ cells2 x ++ ROW.toList.drop (i * 2 + (cells2 x).length)).toArray := ⟨_, rfl⟩
  have hRAs : RA.size = G * 2 := by rw [hRA]; simp only [List.size_toArray, List.length_append, List.length_take, List.length_drop, Array.length_toList, hRs, cells2, List.length_cons, List.length_nil]; omega
  have hcA : ∀ ty dc, (Builtin.copy_ #[98, 98] ty #[.slice (some ⟨g2, i * 2, none⟩) (n + 1 - i) dc, .slice (some ⟨vb, 0, none⟩) 1 1]).run Tryz.prog W1 = .ok (goInt ((1 : Nat) : Int)) W2 := fun ty dc => by
    rw [hW2]
    exact run_copy_k (P := Tryz.prog) W1 98 98 ty 110 2 g2 (i * 2) (n + 1 - i) dc ⟨vb, 0, none⟩ 1 1 1 ROW 110 (cells2 x) Tryz.underlying98 hsz hk1 (by simp only [Nat.min_def]; split <;> omega) rfl
      (fun j u hu => by
        rw [at_off, Nat.zero_add]
        match j, hu with
        | 0, hu => simp [cells2] at hu; rw [← hu]; exact box_cell hb1 0 rfl
        | 1, hu => simp [cells2] at hu; rw [← hu]; exact box_cell hb1 1 rfl
        | j + 2, hu => simp [cells2] at hu) (by simp only [cells2, List.length_cons, List.length_nil]; omega) (cells2_one x)
  have hk2 : W2.drew.heap[g2]? = some (.cells RA 110 (0, 0)) := by rw [hW2, hRA]; exact setRow_heap W1 g2 ROW _ _ _ hk1
  have hrg : r ≠ g2 := by omega
  have hr2 : W2.drew.heap[r]? = some (.cells cur 110 (0, 0)) := by rw [hW2]; exact (setRow_other W1 g2 r _ hrg).trans hr1
  have hdl : ((flat l).drop (i * 2)).length = (n - i) * 2 := by rw [List.length_drop, hln2]; omega
  obtain ⟨W3, hW3⟩ : ∃ W3, W3 = W2.drew.setRow g2 (RA.toList.take (i * 2 + 2) ++ (flat l).drop (i * 2) ++ RA.toList.drop (i * 2 + 2 + ((flat l).drop (i * 2)).length)).toArray := ⟨_, rfl⟩
  have hcB : ∀ ty dc sc, (Builtin.copy_ #[98, 98] ty #[.slice (some ⟨g2, (i + 1) * 2, none⟩) (n - i) dc, .slice (some ⟨r, i * 2, none⟩) (n - i) sc]).run Tryz.prog W2.drew = .ok (goInt ((n - i : Nat) : Int)) W3 := fun ty dc sc => by
    have := run_copy_k (P := Tryz.prog) W2.drew 98 98 ty 110 2 g2 ((i + 1) * 2) (n - i) dc ⟨r, i * 2, none⟩ (n - i) sc (n - i) RA 110 ((flat l).drop (i * 2)) Tryz.underlying98 hsz hk2 (by simp only [Nat.min_def]; split <;> omega) hdl
      (fun j v hj => by
        rw [at_off]
        have hj2 := (List.getElem?_eq_some_iff.1 hj).1
        rw [List.getElem?_drop, ← hget, List.getElem?_take_of_lt (by omega)] at hj
        exact box_cell hr2 _ (by rw [← Array.getElem?_toList]; exact hj)) (by rw [hdl, hRAs]; omega) (fun v hv => flat_one l v (List.mem_of_mem_drop hv))
    rw [hW3]
    rw [show (i + 1) * 2 = i * 2 + 2 by omega] at this ⊢
    exact this
  have hfin : W3.ownsRow B 110 2 (.slice (some ⟨g2, 0, none⟩) (n + 1) G) (n + 1) (flat (l.take i ++ x :: l.drop i)) := by
    refine ⟨by rw [flat_length]; simp [hln]; omega, .inr ⟨g2, G, _, rfl, by omega, by rw [hW3]; exact setRow_heap W2.drew g2 RA _ _ _ hk2, hGn, hG63, ?_, ?_⟩⟩
    · simp only [List.size_toArray, List.length_append, List.length_take, List.length_drop, Array.length_toList, hRAs, hln2]; omega
    · rw [← flat_in, show (n + 1) * 2 = n * 2 + 2 by omega, hRA]
      exact list_new ROW.toList (flat l) (cells2 x) (i * 2) (n * 2) hRt hln2 (by rw [Array.length_toList, hRs]; omega) (by omega) rfl
  have hgrw : w.grownBy W3 (some r) := by
    have g0 : w.grownBy W1 (some r) := by rw [hW1]; exact ⟨rfl, rfl, rfl, by simp, fun k hk _ => Below.heap_alloc w.drew _ k hk⟩
    have g1 : w.grownBy W2 (some r) := by
      rw [hW2]
      exact ⟨g0.os, g0.tape, g0.output, by simpa using g0.size, fun k hk hkr => (setRow_other W1 g2 k _ (by omega)).trans (g0.block k hk hkr)⟩
    rw [hW3]
    exact ⟨g1.os, g1.tape, g1.output, by simpa using g1.size, fun k hk hkr => (setRow_other W2.drew g2 k _ (by omega)).trans (g1.block k hk hkr)⟩
  have HF := Lib.hid (And.intro hfin hgrw)
  have HRA := Lib.hid hrz
  have HG2 := Lib.hid hg2
  have hc2 := hcA 3 (G - i)
  have hc3 := hcB 3 (G - (i + 1)) (c - i)
  have hz : ¬ ((i : Int) = (n : Int)) := by omega
  have hin : i ≤ n := by omega
  have hG64 : (G : Int) ≤ 9223372036854775807 := by unfold maxLen at hG63; omega
  have hGn' : (n : Int) + 1 ≤ (G : Int) := by omega
  have hw1 : IntKind.i64.wrap ((i : Int) + 1) = (i : Int) + 1 := by rw [IntKind.wrap_i64]; omega
  have hw2 : IntKind.i64.wrap ((n : Int) + 1) = (n : Int) + 1 := by rw [IntKind.wrap_i64]; omega
  have hw3 : IntKind.i64.wrap ((n : Int) + 1 - (i : Int)) = (n : Int) + 1 - (i : Int) := by rw [IntKind.wrap_i64]; omega
  have hb2 : ¬ (G = i + 1) := by omega
  have hb4 : ¬ (G = i) := by omega
  have hb5 : ¬ (c = i) := by omega
  have hcc : (c : Int) < (n : Int) + 1 := by omega
  have hi0' : (0 : Int) ≤ (i : Int) := by omega
  have hi1' : (i : Int) ≤ (n : Int) := by omega
  have hi2' : (i : Int) < (n : Int) := by omega
  have hi3' : (i : Int) + 1 ≤ (n : Int) + 1 := by omega
  have hi4' : (i : Int) ≤ (n : Int) + 1 := by omega
  have hi5' : (0 : Int) ≤ (i : Int) + 1 := by omega
  have hi6' : (n : Int) ≤ (c : Int) := by omega
  have hcm' : (c : Int) ≤ 9223372036854775807 := by unfold maxLen at hcm; omega
  have e1 := at_row r i
  have e2 := at_row g2 (i + 1)
  have e3 := at_row g2 i
  have ht1 : ((i : Int) + 1).toNat = i + 1 := by omega
  have ht2 : ((n : Int) + 1).toNat = n + 1 := by omega
  clear hcA hcB hrz hW1 hW2 hW3 hfin hgrw hcur hget h hv hk1 hk2 hb1 hr1 hr2 hRAs hcs hdl hln2 hcm hG hROW hRs hRt hRA hold hft hGn hG63 hg2
  go_enter Tryz.func68, Tryz.ntmps68
  go_wp2_with (at_builtin; refine Lib.wpList_append_run _ rfl _ _ _ _ rfl _ _ rfl rfl _ _ (HRA.out _) ?_; rw [HG2.out])
  go_region
  go_wp2
  go_ret
  exact ⟨_, _, rfl, HF.out⟩
/-- slices.Insert, wherever it is -/
theorem insert_any {B : Nat} {l : Tab} {A : Option Addr} {c : Nat} (i : Nat) (x : Int × Int) (vb : Nat) (w : World) (h : w.ownsRow B 110 2 (.slice A l.length c) l.length (flat l)) (hi : i ≤ l.length) (hn : l.length ≤ 100000) (hB : B ≤ w.heap.size)
    (hv : w.heap[vb]? = some (.cells #[.int .i64 x.1, .int .i64 x.2] 110 (0, 0))) (hne : ∀ r, A = some ⟨r, 0, none⟩ → vb ≠ r) :
    Calls Tryz.prog 68 #[.slice A l.length c, .int .i64 i, .slice (some ⟨vb, 0, none⟩) 1 1] w fun e w' => ∃ A' c', e = .returned (.slice A' (l.length + 1) c') ∧
      w'.ownsRow B 110 2 (.slice A' (l.length + 1) c') (l.length + 1) (flat (l.take i ++ x :: l.drop i)) ∧ w.grownBy w' (Value.slice A l.length c).ownBlock := by
  rcases Nat.eq_or_lt_of_le hi with rfl | hlt
  · exact insert_end x vb w h hn hB hv
  · rcases own_addr h with ⟨_, h0, _⟩ | ⟨r, rfl, _, _⟩
    · omega
    · by_cases hroom : l.length + 1 ≤ c
      · refine (insert_room i x vb w h hlt hroom hv (hne r rfl)).mono ?_
        rintro e w' ⟨rfl, h1, h2⟩
        exact ⟨_, _, rfl, h1, h2⟩
      · exact insert_grow i x vb w h hlt (by omega) hn hB hv
end Pt
end Go.Proofs.YtbichomjpmmjmaaGreatDoor

/-
  The iterators of package port: All over a copy of the table, slices.Values over a call's ports: what they tell, as far as one likes. Conditions: the table is one; the ports lie in memory.
-/
set_option linter.unusedVariables false
set_option linter.unusedSimpArgs false
namespace Go.Proofs.YtbichomjpmmjmaaGreatDoor
open Go.ChangeShapes Go.WideShapes Go.ChangeAt Go.RowKit Go.Lib
open Lists
namespace Pt
attribute [local go_sem] Oper.semAt_some
/-- what a round keeps for the iterator: the blocks that K says -/
def Kk (K : Nat → Prop) (A B : World) : Prop := A.heap.size ≤ B.heap.size ∧ ∀ k, K k → B.heap[k]? = A.heap[k]?
theorem Kk.refl (K : Nat → Prop) (A : World) : Kk K A A := ⟨Nat.le_refl _, fun _ _ => rfl⟩
theorem Kk.trans {K : Nat → Prop} {A B C : World} (h : Kk K A B) (k : Kk K B C) : Kk K A C := ⟨Nat.le_trans h.1 k.1, fun i hi => (k.2 i hi).trans (h.2 i hi)⟩
theorem Kk.put {K : Nat → Prop} {n : Nat} (hK : ∀ k, K k → k < n) (W : World) (l : Nat) (o o' : Obj) (hl : n ≤ l) (h : W.heap[l]? = some o) (_ : o.isCells = false) (_ : o.isWalk = false) : Kk K W (W.putObj l o') :=
  ⟨by simp [World.putObj], fun k hk => World.putObj_heap_other (by have := hK k hk; omega)⟩
theorem Kk.of_below {K : Nat → Prop} {n : Nat} {A B : World} (hK : ∀ k, K k → k < n) (h : Below n A B) : Kk K A B := ⟨h.size, fun k hk => h.block k (hK k hk)⟩
set_option maxRecDepth 100000 in
set_option maxHeartbeats 2000000 in
theorem values_stops (n0 : Nat) (hn0 : 1 ≤ n0) (b : Nat) (l : List Int) (A : Option Addr) (c : Nat) (w : World) (hb : w.heap[b]? = some (.cells #[.slice A l.length c] 49 (0, 0))) (hA : Nums .i64 w A l) (hl : l.length ≤ 100000) :
    SeqStopsK Fence.wide n0 Tryz.prog 87 #[.pointer (some ⟨b, 0, none⟩)] (fun x : Int => #[Value.int .i64 x]) (Kk (fun k => k < w.heap.size)) (fun ys => ys = l) (fun pre => pre <+: l) l.length w := by
  intro l0 J Jx W hW hJ hJx hY h0
  have c0 := box_cell ((hW.block b (lt_of_block hb)).trans hb) 0 rfl
  have HA := Lib.hid (show ∀ v : World, Kk (fun k => k < w.heap.size) W v → Nums .i64 v A l from fun v hv k z hz => by
    obtain ⟨h1, a, h2, h3, h4⟩ := hA k z hz
    refine ⟨h1, a, h2, Nat.lt_of_lt_of_le h3 (Nat.le_trans hW.size hv.1), ?_⟩
    refine (World.cell?_of_block ?_).trans h4
    rw [add_block]
    exact (hv.2 _ h3).trans (hW.block _ h3))
  have HJ := Lib.hid hJ
  have HY := Lib.hid hY
  have H0 := Lib.hid h0
  obtain ⟨n, hln⟩ : ∃ n, l.length = n := ⟨_, rfl⟩
  have HLN := Lib.hid hln
  rw [hln] at c0 hl HY
  have hl' : (n : Int) ≤ 100000 := by omega
  clear hb hW hJ hJx hY h0 hln hA
  refine callsIn_of_wp Tryz.func87 rfl trivial ?_ rfl
  simp only [Tryz.ntmps87, List.size_toArray, List.length_cons, List.length_nil, Nat.reduceAdd, Nat.reduceSub, Array.replicate_succ, Array.replicate_zero, List.push_toArray, List.append_toArray, List.nil_append, List.cons_append]
  gi_wp2
  gi_loopw [7] (fun i wr => ∃ k : Nat, k ≤ n ∧ i = .int .i64 k ∧ Hid (J (l.take k) wr) ∧ Hid (Kk (fun k => k < w.heap.size) W wr)) (fun i _ => n - (RowKit.intOf i).toNat)
  case atStart => exact ⟨0, Nat.zero_le _, rfl, by rw [List.take_zero]; exact H0.out, Kk.refl _ _⟩
  case round =>
    obtain ⟨k, hk, rfl, HJs, HK⟩ := hrel
    by_cases hkn : k < n
    · obtain ⟨y, hy⟩ : ∃ y, l[k]? = some y := ⟨_, List.getElem?_eq_getElem (by have := HLN.out; omega)⟩
      obtain ⟨_, a, rfl, _, hca⟩ := HA.out wr HK.out k y hy
      obtain ⟨fn, tmps, assign, body, hyy, hR⟩ := HY.out (l.take k) y _ HJs.out (by rw [List.length_take]; have := HLN.out; omega)
      have hkn' : (k : Int) < (n : Int) := by omega
      have HT := Lib.hid (show l.take k ++ [y] = l.take (k + 1) by rw [List.take_add_one, hy]; rfl)
      clear hy
      gi_wp2
      refine hR.mono ?_
      rintro e W3 (⟨rfl, hJ3, hk3⟩ | ⟨rfl, hJx3⟩)
      · have HJ3 := Lib.hid hJ3
        have HK3 := Lib.hid hk3
        clear hJ3 hk3 hR hyy
        gi_wp2
        go_roundw
        case rel => exact ⟨k + 1, by omega, by simp, by rw [← HT.out]; exact HJ3.out, HK.out.trans HK3.out⟩
        case measure => simp [RowKit.intOf]; omega
      · have HJ3 := Lib.hid hJx3
        clear hJx3 hR hyy
        gi_wp2
        refine bodyPost_ret (results_none rfl _ _ _) rfl ?_
        exact ⟨⟨_, rfl⟩, .inr ⟨_, List.take_prefix (k + 1) l, by rw [← HT.out]; exact HJ3.out⟩⟩
    · have hkn' : ¬ (k : Int) < (n : Int) := by omega
      have HD := Lib.hid (show l.take k = l from List.take_of_length_le (by have := HLN.out; omega))
      gi_wp2
      go_end0
      exact ⟨⟨_, rfl⟩, .inl (by have := HJs.out; rw [HD.out] at this; exact this)⟩
theorem values_any (A : Option Addr) (n c : Nat) (w : World) :
    Calls Tryz.prog 67 #[.slice A n c] w fun e w' => e = .returned (.func (.func 87) #[] #[.pointer (some ⟨w.heap.size, 0, none⟩)]) ∧ w' = w.alloc (.cells #[.slice A n c] 49) := by
  go_enter Tryz.func67, Tryz.ntmps67
  go_wp2
  go_ret
  exact ⟨rfl, rfl⟩
end Pt
end Go.Proofs.YtbichomjpmmjmaaGreatDoor

/-
  slices.ContainsFunc with what is no port, and slices.Sorted of slices.Values: a call's ports held against their range, and sorted in memory of the call's own. Conditions: the ports lie in memory, there are not too many.
-/
set_option linter.unusedVariables false
set_option linter.unusedSimpArgs false
namespace Go.Proofs.YtbichomjpmmjmaaGreatDoor
open Go.ChangeShapes Go.WideShapes Go.ChangeAt Go.RowKit Go.Lib
open Lists
namespace Pt
attribute [local go_sem] Oper.semAt_some
theorem nums_below {w w' : World} {A : Option Addr} {l : List Int} (h : Nums .i64 w A l) (hb : Below w.heap.size w w') : Nums .i64 w' A l := by
  intro k z hz
  obtain ⟨h1, a, h2, h3, h4⟩ := h k z hz
  exact ⟨h1, a, h2, Nat.lt_of_lt_of_le h3 hb.size, (hb.cell (by rw [add_block]; exact h3)).trans h4⟩
theorem nopo_any (p : Int) (w : World) : Calls Tryz.prog 66 #[.int .i64 p] w fun e w' => e = .returned (.bool (!inR p)) ∧ w' = w := by
  obtain ⟨z, hz⟩ : ∃ z, (!inR p) = z := ⟨_, rfl⟩
  rw [hz]
  have HZ := Lib.hid hz
  clear hz
  by_cases h1 : p < 1
  · have hd : decide (p < 1) = true := decide_eq_true h1
    go_enter Tryz.func66, Tryz.ntmps66
    go_wp2
    all_goals (go_ret; refine ⟨?_, rfl⟩; rw [← HZ.out]; unfold inR; rw [decide_eq_false (by omega)]; rfl)
  · by_cases h2 : 65535 < p
    · have hd : decide (p < 1) = false := decide_eq_false h1
      have hd2 : decide (65535 < p) = true := decide_eq_true h2
      go_enter Tryz.func66, Tryz.ntmps66
      go_wp2
      all_goals (go_ret; refine ⟨?_, rfl⟩; rw [← HZ.out]; unfold inR; rw [decide_eq_false (by omega)]; rfl)
    · have hd : decide (p < 1) = false := decide_eq_false h1
      have hd2 : decide (65535 < p) = false := decide_eq_false h2
      go_enter Tryz.func66, Tryz.ntmps66
      go_wp2
      all_goals (go_ret; refine ⟨?_, rfl⟩; rw [← HZ.out]; unfold inR; rw [decide_eq_true (by omega)]; rfl)
/-- the first that is no port; -1: none -/
def idxN : Nat → List Int → Int
  | _, [] => -1
  | k, x :: l => if inR x = true then idxN (k + 1) l else (k : Int)
theorem idxN_spec : ∀ (l : List Int) (k : Nat), (idxN k l = -1 ∧ l.all inR = true) ∨ (0 ≤ idxN k l ∧ l.all inR = false)
  | [], k => .inl ⟨rfl, rfl⟩
  | x :: l, k => by
    unfold idxN
    cases h : inR x with
    | true =>
      rw [if_pos rfl, List.all_cons, h, Bool.true_and]
      exact idxN_spec l (k + 1)
    | false =>
      rw [if_neg (by simp), List.all_cons, h, Bool.false_and]
      exact .inr ⟨by omega, rfl⟩
set_option maxRecDepth 100000 in
theorem indexN_any (A : Option Addr) (c : Nat) (l : List Int) (w : World) (h : Nums .i64 w A l) (hn : l.length ≤ 100000) :
    Calls Tryz.prog 78 #[.slice A l.length c, .func (.func 66) #[] #[]] w fun e w' => e = .returned (.int .i64 (idxN 0 l)) ∧ w' = w := by
  have H := Lib.hid h
  obtain ⟨R, hR⟩ : ∃ R, idxN 0 l = R := ⟨_, rfl⟩
  obtain ⟨n, hln⟩ : ∃ n, l.length = n := ⟨_, rfl⟩
  have HLN := Lib.hid hln
  rw [hln] at hn
  rw [hR, hln]
  have HR := Lib.hid hR
  clear h hR hln
  have hn' : (n : Int) ≤ 100000 := by omega
  go_enter Tryz.func78, Tryz.ntmps78
  go_wp2
  go_loopw [8] (fun i wr => ∃ k : Nat, k ≤ n ∧ i = .int .i64 k ∧ wr = w ∧ Hid (R = idxN k (l.drop k))) (fun i _ => n - (RowKit.intOf i).toNat)
  case atStart => exact ⟨0, Nat.zero_le _, rfl, by trivial, by unfold Hid; rw [← HR.out, List.drop_zero]⟩
  case round =>
    obtain ⟨k, hk, rfl, rfl, HK⟩ := hrel
    by_cases hkn : k < n
    · obtain ⟨y, hy⟩ : ∃ y, l[k]? = some y := ⟨_, List.getElem?_eq_getElem (by have := HLN.out; omega)⟩
      obtain ⟨_, a, rfl, _, hca⟩ := H.out k y hy
      have hd : l.drop k = y :: l.drop (k + 1) := by
        rw [List.drop_eq_getElem_cons (by have := HLN.out; omega), (List.getElem?_eq_some_iff.1 hy).2]
      have hc := nopo_any y wr
      have hkn' : (k : Int) < (n : Int) := by omega
      clear hy
      cases hyo : inR y with
      | false =>
        rw [hyo] at hc
        have HK2 := Lib.hid (show R = (k : Int) by rw [HK.out, hd]; unfold idxN; rw [if_neg (by rw [hyo]; simp)])
        clear hyo hd
        go_wp2_with (go_at_call 66; refine hc.mono ?_; rintro e w' ⟨rfl, rfl⟩)
        go_ret
        exact ⟨by rw [HK2.out]; rfl, rfl⟩
      | true =>
        rw [hyo] at hc
        have HK2 := Lib.hid (show R = idxN (k + 1) (l.drop (k + 1)) by rw [HK.out, hd]; conv => lhs; unfold idxN; rw [if_pos hyo])
        clear hyo hd
        go_wp2_with (go_at_call 66; refine hc.mono ?_; rintro e w' ⟨rfl, rfl⟩)
        go_roundw
        case rel => exact ⟨k + 1, by omega, by simp, by trivial, HK2.out⟩
        case measure => simp [RowKit.intOf]; omega
    · have hkn' : ¬ (k : Int) < (n : Int) := by omega
      have HK2 := Lib.hid (show R = -1 by rw [HK.out, List.drop_eq_nil_of_le (by have := HLN.out; omega)]; rfl)
      go_wp2
      go_ret
      exact ⟨by rw [HK2.out]; rfl, rfl⟩
theorem contains_any (A : Option Addr) (c : Nat) (l : List Int) (w : World) (h : Nums .i64 w A l) (hn : l.length ≤ 100000) :
    Calls Tryz.prog 47 #[.slice A l.length c, .func (.func 66) #[] #[]] w fun e w' => e = .returned (.bool (!l.all inR)) ∧ w' = w := by
  have hi := indexN_any A c l w h hn
  have hs := idxN_spec l 0
  generalize idxN 0 l = R at hi hs
  obtain ⟨b, hb⟩ : ∃ b, l.all inR = b := ⟨_, rfl⟩
  rw [hb] at hs ⊢
  generalize l.length = n at hi ⊢
  clear h hn hb
  rcases hs with ⟨rfl, rfl⟩ | ⟨h0, rfl⟩
  · go_enter Tryz.func47, Tryz.ntmps47
    go_wp2_with (go_at_call 78; refine hi.mono ?_; rintro e w' ⟨rfl, rfl⟩)
    go_ret
    exact ⟨rfl, rfl⟩
  · go_enter Tryz.func47, Tryz.ntmps47
    go_wp2_with (go_at_call 78; refine hi.mono ?_; rintro e w' ⟨rfl, rfl⟩)
    go_ret
    exact ⟨by simp [h0], rfl⟩
theorem info_in : (Tryz.prog.info? 3).map (fun i => (i.zero, i.size, i.bytes)) = some (some (.int .i64 0), 1, 8) := by kernel_rfl
set_option maxRecDepth 100000 in
set_option maxHeartbeats 2000000 in
theorem appendSeq_in (b : Nat) (l : List Int) (A : Option Addr) (c : Nat) (w : World) (hb : w.heap[b]? = some (.cells #[.slice A l.length c] 49 (0, 0))) (hA : Nums .i64 w A l) (hl : l.length ≤ 100000) :
    CallsIn Fence.wide 5 Tryz.prog 98 #[.slice none 0 0, .func (.func 87) #[] #[.pointer (some ⟨b, 0, none⟩)]] w fun e w' => ∃ A' c', e = .returned (.slice A' l.length c') ∧ w'.ownsRow w.heap.size 3 1 (.slice A' l.length c') l.length (l.map (Value.int .i64)) ∧ Below w.heap.size w w' := by
  obtain ⟨i0, hi, hz0, hz1, hz2⟩ := info_parts info_in
  refine callsIn_of_wp_marks Tryz.func98 rfl trivial ?_ rfl
  simp only [Tryz.ntmps98, List.size_toArray, List.length_cons, List.length_nil, Nat.reduceAdd, Nat.reduceSub, Array.replicate_succ, Array.replicate_zero, List.push_toArray, List.append_toArray, List.nil_append, List.cons_append]
  gi_wp2
  have bO := Boxed.new w 49 (.slice none 0 0)
  have hB0 : Below w.heap.size w (w.alloc (.cells #[.slice none 0 0] 49)) := (Below.refl _ w).alloc (Nat.le_refl _) _
  refine wpIn_rangeFunc_ownG rfl (by omega) (gf := 87) (lb := #[.pointer (some ⟨b, 0, none⟩)]) rfl trivial (enters_of Tryz.func87 (by kernel_rfl) rfl)
    (values_stops 4 (by omega) b l A c w hb hA hl) Kk.trans (fun W l o o' h => Kk.put (n := w.heap.size) (fun k hk => hk) W l o o' (by simp at h; omega)) hB0 (fun _ => rfl)
    (fun (pre : List Int) W => (∃ v, Boxed W w.heap.size 49 v ∧ W.ownsRow w.heap.size 3 1 v pre.length (pre.map (Value.int .i64)) ∧ True) ∧ Below w.heap.size w W)
    (fun _ _ _ => False)
    (OwnFrom.and (Own.from (holdsRow_own w.heap.size w.heap.size 49 3 1 (fun pre : List Int => pre.length) (fun pre : List Int => pre.map (Value.int .i64)) (fun _ _ => True)) _) (ownFrom_below (Nat.le_refl _) (by simp)))
    (fun _ _ _ _ _ hs _ _ => hs)
    ⟨⟨_, bO, World.ownsRow_nil _ _ _ _, trivial⟩, hB0⟩
    (fun x => { tmps := #[.slice none 0 0, .func (.func 87) #[] #[.pointer (some ⟨b, 0, none⟩)], .pointer (some ⟨w.heap.size, 0, none⟩), undef, .slice none 0 0, .int .i64 x, .func (.func 87) #[] #[.pointer (some ⟨b, 0, none⟩)], .int .i64 x, undef, undef, undef, undef, undef], defers := [] }) ?assign ?body ?done ?stop
  case assign =>
    intro l x W K hK
    gi_wp2
    exact hK
  case body =>
    rintro l0 pre x W ⟨⟨v, hv, hrow, _⟩, hB⟩ hlt
    have hc := hv.cell
    gi_wp2_with (gi_at_builtin; refine wpListIn_append_own _ rfl _ _ 49 rfl w.heap.size 3 i0 (.int .i64 0) 1 8 Tryz.underlying49 hi hz0 hz1 hz2 rfl (by decide) _ _ _ rfl (hrow.alloc _) ⟨W.heap.size, 0, none⟩ 1 1 [.int .i64 x] rfl rfl (cell_one_new _ _ _) (by simp [Value.oneCell']) (by unfold maxLen; omega) (by omega) (by have := hB.size; simp; omega) ?_; intro v' w1 hown' hgrow _; obtain ⟨g', cap', rfl⟩ := ownsRow_succ hown'; obtain ⟨hv1, hv2, hr2, hk2, hb2⟩ := hv.appended (by decide) hrow hB.size (Nat.le_refl _) hown' hgrow; have hc1 := hv1.cell; have hf1 := hv1.frozen)
    exact ⟨hk2.from _, Kk.of_below (fun k hk => hk) hb2, ⟨_, hv2, by simpa using hr2, trivial⟩, hB.trans hb2⟩
  case done =>
    rintro D ys W hD rfl ⟨⟨v, hv, hrow, _⟩, hB⟩ hK
    have hc := hv.cell
    gi_wp2
    refine ⟨by simp, .inl ⟨_, _, rfl, run_takeDeferred hK, ?_⟩⟩
    obtain ⟨A', c', rfl⟩ := own_form hrow
    exact ⟨_, results_tmp rfl _ _ _, A', c', rfl, ownsRow_putObj hrow _ hK rfl, hB.trans (belowK_b (w := w) (Nat.le_refl _) W D _ _ (by simp at hD; omega) hK rfl rfl)⟩
  case stop =>
    rintro D c pre W _ _ h _
    exact h.elim
theorem collect_any (b : Nat) (l : List Int) (A : Option Addr) (c : Nat) (w : World) (hb : w.heap[b]? = some (.cells #[.slice A l.length c] 49 (0, 0))) (hA : Nums .i64 w A l) (hl : l.length ≤ 100000) :
    Calls Tryz.prog 79 #[.func (.func 87) #[] #[.pointer (some ⟨b, 0, none⟩)]] w fun e w' => ∃ A' c', e = .returned (.slice A' l.length c') ∧ w'.ownsRow w.heap.size 3 1 (.slice A' l.length c') l.length (l.map (Value.int .i64)) ∧ Below w.heap.size w w' := by
  have hs := (callsIn_wide (n := 5)).1 (appendSeq_in b l A c w hb hA hl)
  go_enter Tryz.func79, Tryz.ntmps79
  go_wp2_with (go_at_call 98; refine hs.mono ?_; rintro e w' ⟨A', c', rfl, hrow, hbb⟩; have HR := Lib.hid hrow; have HB := Lib.hid hbb; clear hrow hbb)
  go_ret
  exact ⟨A', c', rfl, HR.out, HB.out⟩
set_option maxRecDepth 100000 in
theorem sorted_any (b : Nat) (l : List Int) (A : Option Addr) (c : Nat) (w : World) (hb : w.heap[b]? = some (.cells #[.slice A l.length c] 49 (0, 0))) (hA : Nums .i64 w A l) (hl : l.length ≤ 100000) :
    Calls Tryz.prog 50 #[.func (.func 87) #[] #[.pointer (some ⟨b, 0, none⟩)]] w fun e w' => ∃ A' c', e = .returned (.slice A' l.length c') ∧ w'.ownsRow w.heap.size 3 1 (.slice A' l.length c') l.length ((sortI l).map (Value.int .i64)) ∧ Below w.heap.size w w' := by
  have hs := collect_any b l A c w hb hA hl
  have HW := Lib.hid (show w.heap.size ≤ w.heap.size from Nat.le_refl _)
  obtain ⟨n, hln⟩ : ∃ n, l.length = n := ⟨_, rfl⟩
  have HLN := Lib.hid hln
  have hl4 : l.length < 4611686018427387904 := by omega
  have HL4 := Lib.hid hl4
  rw [hln] at hs ⊢
  clear hb hA hl hln hl4
  have HSORT := Lib.hid (show ∀ (A' : Option Addr) (c' : Nat) (v : World), v.ownsRow w.heap.size 3 1 (.slice A' n c') n (l.map (Value.int .i64)) → Below w.heap.size w v →
      Calls Tryz.prog 80 #[.slice A' n c'] v fun e w' => e = .returned (.tuple #[]) ∧ w'.ownsRow w.heap.size 3 1 (.slice A' n c') n ((sortI l).map (Value.int .i64)) ∧ Below w.heap.size w w' from by
    intro A' c' v hrow hbv
    rcases hrow.2 with ⟨e1, e2⟩ | ⟨gb, cap, cur, e1, hbase, hgb, r1, r2, r3, r4⟩
    · injection e1 with e1 e3 e4
      subst e1 e2 e4
      have hnil : l = [] := List.eq_nil_of_length_eq_zero HLN.out
      have cS := AnyM.slices_Sort_int_none Tryz.sortL none 0 v
      change Calls Tryz.prog 80 _ _ _ at cS
      refine cS.mono ?_
      rintro e w' ⟨rfl, rfl⟩
      exact ⟨rfl, by rw [hnil, show sortI [] = [] by unfold sortI; simp]; exact World.ownsRow_nil _ _ _ _, hbv⟩
    · injection e1 with e1 e3 e4
      subst e1 e4
      have r4' : cur.toList.take l.length = l.map encZ := by rw [HLN.out]; simpa using r4
      have hH : Go.Sort.Holds encZ v gb 0 l.toArray := holds_of_block_i hgb r4'
      have hgl := lt_of_block hgb
      have cS := AnyM.slices_Sort_int Tryz.sortL gb 0 c' l v hH hgl HL4.out
      change Calls Tryz.prog 80 _ _ _ at cS
      rw [HLN.out] at cS
      refine cS.mono ?_
      rintro e w' ⟨rfl, k, os, rfl⟩
      refine ⟨rfl, ?_, hbv.grown (grownBy_sorted_i _) hbv.size (fun j hj => by cases hj; exact hbase)⟩
      have := ownsRow_sorted_i (w := v) (os := os) (n := k) (ts := sortI l) (ss := l) (by unfold sortI; simp) hbase hgb (by rw [HLN.out]; exact r1) r2 r3
      rw [HLN.out] at this
      exact this)
  go_enter Tryz.func50, Tryz.ntmps50
  go_wp2_with (first
    | (go_at_call 79; refine hs.mono ?_; clear hs; rintro e w1 ⟨A', c', rfl, hrow, hbb⟩; have hso := HSORT.out A' c' w1 hrow hbb; clear hrow hbb)
    | (go_at_call 80; refine hso.mono ?_; clear hso; rintro e w2 ⟨rfl, hrow, hbb⟩; have HR := Lib.hid hrow; have HB := Lib.hid hbb; clear hrow hbb))
  go_ret
  exact ⟨A', c', rfl, HR.out, HB.out⟩
end Pt
end Go.Proofs.YtbichomjpmmjmaaGreatDoor
