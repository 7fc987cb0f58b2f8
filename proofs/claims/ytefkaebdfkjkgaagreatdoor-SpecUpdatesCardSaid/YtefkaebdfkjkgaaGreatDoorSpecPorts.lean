/-
  The contract of spec.Ports: the ports of the main containers, in a row of the call's own. All that was there is left as it was. Condition: there are not too many.
-/
import Derived.Test.YtefkaebdfkjkgaaGreatDoorSpecEqual
import Derived.Test.YtefkaebdfkjkgaaGreatDoorBookLight
import Derived.Test.YtefkaebdfkjkgaaGreatDoorAppendAny
import Derived.Test.YtefkaebdfkjkgaaGreatDoorSpecList
namespace Go.Proofs.YtefkaebdfkjkgaaGreatDoor
open Go.ChangeShapes Go.WideShapes Go.ChangeAt Go.RowKit Go.Lib
open Sd Lists Book
namespace SpecOwn

theorem run_append_none {P : Program} {w : World} (base : Nat) (t ty e : TypeId) (i : TypeInfo) (size : Nat) (ht : P.underlying t = some (.slice e)) (hi : P.info? e = some i)
    (v : Value) (n c : Nat) (xs : List Value) (hown : w.ownsRow base e size v n xs) : (Builtin.append_ #[t, t] ty #[v, .slice none 0 c]).run P w = .ok v w := by
  rcases hown.2 with ⟨rfl, rfl⟩ | ⟨g, cap, cur, rfl, _, _, hnc, _⟩
  · simp [Builtin.append_, run_underlying ht, sizeOf, typeInfo, hi, Builtin.lenOf, Builtin.firstCells]
  · simp [Builtin.append_, run_underlying ht, sizeOf, typeInfo, hi, Builtin.lenOf, Builtin.firstCells, hnc, storeCells]
theorem wpList_append_or {P : Program} {w : World} {ops : Array Oper} {rest : List Oper} {o : Oper} {a : Act} {Q : Exit → Act → World → Prop} (hgd : o.guard = none) (s x : Operand) (t : TypeId)
    (ho : o.op = .call { callee := .builtin .append, args := #[s, x], argTypes := #[t, t] })
    (base : Nat) (e : TypeId) (i : TypeInfo) (z : Value) (size bytes : Nat) (ht : P.underlying t = some (.slice e)) (hi : P.info? e = some i) (hz : i.zero = some z)
    (hsize : i.size = size) (hby : i.bytes = bytes) (hzs : z.cells.size = size) (hsz : 0 < size)
    (v : Value) (n : Nat) (xs : List Value) (hs : a.eval s = v) (hown : w.ownsRow base e size v n xs)
    (A : Option Addr) (m c : Nat) (news : List Value) (hx : a.eval x = .slice A m c) (hl : news.length = m * size)
    (hsrc : (A = none ∧ m = 0) ∨ ∃ ad, A = some ad ∧ ∀ j u, news[j]? = some u → w.cell? (ad.add j) = some u) (h1 : ∀ u ∈ news, u.oneCell' = true)
    (h63 : n + m ≤ maxLen) (hbytes : (n + m) * bytes ≤ 140737488355328) (hbase : base ≤ w.heap.size)
    (h : ∀ v' w', w'.ownsRow base e size v' (n + m) (xs ++ news) → w.grownBy w' v.ownBlock → wpList P ops Q rest (a.put o.dst v') w') : wpList P ops Q (o :: rest) a w := by
  rcases hsrc with ⟨rfl, rfl⟩ | ⟨ad, rfl, hc⟩
  · refine wpList_plain hgd fun K hK => ?_
    have hrun := run_append_none (P := P) (w := w) base t o.type e i size ht hi v n c xs hown
    unfold Oper.wp
    simp [execOp, ho, resolve, invoke, builtin, hs, hx, hrun, Result.andThen]
    have hn : news = [] := List.eq_nil_of_length_eq_zero (by simpa using hl)
    exact hK _ _ (h v w (by rw [hn]; simpa using hown) ⟨rfl, rfl, rfl, Nat.le_refl _, fun _ _ _ => rfl⟩)
  · exact wpList_plain hgd fun K hK => wp_append_own w s x t ho base e i z size bytes ht hi hz hsize hby hzs hsz v n xs hs hown ad m c news hx hl hc h1 h63 hbytes hbase fun v' w' h2 h3 _ => hK _ _ (h v' w' h2 h3)

/-- a call ends with a row of its own that holds the numbers -/
def OwnNums (l : List Int) (w : World) (e : Ending) (w' : World) : Prop := ∃ v, e = .returned v ∧ w'.ownsRow w.heap.size 3 1 v l.length (l.map (Value.int .i64)) ∧ Below w.heap.size w w'

set_option maxRecDepth 100000 in
set_option maxHeartbeats 4000000 in
theorem ports_any (S : Spc) (LA : Option Addr) (lc : Nat) (IA : Option Addr) (ic : Nat) (MA : Option Addr) (mc : Nat) (hLt : lightCs S.main) (hml : S.main.length ≤ 1000) (w : World) (hS : S.In w LA lc IA ic MA mc) :
    Calls Tryz.prog 16 #[.agg #[.string S.name, .slice LA S.labels.length lc, .slice IA S.init.length ic, .slice MA S.main.length mc, .int .i64 S.restart, .int .i64 S.grace, .int .i64 S.prio]] w (OwnNums (S.main.flatMap (·.ports)) w) := by
  have HS := Lib.hid hS
  have HLT := Lib.hid hLt
  have hml' : (S.main.length : Int) ≤ 1000 := by omega
  obtain ⟨i0, hi, hz0, hz1, hz2⟩ := info_parts info_int
  clear hS hLt
  go_enter Tryz.func16, Tryz.ntmps16
  go_wp2_with fail
  obtain ⟨w3, hw3⟩ : ∃ w3, w.alloc (.cells #[.string S.name, .slice LA S.labels.length lc, .slice IA S.init.length ic, .slice MA S.main.length mc, .int .i64 S.restart, .int .i64 S.grace, .int .i64 S.prio] 25) = w3 := ⟨_, rfl⟩
  have HB3 := Lib.hid (show Below w.heap.size w w3 by rw [← hw3]; exact (Below.refl _ _).alloc (Nat.le_refl _) _)
  rw [hw3]
  clear hw3
  go_loopw [3, 9] (fun v i wr => ∃ k : Nat, k ≤ S.main.length ∧ i = .int .i64 k ∧ Hid (Below w.heap.size w wr) ∧ Hid (wr.ownsRow w.heap.size 3 1 v ((S.main.take k).flatMap (·.ports)).length (((S.main.take k).flatMap (·.ports)).map (Value.int .i64)))) (fun _ i _ => S.main.length - (RowKit.intOf i).toNat)
  case atStart => exact ⟨0, Nat.zero_le _, rfl, HB3.out, World.ownsRow_nil _ _ _ _⟩
  case round =>
    obtain ⟨k, hk, rfl, HW, HO⟩ := hrel
    by_cases hlt : k < S.main.length
    · have hka : (k : Int) < (S.main.length : Int) := by omega
      obtain ⟨fa, p, P, pc, hMA, hp, hc, nP⟩ := (HS.out.below HW.out).main.at hlt
      have hlx := HLT.out _ (List.getElem_mem hlt)
      have HTK := Lib.hid (show (S.main.take (k + 1)).flatMap (·.ports) = (S.main.take k).flatMap (·.ports) ++ S.main[k].ports by
        rw [List.take_succ_eq_append_getElem hlt, List.flatMap_append]; simp)
      have hlen : ((S.main.take k).flatMap (·.ports)).length ≤ 10000 := by
        have := flat_len (S.main.take k) (fun x hx => (HLT.out x (List.mem_of_mem_take hx)).2.2)
        rw [List.length_take] at this
        omega
      obtain ⟨x, hx⟩ : ∃ x, S.main[k] = x := ⟨_, rfl⟩
      rw [hx] at hc nP fa hlx HTK
      obtain ⟨l, hl⟩ : ∃ l, (S.main.take k).flatMap (·.ports) = l := ⟨_, rfl⟩
      rw [hl] at HO HTK hlen
      obtain ⟨A', c', rfl⟩ := own_form HO.out
      subst hMA
      obtain ⟨c0, c1, c2, c3, c4, c5, c6, c7, c8, c9, c10, _⟩ := hc
      have NP := Lib.hid nP
      have hx3 := hlx.2.2
      clear hx hl hp fa nP hlx
      have hal := fun o => (Below.refl wr.heap.size wr).alloc (Nat.le_refl _) o
      have HAL := Lib.hid hal
      have hsrc : ∀ o, (P = none ∧ x.ports.length = 0) ∨ ∃ ad, P = some ad ∧ ∀ (j : Nat) u, (x.ports.map (Value.int .i64))[j]? = some u → (wr.alloc o).cell? (ad.add j) = some u := by
        intro o
        cases P with
        | none =>
          refine .inl ⟨rfl, ?_⟩
          cases hq : x.ports with
          | nil => rfl
          | cons z zs =>
            obtain ⟨_, a, ha, _⟩ := NP.out 0 z (by rw [hq]; rfl)
            cases ha
        | some ad =>
          refine .inr ⟨ad, rfl, fun j u hu => ?_⟩
          rw [List.getElem?_map] at hu
          obtain ⟨z, hz, rfl⟩ := Option.map_eq_some_iff.1 hu
          obtain ⟨_, a, ha, hla, hca⟩ := NP.out j z hz
          injection ha with ha
          subst ha
          exact ((HAL.out o).cell (by rw [add_block]; exact hla)).trans hca
      clear hal
      go_wp2_with (at_builtin; refine wpList_append_or rfl _ _ 31 rfl w.heap.size 3 i0 (.int .i64 0) 1 8 Tryz.underlying31 hi hz0 hz1 hz2 rfl (by decide) _ _ _ rfl (HO.out.alloc _) P x.ports.length pc (x.ports.map (Value.int .i64)) rfl (by simp) (hsrc _) (by intro u hu; obtain ⟨y, _, rfl⟩ := List.mem_map.1 hu; rfl) (by unfold maxLen; omega) (by omega) (by have := HW.out.size; simp; omega) ?_)
      intro v' w7 hown' hgrow
      have HW7 := Lib.hid ((HW.out.trans ((HAL.out _).mono HW.out.size)).grown hgrow (by have := HW.out.size; simp; omega) (fun b hb => (HO.out.lt b hb).1))
      have HO7 := Lib.hid (show w7.ownsRow w.heap.size 3 1 v' ((S.main.take (k + 1)).flatMap (·.ports)).length (((S.main.take (k + 1)).flatMap (·.ports)).map (Value.int .i64)) by
        rw [HTK.out, List.length_append, List.map_append]; exact hown')
      clear hown' hgrow hsrc c0 c1 c2 c3 c4 c5 c6 c7 c8 c9 c10
      go_wp2
      go_roundw
      case rel => exact ⟨k + 1, by omega, by go_num, HW7.out, HO7.out⟩
      case measure => simp [RowKit.intOf]; omega
    · have hkk : k = S.main.length := by omega
      subst hkk
      go_wp2
      go_ret
      have ho := HO.out
      rw [List.take_length] at ho
      exact ⟨_, rfl, ho, HW.out⟩
end SpecOwn
end Go.Proofs.YtefkaebdfkjkgaaGreatDoor
