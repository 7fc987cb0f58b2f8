/-
  The contract of the document's Ports: the ports of the main containers, in a row of the call's own. All that was there is left as it was. Condition: there are not too many.
-/
import Derived.Test.YtefkaebdfkjkgaaGreatDoorSpecPorts
namespace Go.Proofs.YtefkaebdfkjkgaaGreatDoor
open Go.ChangeShapes Go.WideShapes Go.ChangeAt Go.RowKit Go.Lib
open Sd Lists Book
namespace SpecOwn

theorem row_less {w : World} {B B' : Nat} {e : TypeId} {size : Nat} {v : Value} {n : Nat} {xs : List Value} (hB : B' ≤ B) (h : w.ownsRow B e size v n xs) : w.ownsRow B' e size v n xs := by
  rcases h.2 with h1 | ⟨g, cap, cur, e1, e2, e3⟩
  · exact ⟨h.1, .inl h1⟩
  · exact ⟨h.1, .inr ⟨g, cap, cur, e1, Nat.le_trans hB e2, e3⟩⟩

set_option maxRecDepth 100000 in
set_option maxHeartbeats 4000000 in
theorem refports_any (S : Spc) (LA : Option Addr) (lc : Nat) (IA : Option Addr) (ic : Nat) (MA : Option Addr) (mc : Nat) (hLt : lightCs S.main) (hml : S.main.length ≤ 1000) (w : World) (hS : S.In w LA lc IA ic MA mc) :
    Calls Tryz.prog 17 #[.agg #[.string S.name, .slice LA S.labels.length lc, .slice IA S.init.length ic, .slice MA S.main.length mc, .int .i64 S.restart, .int .i64 S.grace, .int .i64 S.prio]] w (OwnNums (S.main.flatMap (·.ports)) w) := by
  have HS := Lib.hid hS
  have HLT := Lib.hid hLt
  have hml' : (S.main.length : Int) ≤ 1000 := by omega
  obtain ⟨i0, hi, hz0, hz1, hz2⟩ := info_parts info_int
  clear hS hLt
  go_enter Tryz.func17, Tryz.ntmps17
  go_wp2_with fail
  obtain ⟨w3, hw3⟩ : ∃ w3, w.alloc (.cells #[.string S.name, .slice LA S.labels.length lc, .slice IA S.init.length ic, .slice MA S.main.length mc, .int .i64 S.restart, .int .i64 S.grace, .int .i64 S.prio] 25) = w3 := ⟨_, rfl⟩
  have HB3 := Lib.hid (show Below w.heap.size w w3 by rw [← hw3]; exact (Below.refl _ _).alloc (Nat.le_refl _) _)
  have HX3 := Lib.hid (show w3.heap[w.heap.size]? = some (.cells #[.string S.name, .slice LA S.labels.length lc, .slice IA S.init.length ic, .slice MA S.main.length mc, .int .i64 S.restart, .int .i64 S.grace, .int .i64 S.prio] 25 (0, 0)) by rw [← hw3]; exact heap_alloc_new w _)
  rw [hw3]
  clear hw3
  go_loopw [3, 4] (fun v i wr => ∃ k : Nat, k ≤ S.main.length ∧ i = .int .i64 k ∧ Hid (Below w3.heap.size w3 wr) ∧ Hid (wr.ownsRow w3.heap.size 3 1 v ((S.main.take k).flatMap (·.ports)).length (((S.main.take k).flatMap (·.ports)).map (Value.int .i64)))) (fun _ i _ => S.main.length - (RowKit.intOf i).toNat)
  case atStart => exact ⟨0, Nat.zero_le _, rfl, Below.refl _ _, World.ownsRow_nil _ _ _ _⟩
  case round =>
    obtain ⟨k, hk, rfl, HW, HO⟩ := hrel
    have hbx := (HW.out.block w.heap.size (lt_of_block HX3.out)).trans HX3.out
    have b3 : wr.cell? ⟨w.heap.size, 3, none⟩ = some (.slice MA S.main.length mc) := by simp [World.cell?, hbx]
    have HWW := Lib.hid (HB3.out.trans (HW.out.mono HB3.out.size))
    clear hbx
    by_cases hlt : k < S.main.length
    · have hka : (k : Int) < (S.main.length : Int) := by omega
      obtain ⟨fa, p, P, pc, hMA, hp, hc, nP⟩ := (HS.out.below HWW.out).main.at hlt
      have hlx := HLT.out _ (List.getElem_mem hlt)
      have HTK := Lib.hid (show (S.main.take (k + 1)).flatMap (·.ports) = (S.main.take k).flatMap (·.ports) ++ S.main[k].ports by
        rw [List.take_succ_eq_append_getElem hlt, List.flatMap_append]; simp)
      have hlen : ((S.main.take k).flatMap (·.ports)).length ≤ 10000 := by
        have := flat_len (S.main.take k) (fun x hx => (HLT.out x (List.mem_of_mem_take hx)).2.2)
        rw [List.length_take] at this
        omega
      obtain ⟨x, hx⟩ : ∃ x, S.main[k] = x := ⟨_, rfl⟩
      rw [hx] at hc nP fa hlx HTK
      obtain ⟨l, hl⟩ : ∃ l, (S.main.take k).flatMap (·.ports) = l := ⟨_, rfl⟩
      rw [hl] at HO HTK hlen
      obtain ⟨A', c', rfl⟩ := own_form HO.out
      subst hMA
      obtain ⟨c0, c1, c2, c3, c4, c5, c6, c7, c8, c9, c10, _⟩ := hc
      have NP := Lib.hid nP
      have hx3 := hlx.2.2
      clear hx hl hp fa nP hlx
      have hsrc : (P = none ∧ x.ports.length = 0) ∨ ∃ ad, P = some ad ∧ ∀ (j : Nat) u, (x.ports.map (Value.int .i64))[j]? = some u → wr.cell? (ad.add j) = some u := by
        cases P with
        | none =>
          refine .inl ⟨rfl, ?_⟩
          cases hq : x.ports with
          | nil => rfl
          | cons z zs =>
            obtain ⟨_, a, ha, _⟩ := NP.out 0 z (by rw [hq]; rfl)
            cases ha
        | some ad =>
          refine .inr ⟨ad, rfl, fun j u hu => ?_⟩
          rw [List.getElem?_map] at hu
          obtain ⟨z, hz, rfl⟩ := Option.map_eq_some_iff.1 hu
          obtain ⟨_, a, ha, hla, hca⟩ := NP.out j z hz
          injection ha with ha
          subst ha
          exact hca
      go_wp2_with (at_builtin; refine wpList_append_or rfl _ _ 31 rfl w3.heap.size 3 i0 (.int .i64 0) 1 8 Tryz.underlying31 hi hz0 hz1 hz2 rfl (by decide) _ _ _ rfl HO.out P x.ports.length pc (x.ports.map (Value.int .i64)) rfl (by simp) hsrc (by intro u hu; obtain ⟨y, _, rfl⟩ := List.mem_map.1 hu; rfl) (by unfold maxLen; omega) (by omega) HW.out.size ?_)
      intro v' w7 hown' hgrow
      have HW7 := Lib.hid (HW.out.grown hgrow HW.out.size (fun b hb => (HO.out.lt b hb).1))
      have HO7 := Lib.hid (show w7.ownsRow w3.heap.size 3 1 v' ((S.main.take (k + 1)).flatMap (·.ports)).length (((S.main.take (k + 1)).flatMap (·.ports)).map (Value.int .i64)) by
        rw [HTK.out, List.length_append, List.map_append]; exact hown')
      clear hown' hgrow hsrc c0 c1 c2 c3 c4 c5 c6 c7 c8 c9 c10
      go_wp2
      go_roundw
      case rel => exact ⟨k + 1, by omega, by go_num, HW7.out, HO7.out⟩
      case measure => simp [RowKit.intOf]; omega
    · have hkk : k = S.main.length := by omega
      subst hkk
      go_wp2
      go_ret
      have ho := HO.out
      rw [List.take_length] at ho
      exact ⟨_, rfl, row_less HB3.out.size ho, HWW.out⟩
end SpecOwn
end Go.Proofs.YtefkaebdfkjkgaaGreatDoor
