/-
  The contract of the laws' own helper SameSpec: are two specs one? No condition.
-/
import Derived.Test.YtaegknpijgjioaaGreatDoorSpecDataAll
namespace Go.Proofs.YtaegknpijgjioaaGreatDoor
open Go.ChangeShapes Go.WideShapes Go.ChangeAt Go.RowKit Go.Lib
open Sd Lists
namespace Book

set_option maxRecDepth 100000 in
set_option maxHeartbeats 2000000 in
/-- SAMESPEC -/
theorem sameSpec_any (S : Spc) (LA : Option Addr) (lc : Nat) (IA : Option Addr) (ic : Nat) (MA : Option Addr) (mc : Nat) (T : Spc) (LB : Option Addr) (ld : Nat) (IB : Option Addr) (id : Nat) (MB : Option Addr) (md : Nat) (w : World) (hS : S.In w LA lc IA ic MA mc) (hT : T.In w LB ld IB id MB md) :
    Calls Tryz.prog 39 #[.agg #[.string S.name, .slice LA S.labels.length lc, .slice IA S.init.length ic, .slice MA S.main.length mc, .int .i64 S.restart, .int .i64 S.grace, .int .i64 S.prio], .agg #[.string T.name, .slice LB T.labels.length ld, .slice IB T.init.length id, .slice MB T.main.length md, .int .i64 T.restart, .int .i64 T.grace, .int .i64 T.prio]] w
      fun e w' => e = .returned (.bool (sameS S T)) ∧ Below w.heap.size w w' := by
  have HS := Lib.hid hS
  have HT := Lib.hid hT
  have hb0 : ∀ o o', Below w.heap.size w ((w.alloc o).alloc o') := fun o o' => ((Below.refl _ _).alloc (Nat.le_refl _) _).alloc (by simp) _
  have HB0 := Lib.hid hb0
  obtain ⟨b0, e0⟩ : ∃ b0 : Bool, (S.name.toList == T.name.toList) = b0 := ⟨_, rfl⟩
  obtain ⟨b1, e1⟩ : ∃ b1 : Bool, sameLs S.labels T.labels = b1 := ⟨_, rfl⟩
  obtain ⟨b2, e2⟩ : ∃ b2 : Bool, sameCs S.init T.init = b2 := ⟨_, rfl⟩
  obtain ⟨b3, e3⟩ : ∃ b3 : Bool, sameCs S.main T.main = b3 := ⟨_, rfl⟩
  obtain ⟨b4, e4⟩ : ∃ b4 : Bool, (S.restart == T.restart) = b4 := ⟨_, rfl⟩
  obtain ⟨b5, e5⟩ : ∃ b5 : Bool, (S.grace == T.grace) = b5 := ⟨_, rfl⟩
  obtain ⟨b6, e6⟩ : ∃ b6 : Bool, (S.prio == T.prio) = b6 := ⟨_, rfl⟩
  have HR := Lib.hid (show (b0 && b1 && b2 && b3 && b4 && b5 && b6) = sameS S T by rw [← e0, ← e1, ← e2, ← e3, ← e4, ← e5, ← e6]; rfl)
  have E1 := Lib.hid e1
  have E2 := Lib.hid e2
  have E3 := Lib.hid e3
  clear hS hT hb0 e1 e2 e3
  go_enter Tryz.func39, Tryz.ntmps39
  cases b0 with
  | false =>
    have HD := Lib.hid (show false = sameS S T from by have := HR.out; simpa using this)
    go_wp2
    go_ret
    exact ⟨ret_b HD.out, HB0.out _ _⟩
  | true =>
    go_wp2_with fail
    refine (sameLabels_any LA lc S.labels LB ld T.labels HS.out.nl HT.out.nl _ (HS.out.below (HB0.out _ _)).labels (HT.out.below (HB0.out _ _)).labels).mono ?_
    rintro e w5 ⟨rfl, hb5⟩
    have HB5 := Lib.hid ((HB0.out _ _).trans (hb5.mono (by simp; omega)))
    obtain ⟨hcell, hfroz⟩ := Kit.bcell hb5
    have hz5 : w.heap.size + 1 < w5.heap.size := by have := hb5.size; simp at this; omega
    have hy5 : w.heap.size < w5.heap.size := by omega
    rw [E1.out]
    clear hb5
    cases b1 with
    | false =>
      have HD := Lib.hid (show false = sameS S T from by have := HR.out; simpa using this)
      go_wp2
      go_ret
      exact ⟨ret_b HD.out, HB5.out⟩
    | true =>
      go_wp2_with fail
      refine (sameContainers_any IA ic S.init IB id T.init HS.out.ni HT.out.ni _ (HS.out.below (HB5.out)).init (HT.out.below (HB5.out)).init).mono ?_
      rintro e w6 ⟨rfl, hb6⟩
      have HB6 := Lib.hid (HB5.out.trans (hb6.mono HB5.out.size))
      obtain ⟨hcell6, hfroz6⟩ := Kit.bcell hb6
      have hz6 : w.heap.size + 1 < w6.heap.size := Nat.lt_of_lt_of_le hz5 hb6.size
      have hy6 : w.heap.size < w6.heap.size := by omega
      rw [E2.out]
      clear hb6
      cases b2 with
      | false =>
        have HD := Lib.hid (show false = sameS S T from by have := HR.out; simpa using this)
        go_wp2
        go_ret
        exact ⟨ret_b HD.out, HB6.out⟩
      | true =>
        go_wp2_with fail
        refine (sameContainers_any MA mc S.main MB md T.main HS.out.nm HT.out.nm _ (HS.out.below (HB6.out)).main (HT.out.below (HB6.out)).main).mono ?_
        rintro e w7 ⟨rfl, hb7⟩
        have HB7 := Lib.hid (HB6.out.trans (hb7.mono HB6.out.size))
        obtain ⟨hcell7, hfroz7⟩ := Kit.bcell hb7
        have hz7 : w.heap.size + 1 < w7.heap.size := Nat.lt_of_lt_of_le hz6 hb7.size
        have hy7 : w.heap.size < w7.heap.size := by omega
        rw [E3.out]
        clear hb7
        cases b3 with
        | false =>
          have HD := Lib.hid (show false = sameS S T from by have := HR.out; simpa using this)
          go_wp2
          go_ret
          exact ⟨ret_b HD.out, HB7.out⟩
        | true =>
          cases b4 with
          | false =>
            have HD := Lib.hid (show false = sameS S T from by have := HR.out; simpa using this)
            go_wp2
            go_ret
            exact ⟨ret_b HD.out, HB7.out⟩
          | true =>
            cases b5 with
            | false =>
              have HD := Lib.hid (show false = sameS S T from by have := HR.out; simpa using this)
              go_wp2
              go_ret
              exact ⟨ret_b HD.out, HB7.out⟩
            | true =>
              have HD := Lib.hid (show b6 = sameS S T from by have := HR.out; simpa using this)
              go_wp2
              go_ret
              exact ⟨ret_b HD.out, HB7.out⟩
end Book
end Go.Proofs.YtaegknpijgjioaaGreatDoor
