/-
 The contract of the document's answer to num.Take: it returns the number whose bytes a text begins with, and how many they are (0 and 0 of others), and leaves all that was there as it was. Condition: the text is no longer than a Go string may be.
-/
import Derived.Test.YtljbpelogjmciaaGreatDoorNumRefPut
import Derived.Test.YtljbpelogjmciaaGreatDoorLebAll
namespace Go.Proofs.YtljbpelogjmciaaGreatDoor
open Go.ChangeShapes Go.WideShapes Go.ChangeAt Go.RowKit
open LebMath NumTake
namespace NumRefTake
theorem takeV_by {l : List UInt8} {k : Nat} (hk : k < l.length) (h : ∀ j, j < k → 128 ≤ (l.getD j 0).toNat) (hb : (l.getD k 0).toNat < 128) :
 takeV l = if leb (lebVal (l.take (k + 1)) % 18446744073709551616) = l.take (k + 1) then (lebVal (l.take (k + 1)) % 18446744073709551616, k + 1) else (0, 0) := by
 have hl : lead l = k := lead_of h (fun _ => hb) (by omega)
 unfold takeV
 rw [hl]
 by_cases hc : isLeb (l.take (k + 1)) = true ∧ lebVal (l.take (k + 1)) < 18446744073709551616
 · rw [if_pos hc, Nat.mod_eq_of_lt hc.2, if_pos (leb_lebVal _ hc.1)]
 · rw [if_neg hc, if_neg]
   intro he
   apply hc
   have h1 := isLeb_leb (lebVal (l.take (k + 1)) % 18446744073709551616)
   have h2 := lebVal_leb (lebVal (l.take (k + 1)) % 18446744073709551616)
   rw [he] at h1 h2
   refine ⟨h1, ?_⟩
   omega
theorem drop_step {l : List UInt8} {k j : Nat} (hk : k < l.length) (hj : j ≤ k) :
 lebVal ((l.take (k + 1)).drop j) = (l.getD j 0).toNat % 128 + 128 * lebVal ((l.take (k + 1)).drop (j + 1)) := by
 have hlen : j < (l.take (k + 1)).length := by rw [List.length_take_of_le (by omega)]; omega
 rw [List.drop_eq_getElem_cons hlen]
 simp only [lebVal]
 rw [List.getElem_take, List.getD_eq_getElem?_getD, List.getElem?_eq_getElem (by omega)]
 rfl
def modU (n : Nat) : Nat := n % 18446744073709551616
theorem modU_lt (n : Nat) : modU n < 18446744073709551616 := Nat.mod_lt _ (by omega)
theorem step_wrap (x b y : Nat) (hy : y = b % 128 + 128 * x) :
 IntKind.u64.wrap (IntKind.u64.wrap ((modU x : Int) * 128) + (b : Int) % 128) = (modU y : Int) := by
 unfold modU
 rw [IntKind.wrap_u64, IntKind.wrap_u64]
 omega
theorem extract_list (s : ByteArray) (n : Nat) : (s.extract 0 n).toList = s.data.toList.take n := by
 rw [ByteArray.toList_eq]
 simp [List.extract_eq_take_drop]
set_option maxRecDepth 20000 in
set_option maxHeartbeats 2000000 in
theorem refTake_any (s : ByteArray) (w : World) (hs : s.size ≤ maxLen) :
 Calls Tryz.prog 127 #[.string s] w fun e w' => e = .returned (.tuple #[.int .u64 (takeV s.data.toList).1, .int .i64 (takeV s.data.toList).2]) ∧ Below w.heap.size w w' := by
 unfold maxLen at hs
 have hlen : s.data.toList.length = s.size := by rw [Array.length_toList]; rfl
 have HL := Lib.hid hlen
 clear hlen
 go_enter Tryz.func127, Tryz.ntmps127
 go_wp2_with fail
 go_loop [4] (fun i => ∃ k : Nat, k ≤ s.size ∧ k ≤ 10 ∧ i = .int .i64 k ∧ Hid (∀ j, j < k → 128 ≤ (s.data.toList.getD j 0).toNat)) (fun i => 10 - (intOf i).toNat)
 case atStart => exact ⟨0, Nat.zero_le _, by omega, rfl, (fun j h => by omega)⟩
 case round =>
  obtain ⟨k, hk, hk10, rfl, HA⟩ := hrel
  by_cases hlt : k < s.size
  · have HD := Lib.hid (getD_byte s k hlt)
    have hb : (s[k].toNat : Int) < 256 := by have := s[k].toNat_lt; omega
    have HL' : Hid (k < s.data.toList.length) := by show _ < _; rw [HL.out]; omega
    by_cases h10 : k < 10
    · by_cases hbig : 127 < (s[k].toNat : Int)
      · go_wp2_with fail
        go_round
        case rel =>
         refine ⟨k + 1, by omega, by omega, by go_num, ?_⟩
         intro j hj
         by_cases hjk : j = k
         · subst hjk; rw [HD.out]; omega
         · exact HA.out j (by omega)
        case measure => simp [intOf]; omega
      · go_wp2_with fail
        go_loop [5, 6] (fun n i => ∃ j : Nat, j ≤ k + 1 ∧ i = .int .i64 ((j : Int) - 1) ∧ n = .int .u64 (modU (lebVal ((s.data.toList.take (k + 1)).drop j)) : Nat)) (fun _ i => (intOf i + 1).toNat)
        case atStart => exact ⟨k + 1, Nat.le_refl _, by go_num, by rw [List.drop_eq_nil_of_le (List.length_take_le _ _)]; rfl⟩
        case round =>
         obtain ⟨j, hj, rfl, rfl⟩ := hrel
         by_cases hj0 : 1 ≤ j
         · have hjs : j - 1 < s.size := by omega
           have hbj : (s[j - 1].toNat : Int) < 256 := by have := s[j - 1].toNat_lt; omega
           have HV := Lib.hid (step_wrap (lebVal ((s.data.toList.take (k + 1)).drop j)) s[j - 1].toNat (lebVal ((s.data.toList.take (k + 1)).drop (j - 1)))
            (by rw [drop_step HL'.out (by omega), getD_byte s (j - 1) hjs, show j - 1 + 1 = j by omega]))
           go_wp2_with fail
           go_round
           case rel => exact ⟨j - 1, by omega, by go_num, congrArg (Value.int .u64) HV.out⟩
           case measure => simp [intOf]; omega
         · obtain rfl : j = 0 := by omega
           have HT := Lib.hid (takeV_by HL'.out HA.out (by rw [HD.out]; omega)); rw [List.drop_zero]
           have hV : modU (lebVal (s.data.toList.take (k + 1))) < 18446744073709551616 := modU_lt _
           generalize hVe : modU (lebVal (s.data.toList.take (k + 1))) = V at *
           have HVE := Lib.hid hVe
           clear hVe
           have hk1 : (k : Int) + 1 ≤ s.size := by omega
           have hk2 : (0 : Int) ≤ (k : Int) + 1 := by omega
           have hk3 : ((k : Int) + 1).toNat = k + 1 := by omega
           have hk4 : k + 1 ≤ s.size := by omega
           have e1 : IntKind.i64.wrap ((k : Int) + 1) = (k : Int) + 1 := IntWalk.i64_in _ (by omega)
           go_wp2_with fail
           go_region_with (go_at_call 70; refine (NumRefPut.refPut_any V _ hV).mono ?_; rintro e w1 ⟨rfl, hb1⟩)
           all_goals go_wp2_with fail
           · have hne : (!leb V == (s.extract 0 (k + 1)).toList) = true := by assumption
             go_ret2
             refine ⟨ret_nought ?_, (Below.refl _ _).drew.trans hb1⟩
             rw [HT.out, if_neg]
             intro hc
             rw [extract_list, ← hc, ← HVE.out] at hne
             unfold modU at hne
             simp at hne
           · have hne : (!leb V == (s.extract 0 (k + 1)).toList) = false := by assumption
             have hz : takeV s.data.toList = (V, k + 1) := by
              rw [extract_list] at hne
              have hc : leb V = s.data.toList.take (k + 1) := by simpa using hne
              rw [HT.out, if_pos]
              · rw [← HVE.out]; rfl
              · rw [← HVE.out] at hc; exact hc
             go_ret2
             exact ⟨ret_take (by rw [hz]) (by rw [hz]; push_cast; rfl), (Below.refl _ _).drew.trans hb1⟩
    · have HT := Lib.hid (takeV_ten (l := s.data.toList) (fun j hj => HA.out j (by omega)))
      go_wp2_with fail
      go_ret2
      exact ⟨ret_nought HT.out, Below.refl _ _⟩
  · have HT := Lib.hid (takeV_all (l := s.data.toList) (fun j hj => HA.out j (by rw [HL.out] at hj; omega)))
    go_wp2_with fail
    go_ret2
    exact ⟨ret_nought HT.out, Below.refl _ _⟩
end NumRefTake
end Go.Proofs.YtljbpelogjmciaaGreatDoor
