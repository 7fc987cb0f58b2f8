/-
  The contract of num.Take: it returns the number whose bytes a text begins with, and how many they are (0 and 0 of others), and leaves the world alone. Condition: the text is no longer than a Go string may be.
-/
import Derived.Test.YtmeilidjomjocaaGreatDoorChecked
import Derived.Test.YtmeilidjomjocaaGreatDoorLebTake
import Derived.WalkKit
import Derived.ProofKit
import Derived.Lib.Hide
namespace Go.Proofs.YtmeilidjomjocaaGreatDoor
open Go.ChangeShapes Go.WideShapes Go.ChangeAt Go.RowKit
open LebMath
namespace NumTake

theorem getD_byte (s : ByteArray) (k : Nat) (h : k < s.size) : s.data.toList.getD k 0 = s[k] := by
  rw [List.getD_eq_getElem?_getD, List.getElem?_eq_getElem (by simpa using h)]; rfl

theorem ret_take {l : List UInt8} {n m : Int} (h1 : n = (takeV l).1) (h2 : m = (takeV l).2) :
    Ending.returned (.tuple #[.int .u64 n, .int .i64 m]) = .returned (.tuple #[.int .u64 (takeV l).1, .int .i64 (takeV l).2]) := by rw [h1, h2]

theorem ret_nought {l : List UInt8} (h : takeV l = (0, 0)) :
    Ending.returned (.tuple #[.int .u64 0, .int .i64 0]) = .returned (.tuple #[.int .u64 (takeV l).1, .int .i64 (takeV l).2]) := by rw [h]; rfl

theorem step_val (s : ByteArray) (k : Nat) (hk : k < s.size) (h10 : k < 10) (hb : k = 9 → s[k].toNat ≤ 1) :
    IntKind.u64.wrap (↑(lebVal (List.take k s.data.toList)) + IntKind.u64.wrap ((s[k].toNat : Int) % 128 * 2 ^ (7 * k))) = ↑(lebVal (List.take (k + 1) s.data.toList)) := by
  have hl : k < s.data.toList.length := by rw [Array.length_toList]; exact hk
  have hd := getD_byte s k hk
  have h1 := lebVal_take_succ hl
  have h2 := lebVal_fits hl h10 (fun h => by rw [hd]; exact hb h)
  rw [hd] at h1
  have e : ((s[k].toNat : Int) % 128 * 2 ^ (7 * k)) = ((128 ^ k * (s[k].toNat % 128) : Nat) : Int) := by
    have : (128 : Nat) ^ k = 2 ^ (7 * k) := by rw [Nat.pow_mul]
    rw [this, Nat.mul_comm (2 ^ (7 * k))]
    push_cast
    rfl
  rw [e]
  generalize 128 ^ k * (s[k].toNat % 128) = x at *
  rw [IntWalk.u64_in (x : Int) (by omega), IntWalk.u64_in _ (by omega), h1]
  push_cast
  rfl

theorem step_val_nought (s : ByteArray) (k : Nat) (hk : k < s.size) (h10 : k < 10) (hz : s[k].toNat = 0) :
    IntKind.u64.wrap (↑(lebVal (List.take k s.data.toList)) + IntKind.u64.wrap 0) = ↑(lebVal (List.take (k + 1) s.data.toList)) := by
  have h := step_val s k hk h10 (fun _ => by omega)
  rw [hz] at h
  simpa using h

set_option maxRecDepth 20000 in
set_option maxHeartbeats 2000000 in
theorem take_lim (s : ByteArray) (w : World) (hs : s.size ≤ maxLen) : Calls Tryz.prog 122 #[.string s] w fun e w' => e = .returned (.tuple #[.int .u64 (takeV s.data.toList).1, .int .i64 (takeV s.data.toList).2]) ∧ w = w' := by
  unfold maxLen at hs
  have hlen : s.data.toList.length = s.size := by rw [Array.length_toList]; rfl
  have HL := Lib.hid hlen
  clear hlen
  have hlim : ∃ lim : Nat, lim ≤ s.size ∧ lim ≤ 10 ∧ ((s.size ≤ 10 ∧ lim = s.size) ∨ (10 < s.size ∧ lim = 10)) := by
    by_cases h : s.size ≤ 10
    · exact ⟨s.size, by omega, by omega, .inl ⟨h, rfl⟩⟩
    · exact ⟨10, by omega, by omega, .inr ⟨by omega, rfl⟩⟩
  obtain ⟨lim, hl1, hl2, hlor⟩ := hlim
  have HO := Lib.hid hlor
  rcases hlor with ⟨hten, hq⟩ | ⟨hten, hq⟩
  all_goals
    have HQ := Lib.hid hq
    clear hq
    go_enter Tryz.func122, Tryz.ntmps122
    go_wp2
    go_loop [2, 9] (fun n i => ∃ k : Nat, k ≤ lim ∧ i = .int .i64 k ∧ Hid (∀ j, j < k → 128 ≤ (s.data.toList.getD j 0).toNat) ∧ n = .int .u64 (lebVal (s.data.toList.take k) : Nat)) (fun _ i => lim - (intOf i).toNat)
    case atStart => exact ⟨0, Nat.zero_le _, rfl, (fun j h => by omega), rfl⟩
    case round =>
      obtain ⟨k, hk, rfl, HA, rfl⟩ := hrel
      by_cases hlt : k < lim
      · have hlt1 : k < s.size := by omega
        have hlt2 : k < 10 := by omega
        have HD := Lib.hid (getD_byte s k hlt1)
        have hb : (s[k].toNat : Int) < 256 := by have := s[k].toNat_lt; omega
        have HL' : Hid (k < s.data.toList.length) := by show _ < _; rw [HL.out]; omega
        by_cases hbad : k = 9 ∧ 1 < (s[k].toNat : Int)
        · obtain ⟨h9, hb1⟩ := hbad
          have e9 : ((k : Int) == 9) = true := beq_iff_eq.2 (by omega)
          have HT : Hid (takeV s.data.toList = (0, 0)) := by
            subst h9
            exact takeV_tenth HL'.out HA.out (by rw [HD.out]; omega)
          clear h9
          go_wp2
          go_ret2
          exact ⟨ret_nought HT.out, rfl⟩
        · have hk9 : k = 9 → s[k].toNat ≤ 1 := fun h => by omega
          have HV := Lib.hid (step_val s k hlt1 hlt2 hk9)
          by_cases hbig : 128 ≤ (s[k].toNat : Int)
          · have e9 : ((k : Int) == 9) = false := beq_eq_false_iff_ne.2 (by omega)
            clear hbad hk9
            go_wp2
            go_round
            case rel =>
              refine ⟨k + 1, by omega, by go_num, ?_, congrArg (Value.int .u64) HV.out⟩
              intro j hj
              by_cases hjk : j = k
              · subst hjk; rw [HD.out]; omega
              · exact HA.out j (by omega)
            case measure => simp [intOf]; omega
          · have HT := Lib.hid (takeV_at HL'.out HA.out (by rw [HD.out]; omega))
            have HF := Lib.hid (lebVal_fits HL'.out hlt2 (fun h => by rw [HD.out]; exact hk9 h))
            by_cases hz : s[k].toNat = 0 ∧ 0 < k
            · have e9 : ((k : Int) == 9) = true ∨ ((k : Int) == 9) = false := by cases ((k : Int) == 9) <;> simp
              have e0 : ((s[k].toNat : Int) == 0) = true := beq_iff_eq.2 (by omega)
              have hb1 : (s[k].toNat : Int) ≤ 1 := by omega
              have hk0 := hz.2
              have HZ := Lib.hid hz
              clear hbad hk9 hz
              rcases e9 with e9 | e9
              all_goals
                go_wp2
                all_goals first
                  | (exfalso; have hzz := HZ.out; omega)
                  | (go_ret2
                     refine ⟨ret_nought ?_, rfl⟩
                     rw [HT.out, if_neg]
                     rintro ⟨h1, h2⟩
                     rw [HD.out] at h1
                     have := HZ.out
                     omega)
            · have HZ : Hid (takeV s.data.toList = (lebVal (List.take (k + 1) s.data.toList), k + 1)) := by
                show _ = _
                rw [HT.out, if_pos]
                refine ⟨?_, HF.out⟩
                rw [HD.out]
                omega
              have e9 : (((k : Int) == 9) = true ∧ (s[k].toNat : Int) ≤ 1) ∨ ((k : Int) == 9) = false := by
                by_cases h : k = 9
                · exact .inl ⟨beq_iff_eq.2 (by omega), by omega⟩
                · exact .inr (beq_eq_false_iff_ne.2 (by omega))
              have e0 : ((s[k].toNat : Int) == 0) = false ∨ (((s[k].toNat : Int) == 0) = true ∧ k = 0) := by
                by_cases h : s[k].toNat = 0
                · exact .inr ⟨beq_iff_eq.2 (by omega), by omega⟩
                · exact .inl (beq_eq_false_iff_ne.2 (by omega))
              have HN := Lib.hid hz
              clear hbad hk9 hz
              rcases e9 with ⟨e9, hb1⟩ | e9 <;> rcases e0 with e0 | ⟨e0, hk0⟩
              all_goals
                try (have hk0' : ¬ (0 : Int) < (k : Int) := by omega)
                try clear hk0
                go_wp2
                all_goals first
                  | (exfalso; have hzz := HN.out; have hzy := beq_eq_false_iff_ne.1 e0; omega)
                  | (exfalso; have hzz := HN.out; omega)
                  | (go_ret2
                     refine ⟨ret_take ?_ ?_, rfl⟩
                     · rw [HZ.out]; first | exact HV.out | exact step_val_nought s k hlt1 hlt2 (by assumption)
                     · rw [HZ.out]; push_cast; rfl)
      · have hkl : k = lim := by omega
        have HT : Hid (takeV s.data.toList = (0, 0)) := by
          subst hkl
          rcases HO.out with ⟨_, h⟩ | ⟨_, h⟩
          · exact takeV_all (fun j hj => HA.out j (by rw [HL.out] at hj; omega))
          · exact takeV_ten (fun j hj => HA.out j (by omega))
        first
          | have hn : s.size ≤ k := by have := HQ.out; omega
          | have hn : 10 ≤ k := by have := HQ.out; omega
        clear hkl
        go_wp2
        go_ret2
        exact ⟨ret_nought HT.out, rfl⟩
end NumTake
end Go.Proofs.YtmeilidjomjocaaGreatDoor
