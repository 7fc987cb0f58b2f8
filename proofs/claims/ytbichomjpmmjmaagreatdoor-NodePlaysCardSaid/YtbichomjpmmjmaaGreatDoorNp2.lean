/-
  The contract of the document's text of a number: its decimal digits, with a - ahead if it is below 0; all that was there is left as it was. Condition: the argument is a 64-bit integer.
-/
import Derived.Test.YtbichomjpmmjmaaGreatDoorNp1
import Derived.Test.YtbichomjpmmjmaaGreatDoorNp0
import Derived.ShutString
import Derived.Lib.ItoaLen
import Derived.Laws.OwnMore
import Derived.StillTailTactics
import Derived.Laws.Concat
import Derived.Deep.QuietTactic
import Derived.BigQuiet
import Derived.IntWalk
namespace Go.Proofs.YtbichomjpmmjmaaGreatDoor
open Go.ChangeShapes Go.WideShapes Go.ChangeAt Go.RowKit
open NumMath TextMath OneByte Go.Lib
namespace NumRefText
/-- what stands ahead of the digits that were told: those of the rest, if there is one -/
def rest (m : Nat) : List UInt8 := if m = 0 then [] else decDigits m
theorem rest_step (m : Nat) (h : m ≠ 0) : rest m = rest (m / 10) ++ [UInt8.ofNat (48 + m % 10)] := by
  unfold rest
  rw [if_neg h]
  by_cases h1 : m < 10
  · rw [decDigits_one h1, if_pos (by omega)]
    rw [show m % 10 = m by omega]; rfl
  · rw [decDigits, dif_neg h1, if_neg (by omega)]
/-- what holds behind k rounds -/
def Inv (u : Nat) (k : Nat) (t : List UInt8) (m : Nat) : Prop :=
  (k = 0 ∧ t = [] ∧ m = u) ∨ (1 ≤ k ∧ k = t.length ∧ decDigits u = rest m ++ t)
theorem Inv.step {u k m : Nat} {t : List UInt8} (h : Inv u k t m) (hm : k = 0 ∨ m ≠ 0) (c : UInt8) (hc : c = UInt8.ofNat (48 + m % 10)) : Inv u (k + 1) ([c] ++ t) (m / 10) := by
  subst hc
  rcases h with ⟨rfl, rfl, rfl⟩ | ⟨h1, h2, h3⟩
  · refine .inr ⟨by omega, by simp, ?_⟩
    by_cases h0 : m = 0
    · subst h0
      rw [decDigits_one (by omega)]; rfl
    · have := rest_step m h0
      unfold rest at this
      rw [if_neg h0] at this
      unfold rest
      simpa using this
  · refine .inr ⟨by omega, by simp; omega, ?_⟩
    rw [h3, rest_step m (by omega)]
    simp
theorem Inv.done {u k : Nat} {t : List UInt8} (h : Inv u k t 0) (hk : 1 ≤ k) : t = decDigits u := by
  rcases h with ⟨rfl, _, _⟩ | ⟨_, _, h3⟩
  · omega
  · rw [h3]; rfl
theorem Inv.le {u k m : Nat} {t : List UInt8} (h : Inv u k t m) (hu : u ≤ 9223372036854775808) : t.length ≤ 20 ∧ k = t.length ∧ (1 ≤ k → m ≠ 0 → k < 20) := by
  have hl : (decDigits u).length ≤ 20 := by rw [decDigits_length]; exact nDigits_le20 u (by omega)
  rcases h with ⟨rfl, rfl, rfl⟩ | ⟨h1, h2, h3⟩
  · simp
  · rw [h3, List.length_append] at hl
    refine ⟨by omega, h2, fun _ hm => ?_⟩
    unfold rest at hl
    rw [if_neg hm, decDigits_length] at hl
    have := nDigits_pos m
    omega
set_option maxRecDepth 20000 in
set_option maxHeartbeats 2000000 in
theorem refText_any (n : Int) (w : World) (h0 : -9223372036854775808 ≤ n) (h1 : n ≤ 9223372036854775807) :
    Calls Tryz.prog 136 #[.int .i64 n] w fun e w' => e = .returned (.string ⟨(itoa n).toArray⟩) ∧ Below w.heap.size w w' := by
  have hn : n.natAbs ≤ 9223372036854775808 := by omega
  go_enter Tryz.func136, Tryz.ntmps136
  go_wp2_with fail
  refine (NumRefSize.size_any n _ (fits_yes h0 h1)).mono ?_
  rintro e w' ⟨rfl, rfl⟩
  go_wp2_with fail
  go_loopw [3, 4, 5] (fun s u i wr => ∃ (k : Nat) (t : List UInt8) (m : Nat), s = .string ⟨t.toArray⟩ ∧ u = .int .u64 (m : Nat) ∧ i = .int .i64 (k : Nat) ∧ Hid (Inv n.natAbs k t m) ∧ m ≤ 9223372036854775808 ∧ Hid (Below w.heap.size w wr)) (fun _ _ i _ => 21 - (RowKit.intOf i).toNat)
  case atStart => exact ⟨0, [], n.natAbs, rfl, rfl, rfl, .inl ⟨rfl, rfl, rfl⟩, hn, Below.refl _ _⟩
  case round =>
    obtain ⟨k, t, m, rfl, rfl, rfl, HI, hm, HB⟩ := hrel
    have hle := HI.out.le hn
    have hlen := hle.1
    have hkl : k ≤ 20 := by omega
    by_cases hgo : k = 0 ∨ m ≠ 0
    · obtain ⟨c, hc⟩ : ∃ c : UInt8, c = UInt8.ofNat (48 + m % 10) := ⟨_, rfl⟩
      have hone := run_one (48 + (m : Int) % 10) c (by rw [hc, toNat_digit (by omega)]; push_cast; rfl)
      have HS := Lib.hid (HI.out.step hgo c hc)
      have hgo' : (k = 0 ∧ ((k : Int) == 0) = true) ∨ (((k : Int) == 0) = false ∧ (0 : Int) < (m : Int) ∧ (k : Int) < 20) := by
        by_cases hk : k = 0
        · exact .inl ⟨hk, beq_iff_eq.2 (by omega)⟩
        · have := hle.2.2 (by omega) (by omega)
          exact .inr ⟨beq_eq_false_iff_ne.2 (by omega), by omega, by omega⟩
      clear hc hgo hle
      rcases hgo' with ⟨hk, e0⟩ | ⟨e0, e1, e2⟩
      all_goals
        try clear hk
        go_wp2_with fail
        go_roundw
        case rel => exact ⟨k + 1, [c] ++ t, m / 10, congrArg Value.string (ByteArray.mk_append_mk [c] t), by push_cast; rfl, by go_num, HS, by omega, HB.out.alloc HB.out.size _⟩
        case measure => simp [RowKit.intOf]; omega
    · obtain rfl : m = 0 := by omega
      have hk1 : 1 ≤ k := by omega
      have e0 : ((k : Int) == 0) = false := beq_eq_false_iff_ne.2 (by omega)
      have HD := Lib.hid (HI.out.done hk1)
      clear hgo hle
      by_cases hneg : n < 0
      · have HR : Hid (itoa n = [45] ++ t) := by show _ = _; rw [itoa_neg hneg, HD.out]; rfl
        go_wp2_with fail
        go_ret
        exact ⟨ret_cat HR.out, HB.out⟩
      · have HR : Hid (itoa n = t) := by
          show _ = _
          rw [itoa_pos (by omega), HD.out, show n.toNat = n.natAbs by omega]
        go_wp2_with fail
        go_ret
        exact ⟨by rw [HR.out]; rfl, HB.out⟩
end NumRefText
end Go.Proofs.YtbichomjpmmjmaaGreatDoor

/-
  The contracts of the document's answers for layer 3 that walk over bytes alone (provostref03.small, Name, Val): what the document's words say; all is left as it was. Condition: the text is no longer than a Go string may be.
-/
namespace Go.Proofs.YtbichomjpmmjmaaGreatDoor
open Go.ChangeShapes Go.WideShapes Go.ChangeAt Go.RowKit
open TextPure
namespace Text
theorem small_ref (n : Nat) (hn : n < 256) (w : World) :
    Calls Tryz.prog 129 #[.int .u8 n] w fun e w' => e = .returned (.bool (small n)) ∧ w = w' := by
  have hr : n < 48 ∨ (48 ≤ n ∧ n ≤ 57) ∨ (57 < n ∧ n < 97) ∨ (97 ≤ n ∧ n ≤ 122) ∨ 122 < n := by omega
  rcases hr with h | ⟨h, h'⟩ | ⟨h, h'⟩ | ⟨h, h'⟩ | h
  · have HS := Lib.hid (show small n = false by unfold small; simp; omega)
    have c0 : ¬ (97 : Int) ≤ n := by omega
    have c1 : ¬ (48 : Int) ≤ n := by omega
    go_enter Tryz.func129, Tryz.ntmps129
    go_wp2_with fail
    go_ret
    exact ⟨by rw [HS.out]; rfl, rfl⟩
  · have HS := Lib.hid (show small n = true by unfold small; simp; omega)
    have c0 : ¬ (97 : Int) ≤ n := by omega
    have c1 : (48 : Int) ≤ n := by omega
    have c2 : (n : Int) ≤ 57 := by omega
    go_enter Tryz.func129, Tryz.ntmps129
    go_wp2_with fail
    go_ret
    exact ⟨by rw [HS.out]; rfl, rfl⟩
  · have HS := Lib.hid (show small n = false by unfold small; simp; omega)
    have c0 : ¬ (97 : Int) ≤ n := by omega
    have c1 : (48 : Int) ≤ n := by omega
    have c2 : ¬ (n : Int) ≤ 57 := by omega
    go_enter Tryz.func129, Tryz.ntmps129
    go_wp2_with fail
    go_ret
    exact ⟨by rw [HS.out]; rfl, rfl⟩
  · have HS := Lib.hid (show small n = true by unfold small; simp; omega)
    have c0 : (97 : Int) ≤ n := by omega
    have c1 : (n : Int) ≤ 122 := by omega
    go_enter Tryz.func129, Tryz.ntmps129
    go_wp2_with fail
    go_ret
    exact ⟨by rw [HS.out]; rfl, rfl⟩
  · have HS := Lib.hid (show small n = false by unfold small; simp; omega)
    have c0 : (97 : Int) ≤ n := by omega
    have c1 : ¬ (n : Int) ≤ 122 := by omega
    have c2 : (48 : Int) ≤ n := by omega
    have c3 : ¬ (n : Int) ≤ 57 := by omega
    go_enter Tryz.func129, Tryz.ntmps129
    go_wp2_with fail
    go_ret
    exact ⟨by rw [HS.out]; rfl, rfl⟩
theorem small_45 : small 45 = false := by decide
theorem nameL_first {l : List UInt8} (h : at' l 0 = 45) : nameL l = false := by
  cases hx : nameL l with
  | false => rfl
  | true => have := (nameL_ends hx).1; rw [h, small_45] at this; cases this
theorem nameL_last {l : List UInt8} (h : at' l (l.length - 1) = 45) : nameL l = false := by
  cases hx : nameL l with
  | false => rfl
  | true => have := (nameL_ends hx).2; rw [h, small_45] at this; cases this
theorem nameL_no {l : List UInt8} {k : Nat} (hk : k < l.length) (h : nameB (at' l k) = false) : nameL l = false := by
  cases hx : nameL l with
  | false => rfl
  | true =>
    have := (all_at (f := nameB) l).1 (List.all_eq_true.2 fun b hb => nameL_bytes hx b hb) k hk
    rw [h] at this; cases this
theorem nameL_yes {l : List UInt8} (h1 : 1 ≤ l.length) (h2 : l.length ≤ 16) (h3 : at' l 0 ≠ 45) (h4 : at' l (l.length - 1) ≠ 45) (h5 : ∀ k, k < l.length → nameB (at' l k) = true) : nameL l = true := by
  refine nameL_mk h1 h2 ?_ ?_ (fun b hb => ?_)
  · rw [small_iff (h5 0 (by omega))]; simpa using h3
  · rw [small_iff (h5 _ (by omega))]; simpa using h4
  · exact List.all_eq_true.1 ((all_at (f := nameB) l).2 h5) b hb
set_option maxRecDepth 100000 in
set_option maxHeartbeats 1000000 in
theorem name_ref (s : ByteArray) (hs : s.size ≤ maxLen) (w : World) :
    Calls Tryz.prog 101 #[.string s] w fun e w' => e = .returned (.bool (nameL s.data.toList)) ∧ w = w' := by
  unfold maxLen at hs
  have HN := Lib.hid (size_list s)
  by_cases h0 : s.size = 0
  · have hz : (s.size : Int) < 1 := by omega
    go_enter Tryz.func101, Tryz.ntmps101
    go_wp2_with fail
    go_ret
    exact ⟨by rw [nameL_false (by rw [HN.out]; omega)]; rfl, rfl⟩
  have hpos : 0 < s.size := by omega
  have hz : ¬ (s.size : Int) < 1 := by omega
  by_cases h16 : s.size ≤ 16
  · have hgt : ¬ (16 : Int) < s.size := by omega
    have HB0 := Lib.hid (at_byte s 0 hpos)
    have HB1 := Lib.hid (at_byte s (s.size - 1) (by omega))
    have hi : (((s.size : Int) - 1).toNat) = s.size - 1 := by omega
    have hlt : s.size - 1 < s.size := by omega
    have hn0 : (0 : Int) ≤ (s.size : Int) - 1 := by omega
    have hn1 : (s.size : Int) - 1 < s.size := by omega
    have hw1 : IntKind.i64.wrap ((s.size : Int) - 1) = (s.size : Int) - 1 := IntWalk.i64_in _ (by omega)
    by_cases hd0 : s[0].toNat = 45
    · have hd0' : ((s[0].toNat : Int) == 45) = true := by rw [hd0]; rfl
      go_enter Tryz.func101, Tryz.ntmps101
      go_wp2_with fail
      go_ret
      exact ⟨by rw [nameL_first (by rw [← HB0.out]; exact hd0)]; rfl, rfl⟩
    have hd0' : ((s[0].toNat : Int) == 45) = false := beq_false_of_ne (by omega)
    by_cases hd1 : s[s.size - 1].toNat = 45
    · have hd1' : ((s[s.size - 1].toNat : Int) == 45) = true := by rw [hd1]; rfl
      go_enter Tryz.func101, Tryz.ntmps101
      go_wp2_with fail
      go_ret
      exact ⟨by rw [nameL_last (by rw [HN.out, ← HB1.out]; exact hd1)]; rfl, rfl⟩
    have hd1' : ((s[s.size - 1].toNat : Int) == 45) = false := beq_false_of_ne (by omega)
    have HY := Lib.hid (nameL_yes (l := s.data.toList) (by rw [HN.out]; omega) (by rw [HN.out]; omega) (by rw [← HB0.out]; exact hd0) (by rw [HN.out, ← HB1.out]; exact hd1))
    rw [HN.out] at HY
    go_enter Tryz.func101, Tryz.ntmps101
    go_wp2_with fail
    go_loop [3] (fun i => ∃ k : Nat, k ≤ s.size ∧ i = .int .i64 k ∧ Hid (∀ j, j < k → nameB (at' s.data.toList j) = true)) (fun i => s.size - (RowKit.intOf i).toNat)
    case atStart => exact ⟨0, by omega, rfl, fun j h => by omega⟩
    case round =>
      obtain ⟨k, hk, rfl, HA⟩ := hrel
      by_cases hlt : k < s.size
      · have HB := Lib.hid (at_byte s k hlt)
        go_wp2_with fail
        refine (small_ref s[k].toNat s[k].toNat_lt _).mono ?_
        rintro e w' ⟨rfl, rfl⟩
        cases hb : small s[k].toNat with
        | true =>
          go_wp2_with fail
          go_round
          case rel =>
            refine ⟨k + 1, by omega, by go_num, fun j hj => ?_⟩
            by_cases e : j = k
            · subst e; rw [← HB.out]; exact small_name hb
            · exact HA.out j (by omega)
          case measure => simp [RowKit.intOf]; omega
        | false =>
          by_cases hd : s[k].toNat = 45
          · have hd' : ((s[k].toNat : Int) != 45) = false := by rw [hd]; rfl
            go_wp2_with fail
            go_round
            case rel =>
              refine ⟨k + 1, by omega, by go_num, fun j hj => ?_⟩
              by_cases e : j = k
              · subst e; rw [← HB.out, hd]; decide
              · exact HA.out j (by omega)
            case measure => simp [RowKit.intOf]; omega
          · have hd' : ((s[k].toNat : Int) != 45) = true := bne_iff_ne.2 (by omega)
            have HX := Lib.hid (nameL_no (l := s.data.toList) (k := k) (by rw [HN.out]; exact hlt) (by rw [← HB.out]; unfold nameB; rw [hb]; simpa using hd))
            go_wp2_with fail
            go_ret
            exact ⟨by rw [HX.out]; rfl, rfl⟩
      · obtain rfl : k = s.size := by omega
        go_wp2_with fail
        go_ret
        exact ⟨by rw [HY.out HA.out]; rfl, rfl⟩
  · have hgt : (16 : Int) < s.size := by omega
    go_enter Tryz.func101, Tryz.ntmps101
    go_wp2_with fail
    go_ret
    exact ⟨by rw [nameL_false (by rw [HN.out]; omega)]; rfl, rfl⟩
theorem valL_no {l : List UInt8} {k : Nat} (hk : k < l.length) (h : valB (at' l k) = false) : valL l = false := by
  unfold valL
  rw [all_not hk h, Bool.and_false]
theorem valL_yes {l : List UInt8} (h2 : l.length ≤ 16) (h5 : ∀ k, k < l.length → valB (at' l k) = true) : valL l = true := by
  unfold valL
  rw [(all_at l).2 h5, decide_eq_true h2]; rfl
theorem valL_long {l : List UInt8} (h2 : ¬ l.length ≤ 16) : valL l = false := by
  unfold valL
  rw [decide_eq_false h2]; rfl
theorem valB_split (n : Nat) : valB n = (small n || (decide (65 ≤ n) && decide (n ≤ 90)) || n == 45 || n == 46 || n == 95) := by
  unfold valB tagB nameB
  cases small n <;> cases (decide (65 ≤ n) && decide (n ≤ 90)) <;> cases (n == 45) <;> cases (n == 46) <;> rfl
set_option maxRecDepth 100000 in
set_option maxHeartbeats 1000000 in
theorem val_ref_all (s : ByteArray) (w : World) :
    Calls Tryz.prog 131 #[.string s] w fun e w' => e = .returned (.bool (valL s.data.toList)) ∧ w = w' := by
  have HN := Lib.hid (size_list s)
  go_enter Tryz.func131, Tryz.ntmps131
  go_wp2_with fail
  go_loop [3] (fun i => ∃ k : Nat, k ≤ s.size ∧ k ≤ 17 ∧ i = .int .i64 k ∧ Hid (∀ j, j < k → valB (at' s.data.toList j) = true)) (fun i => 17 - (RowKit.intOf i).toNat)
  case atStart => exact ⟨0, by omega, by omega, rfl, fun j h => by omega⟩
  case round =>
    obtain ⟨k, hk, hk17, rfl, HA⟩ := hrel
    by_cases hlt : k < s.size
    · by_cases h16 : k ≤ 16
      · have HB := Lib.hid (at_byte s k hlt)
        have h16' : (k : Int) ≤ 16 := by omega
        have HV := Lib.hid (valB_split s[k].toNat)
        have hstep : valB s[k].toNat = true → ∀ j, j < k + 1 → valB (at' s.data.toList j) = true := by
          intro hv j hj
          by_cases e : j = k
          · subst e; rw [← HB.out]; exact hv
          · exact HA.out j (by omega)
        have HS := Lib.hid hstep
        clear hstep
        go_wp2_with fail
        refine (small_ref s[k].toNat s[k].toNat_lt _).mono ?_
        rintro e w' ⟨rfl, rfl⟩
        cases hb : small s[k].toNat with
        | true =>
          go_wp2_with fail
          go_round
          case rel => exact ⟨k + 1, by omega, by omega, by go_num, HS.out (by rw [HV.out, hb]; rfl)⟩
          case measure => simp [RowKit.intOf]; omega
        | false =>
          rw [hb] at HV
          have hr : s[k].toNat < 65 ∨ (65 ≤ s[k].toNat ∧ s[k].toNat ≤ 90) ∨ 90 < s[k].toNat := by omega
          by_cases hc : 65 ≤ s[k].toNat ∧ s[k].toNat ≤ 90
          · have c1 : ¬ (s[k].toNat : Int) < 65 := by omega
            have c2 : ¬ (90 : Int) < s[k].toNat := by omega
            go_wp2_with fail
            go_round
            case rel => exact ⟨k + 1, by omega, by omega, by go_num, HS.out (by rw [HV.out, decide_eq_true hc.1, decide_eq_true hc.2]; rfl)⟩
            case measure => simp [RowKit.intOf]; omega
          · have hdec : (decide (65 ≤ s[k].toNat) && decide (s[k].toNat ≤ 90)) = false := by simp; omega
            rw [hdec] at HV
            by_cases e1 : s[k].toNat = 45
            · rw [e1] at HV
              have q1 : ((s[k].toNat : Int) != 45) = false := by rw [e1]; rfl
              have c1 : (s[k].toNat : Int) < 65 := by omega
              go_wp2_with fail
              go_round
              case rel => exact ⟨k + 1, by omega, by omega, by go_num, HS.out (by rw [e1]; decide)⟩
              case measure => simp [RowKit.intOf]; omega
            have q1 : ((s[k].toNat : Int) != 45) = true := bne_iff_ne.2 (by omega)
            by_cases e2 : s[k].toNat = 46
            · have q2 : ((s[k].toNat : Int) != 46) = false := by rw [e2]; rfl
              have c1 : (s[k].toNat : Int) < 65 := by omega
              go_wp2_with fail
              go_round
              case rel => exact ⟨k + 1, by omega, by omega, by go_num, HS.out (by rw [e2]; decide)⟩
              case measure => simp [RowKit.intOf]; omega
            have q2 : ((s[k].toNat : Int) != 46) = true := bne_iff_ne.2 (by omega)
            by_cases e3 : s[k].toNat = 95
            · have q3 : ((s[k].toNat : Int) != 95) = false := by rw [e3]; rfl
              have c1 : ¬ (s[k].toNat : Int) < 65 := by omega
              have c2 : (90 : Int) < s[k].toNat := by omega
              go_wp2_with fail
              go_round
              case rel => exact ⟨k + 1, by omega, by omega, by go_num, HS.out (by rw [e3]; decide)⟩
              case measure => simp [RowKit.intOf]; omega
            have q3 : ((s[k].toNat : Int) != 95) = true := bne_iff_ne.2 (by omega)
            have HX := Lib.hid (valL_no (l := s.data.toList) (k := k) (by rw [HN.out]; exact hlt) (by
              rw [← HB.out, HV.out]
              have p1 : (s[k].toNat == 45) = false := by simpa using e1
              have p2 : (s[k].toNat == 46) = false := by simpa using e2
              have p3 : (s[k].toNat == 95) = false := by simpa using e3
              rw [p1, p2, p3]; rfl))
            by_cases hlo : s[k].toNat < 65
            · have c1 : (s[k].toNat : Int) < 65 := by omega
              go_wp2_with fail
              go_ret
              exact ⟨by rw [HX.out]; rfl, rfl⟩
            · have c1 : ¬ (s[k].toNat : Int) < 65 := by omega
              have c2 : (90 : Int) < s[k].toNat := by omega
              go_wp2_with fail
              go_ret
              exact ⟨by rw [HX.out]; rfl, rfl⟩
      · have h16' : ¬ (k : Int) ≤ 16 := by omega
        have hle : ¬ (s.size : Int) ≤ 16 := by omega
        go_wp2_with fail
        go_ret
        exact ⟨by rw [valL_long (by rw [HN.out]; omega)]; rfl, rfl⟩
    · obtain rfl : k = s.size := by omega
      by_cases h16 : s.size ≤ 16
      · have hle : (s.size : Int) ≤ 16 := by omega
        go_wp2_with fail
        go_ret
        exact ⟨by rw [valL_yes (by rw [HN.out]; exact h16) (by rw [HN.out]; exact HA.out)]; rfl, rfl⟩
      · have hle : ¬ (s.size : Int) ≤ 16 := by omega
        go_wp2_with fail
        go_ret
        exact ⟨by rw [valL_long (by rw [HN.out]; exact h16)]; rfl, rfl⟩
end Text
end Go.Proofs.YtbichomjpmmjmaaGreatDoor

/-
  The contracts of the document's answers for layer 3 that cut texts into parts (provostref03.parts, names, Key, Split): what the document's words say; all that was there is left as it was. Condition: the text has at most 2000 bytes.
-/
namespace Go.Proofs.YtbichomjpmmjmaaGreatDoor
open Go.ChangeShapes Go.WideShapes Go.ChangeAt Go.RowKit
open TextPure
namespace Text
theorem info_string : (Tryz.prog.info? 9).map (fun i => (i.zero, i.size, i.bytes)) = some (some (.string ⟨#[]⟩), 1, 16) := by kernel_rfl
/-- the pieces of the first k bytes -/
def preB (s : ByteArray) (c : UInt8) (k : Nat) : List ByteArray := (pieces c (s.data.toList.take k)).map fun l => ⟨l.toArray⟩
theorem preB_all (s : ByteArray) (c : UInt8) : preB s c s.size = piecesB s c := by
  unfold preB piecesB
  rw [List.take_of_length_le (by rw [size_list]; exact Nat.le_refl _)]
theorem preB_len (s : ByteArray) (c : UInt8) (k : Nat) : 1 ≤ (preB s c k).length ∧ (preB s c k).length ≤ k + 1 := by
  unfold preB
  rw [List.length_map]
  have h1 := pieces_ne c (s.data.toList.take k)
  have h2 := pieces_count c (s.data.toList.take k)
  have h3 := List.length_take_le k s.data.toList
  refine ⟨?_, by omega⟩
  cases h : pieces c (s.data.toList.take k) with
  | nil => exact absurd h h1
  | cons a b => simp
theorem take_step (s : ByteArray) (k : Nat) (hk : k < s.size) : s.data.toList.take (k + 1) = s.data.toList.take k ++ [s[k]] := by
  rw [List.take_succ_eq_append_getElem (by rw [size_list]; exact hk)]
  rfl
theorem preB_sep (s : ByteArray) (c : UInt8) (k : Nat) (hk : k < s.size) (h : s[k] = c) : preB s c (k + 1) = preB s c k ++ [⟨#[]⟩] := by
  unfold preB
  rw [take_step s k hk, pieces_snoc, if_pos h, List.map_append]
  rfl
theorem preB_in (s : ByteArray) (c : UInt8) (k : Nat) (hk : k < s.size) (h : s[k] ≠ c) :
    ∃ x, (preB s c k)[(preB s c k).length - 1]? = some x ∧ preB s c (k + 1) = (preB s c k).set ((preB s c k).length - 1) (x ++ s.extract k (k + 1)) := by
  have e1 : preB s c (k + 1) = ((pieces c (s.data.toList.take k)).dropLast ++ [((pieces c (s.data.toList.take k)).getLast?.getD []) ++ [s[k]]]).map fun l => ⟨l.toArray⟩ := by
    unfold preB
    rw [take_step s k hk, pieces_snoc, if_neg h]
  rw [e1]
  unfold preB
  have hne := pieces_ne c (s.data.toList.take k)
  generalize pieces c (s.data.toList.take k) = ps at *
  have e2 : s.extract k (k + 1) = ⟨#[s[k]]⟩ := by
    apply ByteArray.ext
    simp only [ByteArray.data_extract]
    have : k + 1 ≤ s.data.size := hk
    apply Array.ext
    · simp; omega
    · intro i h1 h2
      simp at h1 h2
      obtain rfl : i = 0 := by omega
      simp
      rfl
  obtain ⟨init, last, rfl⟩ : ∃ init last, ps = init ++ [last] := ⟨ps.dropLast, ps.getLast hne, (List.dropLast_concat_getLast hne).symm⟩
  simp only [List.dropLast_concat, List.getLast?_concat, Option.getD_some, List.map_append, List.map_cons, List.map_nil, List.length_append, List.length_map, List.length_cons, List.length_nil, Nat.zero_add, Nat.add_sub_cancel]
  refine ⟨⟨last.toArray⟩, by simp, ?_⟩
  rw [List.set_append_right _ _ (by simp), e2]
  simp only [List.length_map, Nat.sub_self, List.set_cons_zero]
  congr 2
theorem preB_each {s : ByteArray} {c : UInt8} {k : Nat} {x : ByteArray} (h : x ∈ preB s c k) : x.size ≤ s.size := by
  obtain ⟨l, hl, rfl⟩ := List.mem_map.1 h
  have := pieces_each c _ l hl
  rw [List.length_take, size_list] at this
  show l.toArray.size ≤ _
  have : l.length ≤ s.size := by omega
  simpa using this
def PartsAt (s : ByteArray) (c : UInt8) (w : World) (v : Value) (k : Nat) (wl : World) : Prop :=
  Below w.heap.size w wl ∧ wl.ownsRow w.heap.size 9 1 v (preB s c k).length ((preB s c k).map Value.string)
/-- a row that is not empty has an address -/
theorem own_some {w : World} {base : Nat} {t : TypeId} {v : Value} {n : Nat} {xs : List Value} (h : w.ownsRow base t 1 v n xs) (hn : 1 ≤ n) : ∃ g cap, v = .slice (some ⟨g, 0, none⟩) n cap ∧ base ≤ g ∧ g < w.heap.size := by
  rcases h.2 with ⟨_, h0⟩ | ⟨g, cap, cur, rfl, hb, hg, _⟩
  · omega
  · refine ⟨g, cap, rfl, hb, ?_⟩
    rcases Nat.lt_or_ge g w.heap.size with hl | hl
    · exact hl
    · rw [Array.getElem?_eq_none hl] at hg; cases hg
set_option maxRecDepth 100000 in
set_option maxHeartbeats 2000000 in
theorem parts_ref (s : ByteArray) (c : UInt8) (hs : s.size ≤ 2000) (w : World) :
    Calls Tryz.prog 152 #[.string s, .int .u8 c.toNat] w fun e w' => ∃ v, e = .returned v ∧ Below w.heap.size w w' ∧ w'.ownsRow w.heap.size 9 1 v (piecesB s c).length ((piecesB s c).map Value.string) := by
  obtain ⟨i0, hi, hz0, hz1, hz2⟩ := info_parts info_string
  have HE := Lib.hid (preB_all s c)
  go_enter Tryz.func152, Tryz.ntmps152
  go_wp2_with fail
  go_loopw [5, 6] (fun v i wl => ∃ k : Nat, k ≤ s.size ∧ i = .int .i64 k ∧ Hid (PartsAt s c w v k wl)) (fun _ i _ => s.size - (RowKit.intOf i).toNat)
  case atStart => exact ⟨0, Nat.zero_le _, rfl, (Below.refl _ _).alloc (Nat.le_refl _) _, World.ownsRow_lit w #[.string ⟨#[]⟩] 1 (Nat.le_refl _) (by decide) rfl⟩
  case round =>
    obtain ⟨k, hk, rfl, HA⟩ := hrel
    obtain ⟨hn1, hn2⟩ := preB_len s c k
    obtain ⟨g, cap, rfl, hg1, hg2⟩ := own_some HA.out.2 hn1
    have HB := Lib.hid HA.out.1
    have HO := Lib.hid HA.out.2
    clear HA
    by_cases hlt : k < s.size
    · by_cases hc : s[k] = c
      · have hc' : ((s[k].toNat : Int) == (c.toNat : Int)) = true := by rw [hc]; simp
        have HS := Lib.hid (preB_sep s c k hlt hc)
        clear hc
        generalize preB s c k = ps at *
        have HR := Lib.hid (HO.out.alloc (.cells #[.string ⟨#[]⟩] 9))
        go_wp2_with (at_builtin; refine wpList_append_own _ rfl _ _ 118 rfl w.heap.size 9 i0 (.string ⟨#[]⟩) 1 16 Tryz.underlying118 hi hz0 hz1 hz2 rfl (by decide) _ _ _ rfl HR.out ⟨wr.heap.size, 0, none⟩ 1 1 [.string ⟨#[]⟩] rfl rfl ?c1 ?c2 ?c3 ?c4 ?c5 ?_)
        case c1 =>
          intro j u hu
          rcases j with _ | j
          · obtain rfl : Value.string ⟨#[]⟩ = u := by simpa using hu
            show (wr.alloc (Obj.cells #[Value.string { data := #[] }] 9)).cell? ⟨wr.heap.size, 0, none⟩ = _
            simp
          · simp at hu
        case c2 => intro u hu; simp at hu; subst hu; rfl
        case c3 => unfold maxLen; omega
        case c4 => omega
        case c5 => have := HB.out.size; simp; omega
        intro v' w1 hown' hgrow _
        have hb1 := Lib.hid ((HB.out.alloc HB.out.size _).grown hgrow (by have := HB.out.size; simp; omega) (fun j hj => by simp [Value.ownBlock] at hj; omega))
        have HW := Lib.hid hown'
        clear hown' hgrow HR HO HB
        go_wp2_with fail
        go_roundw
        case rel =>
          refine ⟨k + 1, by omega, by go_num, hb1.out, ?_⟩
          rw [HS.out]
          have := HW.out
          simpa using this
        case measure => simp [RowKit.intOf]; omega
      · have hc' : ((s[k].toNat : Int) == (c.toNat : Int)) = false := beq_false_of_ne (fun e => hc (UInt8.toNat.inj (by omega)))
        obtain ⟨x, hx, hstep⟩ := preB_in s c k hlt hc
        have hxs := preB_each (List.mem_of_getElem? hx)
        have HS := Lib.hid hstep
        clear hstep
        clear hc
        generalize preB s c k = ps at *
        have hcell := HO.out.cellAt (ps.length - 1) (by omega)
        have hfrz := HO.out.frozenAt (ps.length - 1)
        rw [List.getElem?_map, hx, Option.map_some] at hcell
        clear hx
        obtain ⟨n, hn⟩ : ∃ n, n = ps.length := ⟨_, rfl⟩
        rw [← hn] at hcell hfrz HO HS hn1 hn2
        have HN := Lib.hid hn
        clear hn
        have hi1 : (((n : Int) - 1).toNat) = n - 1 := by omega
        have hn0 : (0 : Int) ≤ (n : Int) - 1 ∧ (n : Int) - 1 < n := by omega
        have hn3 : (1 : Int) ≤ n := by omega
        have hw1 : IntKind.i64.wrap ((n : Int) - 1) = (n : Int) - 1 := IntWalk.i64_in _ (by omega)
        have hw2 : IntKind.i64.wrap ((k : Int) + 1) = (k : Int) + 1 := IntWalk.i64_in _ (by omega)
        have hk3 : ((k : Int) + 1).toNat = k + 1 := by omega
        have hk4 : (k : Int) ≤ (k : Int) + 1 := by omega
        have hk5 : (k : Int) + 1 ≤ s.size := by omega
        have hadd : ∀ v, (Op.stringOp .add x (s.extract k (k + 1))).run Tryz.prog v = .ok (.string (x ++ s.extract k (k + 1))) v := fun v => run_string_add_sum v _ _ (by rw [ByteArray.size_extract]; omega)
        rw [← HN.out]
        go_wp2_with fail
        go_still_tail 17, (by kernel_rfl)
        change wpList _ _ _ _ _ wr.drew
        have HO2 := Lib.hid (HO.out.stored (n - 1) (.string (x ++ s.extract k (k + 1))))
        go_wp2_with fail
        go_roundw
        case rel =>
          refine ⟨k + 1, by omega, by go_num, (HB.out.setCell (p := ⟨g, n - 1, none⟩) hg1 _).drew, ?_⟩
          rw [HS.out, List.length_set, ← HN.out, List.map_set]
          exact HO2.out.1
        case measure => simp [RowKit.intOf]; omega
    · obtain rfl : k = s.size := by omega
      go_wp2_with fail
      go_ret
      rw [HE.out] at HO
      exact ⟨_, by rw [HE.out]; rfl, HB.out, HO.out⟩
/-- how many names there are, if each is one -/
def countN (ps : List ByteArray) : Int := if namesL ps then ps.length else 0
set_option maxRecDepth 100000 in
set_option maxHeartbeats 1000000 in
theorem names_ref (s : ByteArray) (hs : s.size ≤ 2000) (w : World) :
    Calls Tryz.prog 151 #[.string s] w fun e w' => e = .returned (.tuple #[.int .i64 (countN (piecesB s 47)), .bool (namesL (piecesB s 47))]) ∧ Below w.heap.size w w' := by
  have hP := piecesB_count s 47
  have hP1 : 1 ≤ (piecesB s 47).length := by rw [piecesB_len]; omega
  have HZ := Lib.hid (fun k (hk : k < (piecesB s 47).length) => piecesB_each (List.getElem_mem hk))
  go_enter Tryz.func151, Tryz.ntmps151
  go_wp2_with fail
  refine (parts_ref s 47 hs _).mono ?_
  rintro e w1 ⟨v, rfl, hb1, hown⟩
  generalize hps : piecesB s 47 = ps at *
  have HP := Lib.hid hps
  clear hps
  obtain ⟨g, cap, rfl, hg1, hg2⟩ := own_some hown hP1
  have HB := Lib.hid hb1
  have HC := Lib.hid (fun k (hk : k < ps.length) => show w1.cell? ⟨g, k, none⟩ = some (.string ps[k]) by
    rw [hown.cellAt k (by omega), List.getElem?_map, List.getElem?_eq_getElem hk]; rfl)
  clear hown hb1
  go_wp2_with fail
  go_loop [5] (fun i => ∃ k : Nat, k ≤ ps.length ∧ i = .int .i64 k ∧ Hid (∀ j (hj : j < ps.length), j < k → nameL ps[j].data.toList = true)) (fun i => ps.length - (RowKit.intOf i).toNat)
  case atStart => exact ⟨0, by omega, rfl, fun j _ h => by omega⟩
  case round =>
    obtain ⟨k, hk, rfl, HA⟩ := hrel
    by_cases hlt : k < ps.length
    · have hc := HC.out k hlt
      have hz := HZ.out k hlt
      go_wp2_with fail
      refine (name_ref ps[k] (by unfold maxLen; omega) _).mono ?_
      rintro e w' ⟨rfl, rfl⟩
      cases hn : nameL ps[k].data.toList with
      | false =>
        have HX := Lib.hid (namesL_no hlt hn)
        go_wp2_with fail
        go_ret2
        exact ⟨by rw [HP.out]; unfold countN; rw [HX.out]; rfl, HB.out⟩
      | true =>
        go_wp2_with fail
        go_round
        case rel =>
          refine ⟨k + 1, by omega, by go_num, fun j hj hj' => ?_⟩
          by_cases e : j = k
          · subst e; exact hn
          · exact HA.out j hj (by omega)
        case measure => simp [RowKit.intOf]; omega
    · obtain rfl : k = ps.length := by omega
      have HX := Lib.hid (namesL_yes (fun j hj => HA.out j hj hj))
      go_wp2_with fail
      go_ret2
      exact ⟨by rw [HP.out]; unfold countN; rw [HX.out]; rfl, HB.out⟩
theorem keyRef_eq (s : ByteArray) : keyL s.data.toList = (decide (s.size ≤ 100) && (namesL (piecesB s 47) && decide ((piecesB s 47).length ≤ 2))) := by
  rw [keyL_ref, size_list, namesL_pieces]
  unfold piecesB
  rw [List.length_map]
set_option maxRecDepth 100000 in
theorem key_ref_all (s : ByteArray) (w : World) :
    Calls Tryz.prog 130 #[.string s] w fun e w' => e = .returned (.bool (keyL s.data.toList)) ∧ Below w.heap.size w w' := by
  have HE := Lib.hid (keyRef_eq s)
  by_cases h1 : s.size ≤ 100
  · have h1' : ¬ (100 : Int) < s.size := by omega
    go_enter Tryz.func130, Tryz.ntmps130
    go_wp2_with fail
    refine (names_ref s (by omega) _).mono ?_
    rintro e w1 ⟨rfl, hb⟩
    have HB := Lib.hid hb
    clear hb
    rw [decide_eq_true h1] at HE
    cases hn : namesL (piecesB s 47) with
    | false =>
      go_wp2_with fail
      go_ret
      exact ⟨by rw [HE.out, hn]; rfl, HB.out⟩
    | true =>
      have hcn : countN (piecesB s 47) = (piecesB s 47).length := by unfold countN; rw [hn]; rfl
      by_cases h2 : (piecesB s 47).length ≤ 2
      · have h2' : ((piecesB s 47).length : Int) ≤ 2 := by omega
        go_wp2_with fail
        go_ret
        exact ⟨by rw [HE.out, hn, decide_eq_true h2]; rfl, HB.out⟩
      · have h2' : decide (((piecesB s 47).length : Int) ≤ 2) = false := decide_eq_false (by omega)
        go_wp2_with fail
        go_ret
        exact ⟨by rw [HE.out, hn, decide_eq_false h2]; rfl, HB.out⟩
  · have h1' : (100 : Int) < s.size := by omega
    go_enter Tryz.func130, Tryz.ntmps130
    go_wp2_with fail
    go_ret
    exact ⟨by rw [HE.out, decide_eq_false h1]; rfl, Below.refl _ _⟩
end Text
end Go.Proofs.YtbichomjpmmjmaaGreatDoor

/-
  The contract of the document's answer for layer 3 on images (provostref03.Split): an image's repository and tag and true, else two empty texts and false; all that was there is left as it was. Condition: the text has at most 2000 bytes.
-/
namespace Go.Proofs.YtbichomjpmmjmaaGreatDoor
open Go.ChangeShapes Go.WideShapes Go.ChangeAt Go.RowKit
open TextPure
namespace Text
/-- are the first k bytes a tag's? -/
def tagTo (l : List UInt8) (k : Nat) : Bool := (l.take k).all fun b => tagB b.toNat
theorem tagTo_step (s : ByteArray) (k : Nat) (hk : k < s.size) : tagTo s.data.toList (k + 1) = (tagTo s.data.toList k && tagB s[k].toNat) := by
  unfold tagTo
  rw [take_step s k hk, List.all_append]
  simp
theorem tagTo_all (s : ByteArray) : tagTo s.data.toList s.size = allN 2 s.data.toList := by
  unfold tagTo
  rw [List.take_of_length_le (by rw [size_list]; exact Nat.le_refl _)]
  rfl
theorem tagB_split (n : Nat) : tagB n = (small n || n == 45 || n == 46) := rfl
theorem image_no {s : ByteArray} (h : imageB s = false) : repoB s = ⟨#[]⟩ ∧ tagB' s = ⟨#[]⟩ := by
  unfold repoB tagB'
  rw [h]
  exact ⟨rfl, rfl⟩
theorem image_long {s : ByteArray} (h : ¬ s.size ≤ 100) : imageB s = false := by
  cases hx : imageB s with
  | false => rfl
  | true => have := imageL_len hx; rw [size_list] at this; omega
theorem image_two {s : ByteArray} (h : (piecesB s 58).length ≠ 2) : imageB s = false := by
  cases hx : imageB s with
  | false => rfl
  | true => exact absurd (by unfold piecesB; rw [imageL_two hx]; rfl) h
theorem pieces_pair {s : ByteArray} (h : (piecesB s 58).length = 2) : hasB s 58 = true ∧ piecesB s 58 = [fstB s 58, sndB s 58] := by
  unfold piecesB at h
  rw [List.length_map] at h
  obtain ⟨h1, h2⟩ := pieces_two h
  refine ⟨h1, ?_⟩
  unfold piecesB
  rw [h2]
  rfl
theorem image_pair {s : ByteArray} (h : hasB s 58 = true) : imageB s = (decide ((fstB s 58).size ≤ 24) && namesL (piecesB (fstB s 58) 47) && (decide (1 ≤ (sndB s 58).size) && decide ((sndB s 58).size ≤ 8) && allN 2 (sndB s 58).data.toList)) := by
  rw [imageB_eq, h, repoL_eq, tagL_eq, size_list, Bool.true_and]
/-- what is no image has no parts -/
def NoImage (s : ByteArray) : Prop := imageB s = false ∧ repoB s = ⟨#[]⟩ ∧ tagB' s = ⟨#[]⟩
theorem noImage {s : ByteArray} (h : imageB s = false) : NoImage s := ⟨h, image_no h⟩
set_option maxRecDepth 100000 in
set_option maxHeartbeats 2000000 in
theorem split_ref (s : ByteArray) (hs : s.size ≤ 2000) (w : World) :
    Calls Tryz.prog 132 #[.string s] w fun e w' => e = .returned (.tuple #[.string (repoB s), .string (tagB' s), .bool (imageB s)]) ∧ Below w.heap.size w w' := by
  by_cases h100 : s.size ≤ 100
  rotate_left
  · have h1' : (100 : Int) < s.size := by omega
    have HX := Lib.hid (noImage (image_long h100))
    go_enter Tryz.func132, Tryz.ntmps132
    go_wp2_with fail
    go_ret3
    exact ⟨by rw [HX.out.1, HX.out.2.1, HX.out.2.2]; rfl, Below.refl _ _⟩
  have h1' : ¬ (100 : Int) < s.size := by omega
  by_cases h2 : (piecesB s 58).length = 2
  rotate_left
  · have HX := Lib.hid (noImage (image_two h2))
    have hne : (((piecesB s 58).length : Int) != 2) = true := bne_iff_ne.2 (by omega)
    go_enter Tryz.func132, Tryz.ntmps132
    go_wp2_with fail
    refine (parts_ref s 58 hs _).mono ?_
    rintro e w1 ⟨v, rfl, hb1, hown⟩
    have hP1 : 1 ≤ (piecesB s 58).length := by rw [piecesB_len]; omega
    obtain ⟨g, cap, rfl, hg1, hg2⟩ := own_some hown hP1
    clear hown
    go_wp2_with fail
    go_ret3
    exact ⟨by rw [HX.out.1, HX.out.2.1, HX.out.2.2]; rfl, hb1⟩
  obtain ⟨hhas, hpair⟩ := pieces_pair h2
  have HI := Lib.hid (image_pair hhas)
  have hx1 := fstB_size s 58
  have hy1 := sndB_size s 58
  go_enter Tryz.func132, Tryz.ntmps132
  go_wp2_with fail
  refine (parts_ref s 58 hs _).mono ?_
  rintro e w1 ⟨v, rfl, hb1, hown⟩
  rw [h2] at hown
  obtain ⟨g, cap, rfl, hg1, hg2⟩ := own_some hown (by omega)
  have hc0 := hown.cellAt 0 (by omega)
  have hc1 := hown.cellAt 1 (by omega)
  rw [hpair] at hc0 hc1
  simp only [List.map_cons, List.map_nil, List.getElem?_cons_zero, List.getElem?_cons_succ] at hc0 hc1
  clear hown hpair h2 hhas
  have HB := Lib.hid hb1
  clear hb1
  have hR : repoB s = if imageB s then fstB s 58 else ⟨#[]⟩ := rfl
  have hT : tagB' s = if imageB s then sndB s 58 else ⟨#[]⟩ := rfl
  have HR := Lib.hid hR
  have HT := Lib.hid hT
  clear hR hT
  generalize fstB s 58 = x at *
  generalize sndB s 58 = y at *
  by_cases hx24 : x.size ≤ 24
  rotate_left
  · have hq : (24 : Int) < x.size := by omega
    have HX := Lib.hid (noImage (by rw [HI.out, decide_eq_false hx24]; rfl))
    go_wp2_with fail
    go_ret3
    exact ⟨by rw [HX.out.1, HX.out.2.1, HX.out.2.2]; rfl, HB.out⟩
  have hq : ¬ (24 : Int) < x.size := by omega
  by_cases hy0 : 1 ≤ y.size
  rotate_left
  · have hq1 : (y.size : Int) < 1 := by omega
    have HX := Lib.hid (noImage (by rw [HI.out, decide_eq_false hy0]; simp))
    go_wp2_with fail
    go_ret3
    exact ⟨by rw [HX.out.1, HX.out.2.1, HX.out.2.2]; rfl, HB.out⟩
  have hq1 : ¬ (y.size : Int) < 1 := by omega
  by_cases hy8 : y.size ≤ 8
  rotate_left
  · have hq2 : (8 : Int) < y.size := by omega
    have HX := Lib.hid (noImage (by rw [HI.out, decide_eq_false hy8]; simp))
    go_wp2_with fail
    go_ret3
    exact ⟨by rw [HX.out.1, HX.out.2.1, HX.out.2.2]; rfl, HB.out⟩
  have hq2 : ¬ (8 : Int) < y.size := by omega
  rw [decide_eq_true hx24, decide_eq_true hy0, decide_eq_true hy8, ← tagTo_all, Bool.true_and, Bool.true_and, Bool.true_and] at HI
  have K0 := Lib.hid hc0
  have K1 := Lib.hid hc1
  go_wp2_with fail
  refine (names_ref x (by omega) _).mono ?_
  rintro e w2 ⟨rfl, hb2⟩
  have hd0 := (hb2.cell (p := ⟨g, 0, none⟩) hg2).trans K0.out
  have hd1 := (hb2.cell (p := ⟨g, 1, none⟩) hg2).trans K1.out
  have HB2 := Lib.hid (HB.out.trans (hb2.mono HB.out.size))
  clear hb2 hc0 hc1 K0 K1 HB
  generalize namesL (piecesB x 47) = ok at *
  go_wp2_with fail
  go_loop [7, 8] (fun b i => ∃ k : Nat, k ≤ y.size ∧ i = .int .i64 k ∧ b = .bool (ok && tagTo y.data.toList k)) (fun _ i => y.size - (RowKit.intOf i).toNat)
  case atStart => exact ⟨0, by omega, rfl, by simp [tagTo]⟩
  case round =>
    obtain ⟨k, hk, rfl, rfl⟩ := hrel
    by_cases hlt : k < y.size
    · have HS := Lib.hid (tagTo_step y k hlt)
      have hout : ∀ b : Bool, (ok && tagTo y.data.toList (k + 1)) = b → Value.bool b = Value.bool (ok && tagTo y.data.toList (k + 1)) := fun b h => by rw [h]
      have HO := Lib.hid hout
      clear hout
      cases hb : (ok && tagTo y.data.toList k) with
      | false =>
        have HF := Lib.hid (show (ok && tagTo y.data.toList (k + 1)) = false by rw [HS.out, ← Bool.and_assoc, hb]; rfl)
        go_wp2_with fail
        go_round
        case rel => exact ⟨k + 1, by omega, by go_num, HO.out _ HF.out⟩
        case measure => simp [RowKit.intOf]; omega
      | true =>
        have HF := Lib.hid (show (ok && tagTo y.data.toList (k + 1)) = tagB y[k].toNat by rw [HS.out, ← Bool.and_assoc, hb]; rfl)
        rw [tagB_split] at HF
        go_wp2_with fail
        refine (small_ref y[k].toNat y[k].toNat_lt _).mono ?_
        rintro e w' ⟨rfl, rfl⟩
        cases hsm : small y[k].toNat with
        | true =>
          go_wp2_with fail
          go_round
          case rel => exact ⟨k + 1, by omega, by go_num, HO.out _ (by rw [HF.out, hsm]; rfl)⟩
          case measure => simp [RowKit.intOf]; omega
        | false =>
          by_cases e1 : y[k].toNat = 45
          · have q1 : ((y[k].toNat : Int) == 45) = true := by rw [e1]; rfl
            go_wp2_with fail
            go_round
            case rel => exact ⟨k + 1, by omega, by go_num, HO.out _ (by rw [HF.out, hsm, e1]; rfl)⟩
            case measure => simp [RowKit.intOf]; omega
          · have q1 : ((y[k].toNat : Int) == 45) = false := beq_false_of_ne (by omega)
            by_cases e2 : y[k].toNat = 46
            · have q2 : ((y[k].toNat : Int) == 46) = true := by rw [e2]; rfl
              go_wp2_with fail
              go_round
              case rel => exact ⟨k + 1, by omega, by go_num, HO.out _ (by rw [HF.out, hsm, e2]; rfl)⟩
              case measure => simp [RowKit.intOf]; omega
            · have q2 : ((y[k].toNat : Int) == 46) = false := beq_false_of_ne (by omega)
              have p1 : (y[k].toNat == 45) = false := by simpa using e1
              have p2 : (y[k].toNat == 46) = false := by simpa using e2
              have HG := Lib.hid (show (ok && tagTo y.data.toList (k + 1)) = false by rw [HF.out, hsm, p1, p2]; rfl)
              go_wp2_with fail
              go_round
              case rel => exact ⟨k + 1, by omega, by go_num, HO.out _ HG.out⟩
              case measure => simp [RowKit.intOf]; omega
    · obtain rfl : k = y.size := by omega
      cases hb : (ok && tagTo y.data.toList y.size) with
      | false =>
        have HX := Lib.hid (noImage (by rw [HI.out, hb]))
        go_wp2_with fail
        go_ret3
        exact ⟨by rw [HX.out.1, HX.out.2.1, HX.out.2.2]; rfl, HB2.out⟩
      | true =>
        have HX := Lib.hid (show imageB s = true by rw [HI.out, hb])
        rw [HX.out, if_pos rfl] at HR HT
        go_wp2_with fail
        go_quiet (fail)
        all_goals
          go_wp2_with fail
          go_ret3
          exact ⟨by rw [HX.out, HR.out, HT.out]; rfl, by first | exact HB2.out.drew | exact HB2.out.trans (Kit.below_drewN _ _ _)⟩
end Text
end Go.Proofs.YtbichomjpmmjmaaGreatDoor

/-
  The contracts of the document's own answers on labels and containers (provostref06). Condition: what is looked at is not too long.
-/
namespace Go.Proofs.YtbichomjpmmjmaaGreatDoor
open Go.ChangeShapes Go.WideShapes Go.ChangeAt Go.RowKit Go.Lib
open Sd Lists
namespace SpecRef
theorem at_any (s : ByteArray) (k : Nat) (hs : s.size ≤ 1000000) (hk : k ≤ 1000000) (w : World) :
    Calls Tryz.prog 104 #[.string s, .int .i64 k] w fun e w' => e = .returned (.string (atB s k)) ∧ Below w.heap.size w w' := by
  have hl : (itoa (k : Int)).length ≤ 21 := itoa_length_le _ (by omega) (by omega)
  obtain ⟨d, hd⟩ : ∃ d : ByteArray, (⟨(itoa (k : Int)).toArray⟩ : ByteArray) = d := ⟨_, rfl⟩
  have hds : d.size ≤ 21 := by rw [← hd]; show (itoa (k : Int)).toArray.size ≤ 21; simpa using hl
  have a1 : ∀ v, (Op.stringOp .add s ⟨#[91]⟩).run Tryz.prog v = .ok (.string (s ++ ⟨#[91]⟩)) v := fun v => run_string_add_sum v _ _ (by show _ + 1 ≤ _; omega)
  have a2 : ∀ v, (Op.stringOp .add (s ++ ⟨#[91]⟩) d).run Tryz.prog v = .ok (.string (s ++ ⟨#[91]⟩ ++ d)) v := fun v => run_string_add_sum v _ _ (by rw [ByteArray.size_append]; show _ + 1 + _ ≤ _; omega)
  have a3 : ∀ v, (Op.stringOp .add (s ++ ⟨#[91]⟩ ++ d) ⟨#[93]⟩).run Tryz.prog v = .ok (.string (s ++ ⟨#[91]⟩ ++ d ++ ⟨#[93]⟩)) v := fun v => run_string_add_sum v _ _ (by rw [ByteArray.size_append, ByteArray.size_append]; show _ + 1 + _ + 1 ≤ _; omega)
  have HD := Lib.hid (show s ++ ⟨#[91]⟩ ++ d ++ ⟨#[93]⟩ = atB s k by rw [← hd]; rfl)
  have HE := Lib.hid hd
  clear hd
  go_enter Tryz.func104, Tryz.ntmps104
  go_wp2_with fail
  refine (NumRefText.refText_any k w (by omega) (by omega)).mono ?_
  rw [HE.out]
  rintro e w1 ⟨rfl, hb⟩
  go_wp2
  go_ret
  exact ⟨congrArg (fun x => Ending.returned (.string x)) HD.out, hb⟩
theorem three_any (a b c : Int) (w : World) : Calls Tryz.prog 134 #[.agg #[.int .i64 a, .int .i64 b, .int .i64 c]] w fun e w' => e = .returned (.agg #[.int .i64 a, .int .i64 b, .int .i64 c]) ∧ Below w.heap.size w w' := by
  go_enter Tryz.func134, Tryz.ntmps134
  go_wp2
  exact bodyPost_ret (v := .agg #[.int .i64 a, .int .i64 b, .int .i64 c]) (by simp [results, Tryz.f134, go_sem]) rfl ⟨rfl, ((Below.refl _ _).alloc (Nat.le_refl _) _).alloc (by simp) _⟩
theorem atB_size (name : ByteArray) (k : Nat) (hk : k ≤ 1000000) : (atB name k).size ≤ name.size + 23 := by
  have h1 : (itoa (k : Int)).length ≤ 21 := itoa_length_le _ (by omega) (by omega)
  have h2 : (⟨(itoa (k : Int)).toArray⟩ : ByteArray).size = (itoa (k : Int)).length := by show (itoa (k : Int)).toArray.size = _; simp
  unfold atB
  rw [ByteArray.size_append, ByteArray.size_append, ByteArray.size_append, h2]
  show _ + 1 + _ + 1 ≤ _
  omega
/-- the labels: from k on -/
def LHere (name : ByteArray) (l : List Lbl) (k : Nat) : Prop := labelsV name l = labelsFrom name k (if k = 0 then none else l[k - 1]?) (l.drop k)
theorem ret_two {a c : Int} {s t : ByteArray} {p : Say} (h : p = (a, s)) (h1 : a = c) (h2 : s = t) : Ending.returned (.tuple #[.int .i64 c, .string t]) = .returned (.tuple #[.int .i64 p.1, .string p.2]) := by subst h h1 h2; rfl
set_option maxRecDepth 100000 in
set_option maxHeartbeats 1000000 in
theorem labels_ref_all (name : ByteArray) (A : Option Addr) (cap : Nat) (l : List Lbl) (hn : name.size ≤ 1000) (hl : l.length ≤ 9223372036854775807) (w : World) (h : Lbls w A l) :
    Calls Tryz.prog 102 #[.string name, .slice A l.length cap] w fun e w' => e = .returned (.tuple #[.int .i64 (labelsV name l).1, .string (labelsV name l).2]) ∧ Below w.heap.size w w' := by
  have H := Lib.hid h
  have HN := Lib.hid hn
  have hl' : (l.length : Int) ≤ 9223372036854775807 := by omega
  clear h
  by_cases h4 : 4 < l.length
  · have HE := Lib.hid (show labelsV name l = (2, name) by unfold labelsV; rw [if_pos h4])
    go_enter Tryz.func102, Tryz.ntmps102
    go_wp2
    go_ret2
    exact ⟨ret_two HE.out rfl rfl, Below.refl _ _⟩
  · have HE := Lib.hid (show LHere name l 0 by unfold LHere labelsV; rw [if_neg h4]; rfl)
    have H4 := Lib.hid h4
    go_enter Tryz.func102, Tryz.ntmps102
    go_wp2_with fail
    go_loopw [6] (fun i wr => ∃ k : Nat, k ≤ l.length ∧ i = .int .i64 k ∧ Hid (LHere name l k) ∧ Hid (Below w.heap.size w wr)) (fun i _ => l.length - (RowKit.intOf i).toNat)
    case atStart => exact ⟨0, Nat.zero_le _, rfl, HE.out, Below.refl _ _⟩
    case round =>
      obtain ⟨k, hk, rfl, HK, HW⟩ := hrel
      by_cases hlt : k < l.length
      · obtain ⟨p, rfl, hp, hc⟩ := (H.out.below HW.out).at hlt
        obtain ⟨x, hx⟩ : ∃ x, l[k] = x := ⟨_, rfl⟩
        rw [hx] at hc
        obtain ⟨c0, c1⟩ := hc
        have HX := Lib.hid hx
        clear hx
        have hkn : (k : Int) < (l.length : Int) := by omega
        have HS := Lib.hid (show labelsV name l = labelsFrom name k (if k = 0 then none else l[k - 1]?) (x :: l.drop (k + 1)) by
          have := HK.out
          unfold LHere at this
          rw [this, List.drop_eq_getElem_cons hlt, HX.out])
        have hks := HN.out
        go_wp2_with fail
        refine (Text.key_ref_all x.key wr).mono ?_
        rintro e w5 ⟨rfl, hb5⟩
        have HW5 := Lib.hid (HW.out.trans (hb5.mono HW.out.size))
        obtain ⟨p', hpp, hp5, hc5⟩ := (H.out.below HW5.out).at hlt
        injection hpp with hpp
        subst hpp
        rw [HX.out] at hc5
        obtain ⟨d0, d1⟩ := hc5
        have hat := at_any name k (by omega) (by omega)
        clear hb5 c0 c1 hp
        cases hkey : TextPure.keyL x.key.data.toList with
        | false =>
          have HD := Lib.hid (show labelsV name l = (31, atB name k ++ t_key) by rw [HS.out, labelsFrom_cons, if_pos (show isKey x.key = false from hkey)])
          have hasz := atB_size name k (by omega)
          obtain ⟨u, hu⟩ : ∃ u, atB name k = u := ⟨_, rfl⟩
          have HU := Lib.hid hu
          rw [hu] at hasz
          have hadd : ∀ v, (Op.stringOp .add u ⟨#[46, 107, 101, 121]⟩).run Tryz.prog v = .ok (.string (u ++ ⟨#[46, 107, 101, 121]⟩)) v := fun v => run_string_add_sum v _ _ (by show _ + 4 ≤ _; omega)
          clear hkey hu
          go_wp2_with fail
          refine (hat _).mono ?_
          rw [HU.out]
          rintro e w6 ⟨rfl, hb6⟩
          go_wp2
          go_ret2
          exact ⟨ret_two HD.out rfl (by rw [HU.out]; rfl), HW5.out.trans (hb6.mono HW5.out.size)⟩
        | true =>
          have HKEY := Lib.hid hkey
          clear hkey
          obtain ⟨o, ho⟩ : ∃ o, notMore (if k = 0 then none else l[k - 1]?) x = o := ⟨_, rfl⟩
          have HO := Lib.hid ho
          rcases k with _ | m
          · have e0 : p.add (0 * 2) = p := by simp [Addr.add]
            rw [e0] at d0 d1
            have ho' : o = false := by rw [← ho]; rfl
            subst ho'
            clear ho e0
            go_wp2_with fail
            go_quiet (fail)
            go_wp2_with fail
            refine (Text.val_ref_all x.val _).mono ?_
            rintro e w6 ⟨rfl, rfl⟩
            cases hval : TextPure.valL x.val.data.toList with
            | false =>
              have HVAL := Lib.hid hval
              clear hval
              have HD := Lib.hid (show labelsV name l = (32, atB name (0) ++ t_val) by rw [HS.out, labelsFrom_cons, if_neg (show ¬ isKey x.key = false by show ¬ TextPure.keyL _ = _; rw [HKEY.out]; simp), if_neg (show ¬ notMore _ x = true by rw [HO.out]; simp), if_pos (show isVal x.val = false from HVAL.out)])
              have hasz := atB_size name (0) (by omega)
              obtain ⟨u, hu⟩ : ∃ u, atB name (0) = u := ⟨_, rfl⟩
              have HU := Lib.hid hu
              rw [hu] at hasz
              have hadd : ∀ v, (Op.stringOp .add u ⟨#[46, 118, 97, 108]⟩).run Tryz.prog v = .ok (.string (u ++ ⟨#[46, 118, 97, 108]⟩)) v := fun v => run_string_add_sum v _ _ (by show _ + 4 ≤ _; omega)
              clear hu
              go_wp2_with fail
              refine (hat _).mono ?_
              rw [HU.out]
              rintro e w7 ⟨rfl, hb7⟩
              have HB7 := Lib.hid (HW5.out.trans (((Kit.below_drewN _ _ _).trans hb7).mono HW5.out.size))
              clear hb7
              go_wp2
              go_ret2
              exact ⟨ret_two HD.out rfl (by rw [HU.out]; rfl), HB7.out⟩
            | true =>
              have HNX := Lib.hid (show LHere name l (0 + 1) by
                unfold LHere
                rw [HS.out, labelsFrom_cons, if_neg (show ¬ isKey x.key = false by show ¬ TextPure.keyL _ = _; rw [HKEY.out]; simp), if_neg (show ¬ notMore _ x = true by rw [HO.out]; simp), if_neg (show ¬ isVal x.val = false by show ¬ TextPure.valL _ = _; rw [hval]; simp), if_neg (by omega), show 0 + 1 - 1 = 0 by omega, List.getElem?_eq_getElem hlt, HX.out])
              clear hval
              go_wp2
              go_roundw
              case rel => exact ⟨0 + 1, by omega, by go_num, HNX.out, HW5.out.trans ((Kit.below_drewN _ _ _).mono HW5.out.size)⟩
              case measure => simp [RowKit.intOf]; omega
          · obtain ⟨p', hpp, hpb, hcp⟩ := (H.out.below HW5.out).at (k := m) (by omega)
            injection hpp with hpp
            subst hpp
            obtain ⟨y, hy⟩ : ∃ y, l[m] = y := ⟨_, rfl⟩
            have ho' : o = !(Op.bytesLess y.key.toList x.key.toList) := by
              rw [← ho, if_neg (by omega), show m + 1 - 1 = m by omega, List.getElem?_eq_getElem (by omega), hy]; rfl
            rw [hy] at hcp
            obtain ⟨g0, g1⟩ := hcp
            have hwr : IntKind.i64.wrap (m : Int) = (m : Int) := IntWalk.i64_in _ (by omega)
            have hm0 : (0 : Int) ≤ (m : Int) := by omega
            have hmn : (m : Int) < (l.length : Int) := by omega
            have hmn1 : (m : Int) + 1 < (l.length : Int) := by omega
            have hmn2 : m < l.length := by omega
            have hp0 : (0 : Int) ≤ (m : Int) + 1 := by omega
            have hp1 : ((m : Int) + 1).toNat = m + 1 := by omega
            clear ho hy g1
            cases o with
            | true =>
              have hbl : Op.bytesLess y.key.toList x.key.toList = false := by simpa using ho'.symm
              have hge : ∀ v, (binOp .geq 9 (.string y.key) (.string x.key)).run Tryz.prog v = .ok (.bool true) v := fun v => by simp [binOp, Op.stringOp, hbl]
              clear ho' hbl
              go_wp2_with fail
              go_quiet (fail)
              have HD := Lib.hid (show labelsV name l = (4, atB name (m + 1) ++ t_key) by rw [HS.out, labelsFrom_cons, if_neg (show ¬ isKey x.key = false by show ¬ TextPure.keyL _ = _; rw [HKEY.out]; simp), if_pos HO.out])
              have hasz := atB_size name (m + 1) (by omega)
              obtain ⟨u, hu⟩ : ∃ u, atB name (m + 1) = u := ⟨_, rfl⟩
              have HU := Lib.hid hu
              rw [hu] at hasz
              have hadd : ∀ v, (Op.stringOp .add u ⟨#[46, 107, 101, 121]⟩).run Tryz.prog v = .ok (.string (u ++ ⟨#[46, 107, 101, 121]⟩)) v := fun v => run_string_add_sum v _ _ (by show _ + 4 ≤ _; omega)
              clear hu
              go_wp2_with fail
              refine (hat _).mono ?_
              rw [HU.out]
              rintro e w7 ⟨rfl, hb7⟩
              have HB7 := Lib.hid (HW5.out.trans (((Kit.below_drewN _ _ _).trans hb7).mono HW5.out.size))
              clear hb7
              go_wp2
              go_ret2
              exact ⟨ret_two HD.out rfl (by rw [HU.out]; rfl), HB7.out⟩
            | false =>
              have hbl : Op.bytesLess y.key.toList x.key.toList = true := by simpa using ho'.symm
              have hge : ∀ v, (binOp .geq 9 (.string y.key) (.string x.key)).run Tryz.prog v = .ok (.bool false) v := fun v => by simp [binOp, Op.stringOp, hbl]
              clear ho' hbl
              go_wp2_with fail
              go_quiet (fail)
              go_wp2_with fail
              refine (Text.val_ref_all x.val _).mono ?_
              rintro e w6 ⟨rfl, rfl⟩
              cases hval : TextPure.valL x.val.data.toList with
              | false =>
                have HVAL := Lib.hid hval
                clear hval
                have HD := Lib.hid (show labelsV name l = (32, atB name (m + 1) ++ t_val) by rw [HS.out, labelsFrom_cons, if_neg (show ¬ isKey x.key = false by show ¬ TextPure.keyL _ = _; rw [HKEY.out]; simp), if_neg (show ¬ notMore _ x = true by rw [HO.out]; simp), if_pos (show isVal x.val = false from HVAL.out)])
                have hasz := atB_size name (m + 1) (by omega)
                obtain ⟨u, hu⟩ : ∃ u, atB name (m + 1) = u := ⟨_, rfl⟩
                have HU := Lib.hid hu
                rw [hu] at hasz
                have hadd : ∀ v, (Op.stringOp .add u ⟨#[46, 118, 97, 108]⟩).run Tryz.prog v = .ok (.string (u ++ ⟨#[46, 118, 97, 108]⟩)) v := fun v => run_string_add_sum v _ _ (by show _ + 4 ≤ _; omega)
                clear hu
                go_wp2_with fail
                refine (hat _).mono ?_
                rw [HU.out]
                rintro e w7 ⟨rfl, hb7⟩
                have HB7 := Lib.hid (HW5.out.trans (((Kit.below_drewN _ _ _).trans hb7).mono HW5.out.size))
                clear hb7
                go_wp2
                go_ret2
                exact ⟨ret_two HD.out rfl (by rw [HU.out]; rfl), HB7.out⟩
              | true =>
                have HNX := Lib.hid (show LHere name l (m + 1 + 1) by
                  unfold LHere
                  rw [HS.out, labelsFrom_cons, if_neg (show ¬ isKey x.key = false by show ¬ TextPure.keyL _ = _; rw [HKEY.out]; simp), if_neg (show ¬ notMore _ x = true by rw [HO.out]; simp), if_neg (show ¬ isVal x.val = false by show ¬ TextPure.valL _ = _; rw [hval]; simp), if_neg (by omega), show m + 1 + 1 - 1 = m + 1 by omega, List.getElem?_eq_getElem hlt, HX.out])
                clear hval
                go_wp2
                go_roundw
                case rel => exact ⟨m + 1 + 1, by omega, by go_num, HNX.out, HW5.out.trans ((Kit.below_drewN _ _ _).mono HW5.out.size)⟩
                case measure => simp [RowKit.intOf]; omega
      · have HD := Lib.hid (show labelsV name l = fine by have := HK.out; unfold LHere at this; rw [this, List.drop_eq_nil_of_le (by omega)]; rfl)
        go_wp2
        go_ret2
        exact ⟨ret_two HD.out rfl rfl, HW.out⟩
theorem labels_ref (name : ByteArray) (A : Option Addr) (cap : Nat) (l : List Lbl) (hn : name.size ≤ 1000) (hl : l.length ≤ 9223372036854775807) (_hlight : ∀ x ∈ l, x.key.size ≤ 100 ∧ x.val.size ≤ 100) (w : World) (h : Lbls w A l) :
    Calls Tryz.prog 102 #[.string name, .slice A l.length cap] w fun e w' => e = .returned (.tuple #[.int .i64 (labelsV name l).1, .string (labelsV name l).2]) ∧ Below w.heap.size w w' := labels_ref_all name A cap l hn hl w h
end SpecRef
end Go.Proofs.YtbichomjpmmjmaaGreatDoor
