/-
  The contracts of the document's answers for layer 3 that walk over bytes alone (provostref03.small, Name, Val): what the document's words say; all is left as it was. Condition: the text is no longer than a Go string may be.
-/
import Derived.Test.YtjcfajfeodabbaaDoorTextName
namespace Go.Proofs.YtjcfajfeodabbaaDoor
open Go.ChangeShapes Go.WideShapes Go.ChangeAt Go.RowKit
open TextPure
namespace Text

theorem small_ref (n : Nat) (hn : n < 256) (w : World) :
    Calls Tryd.prog 21 #[.int .u8 n] w fun e w' => e = .returned (.bool (small n)) ∧ w = w' := by
  have hr : n < 48 ∨ (48 ≤ n ∧ n ≤ 57) ∨ (57 < n ∧ n < 97) ∨ (97 ≤ n ∧ n ≤ 122) ∨ 122 < n := by omega
  rcases hr with h | ⟨h, h'⟩ | ⟨h, h'⟩ | ⟨h, h'⟩ | h
  · have HS := Lib.hid (show small n = false by unfold small; simp; omega)
    have c0 : ¬ (97 : Int) ≤ n := by omega
    have c1 : ¬ (48 : Int) ≤ n := by omega
    go_enter Tryd.func21, Tryd.ntmps21
    go_wp2_with fail
    go_ret
    exact ⟨by rw [HS.out]; rfl, rfl⟩
  · have HS := Lib.hid (show small n = true by unfold small; simp; omega)
    have c0 : ¬ (97 : Int) ≤ n := by omega
    have c1 : (48 : Int) ≤ n := by omega
    have c2 : (n : Int) ≤ 57 := by omega
    go_enter Tryd.func21, Tryd.ntmps21
    go_wp2_with fail
    go_ret
    exact ⟨by rw [HS.out]; rfl, rfl⟩
  · have HS := Lib.hid (show small n = false by unfold small; simp; omega)
    have c0 : ¬ (97 : Int) ≤ n := by omega
    have c1 : (48 : Int) ≤ n := by omega
    have c2 : ¬ (n : Int) ≤ 57 := by omega
    go_enter Tryd.func21, Tryd.ntmps21
    go_wp2_with fail
    go_ret
    exact ⟨by rw [HS.out]; rfl, rfl⟩
  · have HS := Lib.hid (show small n = true by unfold small; simp; omega)
    have c0 : (97 : Int) ≤ n := by omega
    have c1 : (n : Int) ≤ 122 := by omega
    go_enter Tryd.func21, Tryd.ntmps21
    go_wp2_with fail
    go_ret
    exact ⟨by rw [HS.out]; rfl, rfl⟩
  · have HS := Lib.hid (show small n = false by unfold small; simp; omega)
    have c0 : (97 : Int) ≤ n := by omega
    have c1 : ¬ (n : Int) ≤ 122 := by omega
    have c2 : (48 : Int) ≤ n := by omega
    have c3 : ¬ (n : Int) ≤ 57 := by omega
    go_enter Tryd.func21, Tryd.ntmps21
    go_wp2_with fail
    go_ret
    exact ⟨by rw [HS.out]; rfl, rfl⟩

theorem small_45 : small 45 = false := by decide
theorem nameL_first {l : List UInt8} (h : at' l 0 = 45) : nameL l = false := by
  cases hx : nameL l with
  | false => rfl
  | true => have := (nameL_ends hx).1; rw [h, small_45] at this; cases this
theorem nameL_last {l : List UInt8} (h : at' l (l.length - 1) = 45) : nameL l = false := by
  cases hx : nameL l with
  | false => rfl
  | true => have := (nameL_ends hx).2; rw [h, small_45] at this; cases this
theorem nameL_no {l : List UInt8} {k : Nat} (hk : k < l.length) (h : nameB (at' l k) = false) : nameL l = false := by
  cases hx : nameL l with
  | false => rfl
  | true =>
    have := (all_at (f := nameB) l).1 (List.all_eq_true.2 fun b hb => nameL_bytes hx b hb) k hk
    rw [h] at this; cases this
theorem nameL_yes {l : List UInt8} (h1 : 1 ≤ l.length) (h2 : l.length ≤ 16) (h3 : at' l 0 ≠ 45) (h4 : at' l (l.length - 1) ≠ 45) (h5 : ∀ k, k < l.length → nameB (at' l k) = true) : nameL l = true := by
  refine nameL_mk h1 h2 ?_ ?_ (fun b hb => ?_)
  · rw [small_iff (h5 0 (by omega))]; simpa using h3
  · rw [small_iff (h5 _ (by omega))]; simpa using h4
  · exact List.all_eq_true.1 ((all_at (f := nameB) l).2 h5) b hb

set_option maxRecDepth 100000 in
set_option maxHeartbeats 1000000 in
theorem name_ref (s : ByteArray) (hs : s.size ≤ maxLen) (w : World) :
    Calls Tryd.prog 11 #[.string s] w fun e w' => e = .returned (.bool (nameL s.data.toList)) ∧ w = w' := by
  unfold maxLen at hs
  have HN := Lib.hid (size_list s)
  by_cases h0 : s.size = 0
  · have hz : (s.size : Int) < 1 := by omega
    go_enter Tryd.func11, Tryd.ntmps11
    go_wp2_with fail
    go_ret
    exact ⟨by rw [nameL_false (by rw [HN.out]; omega)]; rfl, rfl⟩
  have hpos : 0 < s.size := by omega
  have hz : ¬ (s.size : Int) < 1 := by omega
  by_cases h16 : s.size ≤ 16
  · have hgt : ¬ (16 : Int) < s.size := by omega
    have HB0 := Lib.hid (at_byte s 0 hpos)
    have HB1 := Lib.hid (at_byte s (s.size - 1) (by omega))
    have hi : (((s.size : Int) - 1).toNat) = s.size - 1 := by omega
    have hlt : s.size - 1 < s.size := by omega
    have hn0 : (0 : Int) ≤ (s.size : Int) - 1 := by omega
    have hn1 : (s.size : Int) - 1 < s.size := by omega
    have hw1 : IntKind.i64.wrap ((s.size : Int) - 1) = (s.size : Int) - 1 := IntWalk.i64_in _ (by omega)
    by_cases hd0 : s[0].toNat = 45
    · have hd0' : ((s[0].toNat : Int) == 45) = true := by rw [hd0]; rfl
      go_enter Tryd.func11, Tryd.ntmps11
      go_wp2_with fail
      go_ret
      exact ⟨by rw [nameL_first (by rw [← HB0.out]; exact hd0)]; rfl, rfl⟩
    have hd0' : ((s[0].toNat : Int) == 45) = false := beq_false_of_ne (by omega)
    by_cases hd1 : s[s.size - 1].toNat = 45
    · have hd1' : ((s[s.size - 1].toNat : Int) == 45) = true := by rw [hd1]; rfl
      go_enter Tryd.func11, Tryd.ntmps11
      go_wp2_with fail
      go_ret
      exact ⟨by rw [nameL_last (by rw [HN.out, ← HB1.out]; exact hd1)]; rfl, rfl⟩
    have hd1' : ((s[s.size - 1].toNat : Int) == 45) = false := beq_false_of_ne (by omega)
    have HY := Lib.hid (nameL_yes (l := s.data.toList) (by rw [HN.out]; omega) (by rw [HN.out]; omega) (by rw [← HB0.out]; exact hd0) (by rw [HN.out, ← HB1.out]; exact hd1))
    rw [HN.out] at HY
    go_enter Tryd.func11, Tryd.ntmps11
    go_wp2_with fail
    go_loop [3] (fun i => ∃ k : Nat, k ≤ s.size ∧ i = .int .i64 k ∧ Hid (∀ j, j < k → nameB (at' s.data.toList j) = true)) (fun i => s.size - (intOf i).toNat)
    case atStart => exact ⟨0, by omega, rfl, fun j h => by omega⟩
    case round =>
      obtain ⟨k, hk, rfl, HA⟩ := hrel
      by_cases hlt : k < s.size
      · have HB := Lib.hid (at_byte s k hlt)
        go_wp2_with fail
        refine (small_ref s[k].toNat s[k].toNat_lt _).mono ?_
        rintro e w' ⟨rfl, rfl⟩
        cases hb : small s[k].toNat with
        | true =>
          go_wp2_with fail
          go_round
          case rel =>
            refine ⟨k + 1, by omega, by go_num, fun j hj => ?_⟩
            by_cases e : j = k
            · subst e; rw [← HB.out]; exact small_name hb
            · exact HA.out j (by omega)
          case measure => simp [intOf]; omega
        | false =>
          by_cases hd : s[k].toNat = 45
          · have hd' : ((s[k].toNat : Int) != 45) = false := by rw [hd]; rfl
            go_wp2_with fail
            go_round
            case rel =>
              refine ⟨k + 1, by omega, by go_num, fun j hj => ?_⟩
              by_cases e : j = k
              · subst e; rw [← HB.out, hd]; decide
              · exact HA.out j (by omega)
            case measure => simp [intOf]; omega
          · have hd' : ((s[k].toNat : Int) != 45) = true := bne_iff_ne.2 (by omega)
            have HX := Lib.hid (nameL_no (l := s.data.toList) (k := k) (by rw [HN.out]; exact hlt) (by rw [← HB.out]; unfold nameB; rw [hb]; simpa using hd))
            go_wp2_with fail
            go_ret
            exact ⟨by rw [HX.out]; rfl, rfl⟩
      · obtain rfl : k = s.size := by omega
        go_wp2_with fail
        go_ret
        exact ⟨by rw [HY.out HA.out]; rfl, rfl⟩
  · have hgt : (16 : Int) < s.size := by omega
    go_enter Tryd.func11, Tryd.ntmps11
    go_wp2_with fail
    go_ret
    exact ⟨by rw [nameL_false (by rw [HN.out]; omega)]; rfl, rfl⟩

theorem valL_no {l : List UInt8} {k : Nat} (hk : k < l.length) (h : valB (at' l k) = false) : valL l = false := by
  unfold valL
  rw [all_not hk h, Bool.and_false]
theorem valL_yes {l : List UInt8} (h2 : l.length ≤ 16) (h5 : ∀ k, k < l.length → valB (at' l k) = true) : valL l = true := by
  unfold valL
  rw [(all_at l).2 h5, decide_eq_true h2]; rfl
theorem valL_long {l : List UInt8} (h2 : ¬ l.length ≤ 16) : valL l = false := by
  unfold valL
  rw [decide_eq_false h2]; rfl
theorem valB_split (n : Nat) : valB n = (small n || (decide (65 ≤ n) && decide (n ≤ 90)) || n == 45 || n == 46 || n == 95) := by
  unfold valB tagB nameB
  cases small n <;> cases (decide (65 ≤ n) && decide (n ≤ 90)) <;> cases (n == 45) <;> cases (n == 46) <;> rfl

set_option maxRecDepth 100000 in
set_option maxHeartbeats 1000000 in
theorem val_ref (s : ByteArray) (hs : s.size ≤ maxLen) (w : World) :
    Calls Tryd.prog 15 #[.string s] w fun e w' => e = .returned (.bool (valL s.data.toList)) ∧ w = w' := by
  unfold maxLen at hs
  have HN := Lib.hid (size_list s)
  go_enter Tryd.func15, Tryd.ntmps15
  go_wp2_with fail
  go_loop [3] (fun i => ∃ k : Nat, k ≤ s.size ∧ k ≤ 17 ∧ i = .int .i64 k ∧ Hid (∀ j, j < k → valB (at' s.data.toList j) = true)) (fun i => 17 - (intOf i).toNat)
  case atStart => exact ⟨0, by omega, by omega, rfl, fun j h => by omega⟩
  case round =>
    obtain ⟨k, hk, hk17, rfl, HA⟩ := hrel
    by_cases hlt : k < s.size
    · by_cases h16 : k ≤ 16
      · have HB := Lib.hid (at_byte s k hlt)
        have h16' : (k : Int) ≤ 16 := by omega
        have HV := Lib.hid (valB_split s[k].toNat)
        have hstep : valB s[k].toNat = true → ∀ j, j < k + 1 → valB (at' s.data.toList j) = true := by
          intro hv j hj
          by_cases e : j = k
          · subst e; rw [← HB.out]; exact hv
          · exact HA.out j (by omega)
        have HS := Lib.hid hstep
        clear hstep
        go_wp2_with fail
        refine (small_ref s[k].toNat s[k].toNat_lt _).mono ?_
        rintro e w' ⟨rfl, rfl⟩
        cases hb : small s[k].toNat with
        | true =>
          go_wp2_with fail
          go_round
          case rel => exact ⟨k + 1, by omega, by omega, by go_num, HS.out (by rw [HV.out, hb]; rfl)⟩
          case measure => simp [intOf]; omega
        | false =>
          rw [hb] at HV
          have hr : s[k].toNat < 65 ∨ (65 ≤ s[k].toNat ∧ s[k].toNat ≤ 90) ∨ 90 < s[k].toNat := by omega
          by_cases hc : 65 ≤ s[k].toNat ∧ s[k].toNat ≤ 90
          · have c1 : ¬ (s[k].toNat : Int) < 65 := by omega
            have c2 : ¬ (90 : Int) < s[k].toNat := by omega
            go_wp2_with fail
            go_round
            case rel => exact ⟨k + 1, by omega, by omega, by go_num, HS.out (by rw [HV.out, decide_eq_true hc.1, decide_eq_true hc.2]; rfl)⟩
            case measure => simp [intOf]; omega
          · have hdec : (decide (65 ≤ s[k].toNat) && decide (s[k].toNat ≤ 90)) = false := by simp; omega
            rw [hdec] at HV
            by_cases e1 : s[k].toNat = 45
            · rw [e1] at HV
              have q1 : ((s[k].toNat : Int) != 45) = false := by rw [e1]; rfl
              have c1 : (s[k].toNat : Int) < 65 := by omega
              go_wp2_with fail
              go_round
              case rel => exact ⟨k + 1, by omega, by omega, by go_num, HS.out (by rw [e1]; decide)⟩
              case measure => simp [intOf]; omega
            have q1 : ((s[k].toNat : Int) != 45) = true := bne_iff_ne.2 (by omega)
            by_cases e2 : s[k].toNat = 46
            · have q2 : ((s[k].toNat : Int) != 46) = false := by rw [e2]; rfl
              have c1 : (s[k].toNat : Int) < 65 := by omega
              go_wp2_with fail
              go_round
              case rel => exact ⟨k + 1, by omega, by omega, by go_num, HS.out (by rw [e2]; decide)⟩
              case measure => simp [intOf]; omega
            have q2 : ((s[k].toNat : Int) != 46) = true := bne_iff_ne.2 (by omega)
            by_cases e3 : s[k].toNat = 95
            · have q3 : ((s[k].toNat : Int) != 95) = false := by rw [e3]; rfl
              have c1 : ¬ (s[k].toNat : Int) < 65 := by omega
              have c2 : (90 : Int) < s[k].toNat := by omega
              go_wp2_with fail
              go_round
              case rel => exact ⟨k + 1, by omega, by omega, by go_num, HS.out (by rw [e3]; decide)⟩
              case measure => simp [intOf]; omega
            have q3 : ((s[k].toNat : Int) != 95) = true := bne_iff_ne.2 (by omega)
            have HX := Lib.hid (valL_no (l := s.data.toList) (k := k) (by rw [HN.out]; exact hlt) (by
              rw [← HB.out, HV.out]
              have p1 : (s[k].toNat == 45) = false := by simpa using e1
              have p2 : (s[k].toNat == 46) = false := by simpa using e2
              have p3 : (s[k].toNat == 95) = false := by simpa using e3
              rw [p1, p2, p3]; rfl))
            by_cases hlo : s[k].toNat < 65
            · have c1 : (s[k].toNat : Int) < 65 := by omega
              go_wp2_with fail
              go_ret
              exact ⟨by rw [HX.out]; rfl, rfl⟩
            · have c1 : ¬ (s[k].toNat : Int) < 65 := by omega
              have c2 : (90 : Int) < s[k].toNat := by omega
              go_wp2_with fail
              go_ret
              exact ⟨by rw [HX.out]; rfl, rfl⟩
      · have h16' : ¬ (k : Int) ≤ 16 := by omega
        have hle : ¬ (s.size : Int) ≤ 16 := by omega
        go_wp2_with fail
        go_ret
        exact ⟨by rw [valL_long (by rw [HN.out]; omega)]; rfl, rfl⟩
    · obtain rfl : k = s.size := by omega
      by_cases h16 : s.size ≤ 16
      · have hle : (s.size : Int) ≤ 16 := by omega
        go_wp2_with fail
        go_ret
        exact ⟨by rw [valL_yes (by rw [HN.out]; exact h16) (by rw [HN.out]; exact HA.out)]; rfl, rfl⟩
      · have hle : ¬ (s.size : Int) ≤ 16 := by omega
        go_wp2_with fail
        go_ret
        exact ⟨by rw [valL_long (by rw [HN.out]; exact h16)]; rfl, rfl⟩
end Text
end Go.Proofs.YtjcfajfeodabbaaDoor
