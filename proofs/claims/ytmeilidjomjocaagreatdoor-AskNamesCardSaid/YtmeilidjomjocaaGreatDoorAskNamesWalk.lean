/-
  The walk of the law AskNames: it returns true, and leaves all that was there as it was. Condition: as AskCheck.
-/
import Derived.Test.YtmeilidjomjocaaGreatDoorAskWorksAll
import Derived.Test.YtmeilidjomjocaaGreatDoorAskPK
set_option linter.unusedVariables false
set_option linter.unusedSimpArgs false
namespace Go.Proofs.YtmeilidjomjocaaGreatDoor.AskNamesWalk
open Go.ChangeShapes Go.WideShapes Go.ChangeAt Go.RowKit Go.Lib
open LebMath WirePure Sd Wire SpecOwn SpecRef Book Pk Ak

/-- the name of a kind among those of number 1 up to, but not at, i -/
def wantV (k : Int) : Nat → ByteArray
  | 0 => ⟨#[]⟩
  | i + 1 => if 1 ≤ i ∧ (i : Int) = k then nameT i else wantV k i
/-- the number of a name among those -/
def foundV (s : ByteArray) : Nat → Nat
  | 0 => 0
  | i + 1 => if 1 ≤ i ∧ ((nameT i).toList == s.toList) = true then i else foundV s i
theorem want_all (k : Int) : wantV k 13 = nameV k := by
  by_cases h : 1 ≤ k ∧ k ≤ 12
  · rcases kinds_of h with rfl | rfl | rfl | rfl | rfl | rfl | rfl | rfl | rfl | rfl | rfl | rfl <;> rfl
  · have e : nameV k = ⟨#[]⟩ := (name_nil k).2 (by omega)
    rw [e]
    simp only [wantV]
    repeat rw [if_neg (by omega)]
theorem found_some : ∀ j : Fin 13, foundV (nameT j.val) 13 = kindV (nameT j.val) := by decide +kernel
theorem found_all (s : ByteArray) : foundV s 13 = kindV s := by
  by_cases h : ∃ j : Fin 13, nameT j.val = s
  · obtain ⟨j, rfl⟩ := h
    exact found_some j
  · have hn : ∀ j : Nat, j < 13 → ((nameT j).toList == s.toList) = false := fun j hj => by
      rw [beq_eq_false_iff_ne]
      exact fun e => h ⟨⟨j, hj⟩, (text_eq _ _).1 e⟩
    have e1 : ∀ i : Nat, i ≤ 13 → foundV s i = 0 := by
      intro i
      induction i with
      | zero => intro _; rfl
      | succ i ih => intro hi; rw [foundV, hn i (by omega), if_neg (by simp)]; exact ih (by omega)
    have e2 : ∀ n k : Nat, k + n ≤ 13 → kindFrom s k n = 0 := by
      intro n
      induction n with
      | zero => intro k _; rfl
      | succ n ih => intro k hk; rw [kindFrom, hn k (by omega), if_neg (by simp)]; exact ih (k + 1) (by omega)
    rw [e1 13 (Nat.le_refl _)]
    exact (e2 13 0 (Nat.le_refl _)).symm
theorem found_le (s : ByteArray) : ∀ i, foundV s i ≤ i
  | 0 => Nat.le_refl _
  | i + 1 => by
    rw [foundV]
    split
    · omega
    · have := found_le s i; omega
theorem names_ref (w : World) : Calls Tryz.prog 27 #[] w fun e w' => e = .returned (.slice (some ⟨w.heap.size, 0, none⟩) 13 13) ∧ Below w.heap.size w w' ∧ ∀ k, k < 13 → w'.cell? ⟨w.heap.size, k, none⟩ = some (.string (nameT k)) := by
  go_enter Tryz.func27, Tryz.ntmps27
  go_wp2
  go_ret
  refine ⟨rfl, (Below.refl _ _).alloc (Nat.le_refl _) _, fun k hk => ?_⟩
  have hb := heap_alloc_new w (.cells #[.string ⟨#[]⟩, .string ⟨#[114, 117, 110]⟩, .string ⟨#[117, 112, 100, 97, 116, 101]⟩, .string ⟨#[107, 105, 108, 108]⟩, .string ⟨#[111, 112, 101, 110]⟩, .string ⟨#[119, 114, 105, 116, 101]⟩, .string ⟨#[114, 101, 97, 100]⟩, .string ⟨#[99, 108, 111, 115, 101]⟩, .string ⟨#[115, 116, 97, 116, 115]⟩, .string ⟨#[108, 105, 115, 116]⟩, .string ⟨#[103, 101, 116]⟩, .string ⟨#[119, 97, 116, 99, 104]⟩, .string ⟨#[99, 97, 110, 99, 101, 108]⟩] 9)
  rcases (by omega : k = 0 ∨ k = 1 ∨ k = 2 ∨ k = 3 ∨ k = 4 ∨ k = 5 ∨ k = 6 ∨ k = 7 ∨ k = 8 ∨ k = 9 ∨ k = 10 ∨ k = 11 ∨ k = 12) with rfl | rfl | rfl | rfl | rfl | rfl | rfl | rfl | rfl | rfl | rfl | rfl | rfl
  all_goals exact box_cell hb _ rfl

set_option maxRecDepth 100000 in
set_option maxHeartbeats 2000000 in
theorem walk (k : Int) (s : ByteArray) (w : World) (hL : Laid w) :
    Calls Tryz.prog 6 #[.int .i64 k, .string s] w fun e w' => e = .returned (.bool true) ∧ Below w.heap.size w w' := by
  have HL := Lib.hid hL
  have HW := Lib.hid (want_all k)
  have HF := Lib.hid (found_all s)
  clear hL
  go_enter Tryz.func6, Tryz.ntmps6
  go_wp2_with fail
  refine (names_ref w).mono ?_
  rintro e w1 ⟨rfl, hb1, hn1⟩
  have B1 := Lib.hid hb1
  have N1 := Lib.hid hn1
  obtain ⟨b, hb⟩ : ∃ b, w.heap.size = b := ⟨_, rfl⟩
  rw [hb] at N1 ⊢
  clear hb hb1 hn1
  go_wp2_with fail
  go_loop [6, 7, 8] (fun a c i => ∃ m : Nat, 1 ≤ m ∧ m ≤ 13 ∧ i = .int .i64 m ∧ a = .string (wantV k m) ∧ c = .int .i64 (foundV s m)) (fun _ _ i => 13 - (RowKit.intOf i).toNat)
  case atStart => exact ⟨1, Nat.le_refl _, by decide, rfl, rfl, rfl⟩
  case round =>
    obtain ⟨m, hm1, hm, rfl, rfl, rfl⟩ := hrel
    by_cases hlt : m < 13
    · have hlt' : (m : Int) < 13 := by omega
      have hc := N1.out m hlt
      obtain ⟨nm, hnm⟩ : ∃ z, nameT m = z := ⟨_, rfl⟩
      rw [hnm] at hc
      have HNM := Lib.hid hnm
      clear hnm
      obtain ⟨q, hq⟩ : ∃ q, (nm.toList == s.toList) = q := ⟨_, rfl⟩
      have HFS := Lib.hid (show foundV s (m + 1) = if 1 ≤ m ∧ q = true then m else foundV s m by rw [foundV, HNM.out, hq])
      have HWS := Lib.hid (show wantV k (m + 1) = if 1 ≤ m ∧ (m : Int) = k then nm else wantV k m by rw [wantV, HNM.out])
      by_cases hmk : (m : Int) = k
      · have HW2 := Lib.hid (show wantV k (m + 1) = nm by rw [HWS.out, if_pos ⟨hm1, hmk⟩])
        have hmk' : ((m : Int) == k) = true := by rw [beq_iff_eq]; exact hmk
        clear hmk
        cases q with
        | true =>
          have HF2 := Lib.hid (show foundV s (m + 1) = m by rw [HFS.out, if_pos ⟨hm1, rfl⟩])
          go_wp2
          go_round
          case rel => exact ⟨m + 1, by omega, by omega, by go_num, by rw [HW2.out], by rw [HF2.out]⟩
          case measure => simp [RowKit.intOf]; omega
        | false =>
          have HF2 := Lib.hid (show foundV s (m + 1) = foundV s m by rw [HFS.out, if_neg (by simp)])
          go_wp2
          go_round
          case rel => exact ⟨m + 1, by omega, by omega, by go_num, by rw [HW2.out], by rw [HF2.out]⟩
          case measure => simp [RowKit.intOf]; omega
      · have HW2 := Lib.hid (show wantV k (m + 1) = wantV k m by rw [HWS.out, if_neg (fun h => hmk h.2)])
        have hmk' : ((m : Int) == k) = false := by rw [beq_eq_false_iff_ne]; exact hmk
        clear hmk
        cases q with
        | true =>
          have HF2 := Lib.hid (show foundV s (m + 1) = m by rw [HFS.out, if_pos ⟨hm1, rfl⟩])
          go_wp2
          go_round
          case rel => exact ⟨m + 1, by omega, by omega, by go_num, by rw [HW2.out], by rw [HF2.out]⟩
          case measure => simp [RowKit.intOf]; omega
        | false =>
          have HF2 := Lib.hid (show foundV s (m + 1) = foundV s m by rw [HFS.out, if_neg (by simp)])
          go_wp2
          go_round
          case rel => exact ⟨m + 1, by omega, by omega, by go_num, by rw [HW2.out], by rw [HF2.out]⟩
          case measure => simp [RowKit.intOf]; omega
    · obtain rfl : m = 13 := by omega
      rw [HW.out, HF.out]
      clear HW HF hlt hm hm1
      go_wp2_with fail
      refine (name_any k w1 (HL.out.below B1.out)).mono ?_
      rintro e w2 ⟨rfl, rfl⟩
      obtain ⟨nm, hnm⟩ : ∃ z, nameV k = z := ⟨_, rfl⟩
      rw [hnm]
      clear hnm
      go_wp2_with fail
      refine (kind_any s w1 (HL.out.below B1.out)).mono ?_
      rintro e w2 ⟨rfl, rfl⟩
      obtain ⟨kv, hkv⟩ : ∃ z, kindV s = z := ⟨_, rfl⟩
      rw [hkv]
      clear hkv
      go_wp2_with fail
      refine (writes_any k w1).mono ?_
      rintro e w2 ⟨rfl, rfl⟩
      by_cases h1 : 1 ≤ k
      · by_cases h3 : k ≤ 3
        · have hd : decide (1 ≤ k ∧ k ≤ 3) = true := decide_eq_true ⟨h1, h3⟩
          rw [hd]
          clear hd
          go_wp2_with fail
          refine (works_any w1 (HL.out.below B1.out)).mono ?_
          rintro e w2 ⟨rfl, hb2⟩
          have B2 := Lib.hid (B1.out.trans (hb2.mono B1.out.size))
          clear hb2
          go_wp2
          go_ret
          exact ⟨rfl, B2.out⟩
        · have hd : decide (1 ≤ k ∧ k ≤ 3) = false := decide_eq_false (fun h => h3 h.2)
          rw [hd]
          clear hd
          go_wp2_with fail
          refine (works_any w1 (HL.out.below B1.out)).mono ?_
          rintro e w2 ⟨rfl, hb2⟩
          have B2 := Lib.hid (B1.out.trans (hb2.mono B1.out.size))
          clear hb2
          go_wp2
          go_ret
          exact ⟨by first | rfl | simp [h3], B2.out⟩
      · have hd : decide (1 ≤ k ∧ k ≤ 3) = false := decide_eq_false (fun h => h1 h.1)
        rw [hd]
        clear hd
        go_wp2_with fail
        refine (works_any w1 (HL.out.below B1.out)).mono ?_
        rintro e w2 ⟨rfl, hb2⟩
        have B2 := Lib.hid (B1.out.trans (hb2.mono B1.out.size))
        clear hb2
        go_wp2
        go_ret
        exact ⟨rfl, B2.out⟩
end Go.Proofs.YtmeilidjomjocaaGreatDoor.AskNamesWalk
