/-
  The contracts of fail.In, fail.New and fail.First: an error with one step more; the error of a code with a path, nil of OK; the first that is not nil. All that was there is left as it was. Conditions: the list holds the texts that are spoken of.
-/
import Derived.Test.YtikaghinkpcknaaDoorErr
namespace Go.Proofs.YtikaghinkpcknaaDoor
open Go.RowKit
namespace Err

theorem in_nil (s : ByteArray) (w : World) :
    Calls Tryd.prog 10 #[.nilIface, .string s] w fun e w' => e = .returned .nilIface ∧ w = w' := by
  go_enter Tryd.func10, Tryd.ntmps10
  go_wp2
  go_ret
  exact ⟨rfl, rfl⟩

theorem in_some (u : TypeId) (x : Value) (s : ByteArray) (w : World) :
    Calls Tryd.prog 10 #[.iface u x, .string s] w fun e w' => e = .returned (.iface 46 (.pointer (some ⟨w.heap.size, 0, none⟩))) ∧ w' = w.alloc (.cells #[.string s, .iface u x] 48) := by
  go_enter Tryd.func10, Tryd.ntmps10
  go_wp2
  go_ret
  exact ⟨rfl, rfl⟩

theorem in_err {w : World} {E : Value} {c : Int} {p : List ByteArray} (h : Is w E c p) (s : ByteArray) :
    Calls Tryd.prog 10 #[E, .string s] w (Made c (s :: p) w) := by
  obtain ⟨u, x, rfl⟩ := h.iface
  refine (in_some u x s w).mono ?_
  rintro e w' ⟨rfl, rfl⟩
  refine ⟨_, rfl, ?_, (Below.refl _ _).alloc (Nat.le_refl _) _⟩
  exact .step _ _ _ _ _ _ (by simp) (by simp) (h.keep ((Below.refl _ _).alloc (Nat.le_refl _) _))

theorem new_ok (v : Value) (w : World) :
    Calls Tryd.prog 8 #[.int .i64 0, v] w fun e w' => e = .returned .nilIface ∧ w = w' := by
  go_enter Tryd.func8, Tryd.ntmps8
  go_wp2
  go_ret
  exact ⟨rfl, rfl⟩

theorem new_any (c : Int) (hc : (c == 0) = false) (A : Option Addr) (cap : Nat) (xs : List ByteArray) (w : World) (hT : Texts w A xs) (hn : xs.length ≤ 9223372036854775807) :
    Calls Tryd.prog 8 #[.int .i64 c, .slice A xs.length cap] w (Made c xs w) := by
  have HT := Lib.hid hT
  clear hT
  go_enter Tryd.func8, Tryd.ntmps8
  go_wp2
  go_loopw [5, 6] (fun E i wr => ∃ (k : Nat) (z : Int), k ≤ xs.length ∧ i = .int .i64 z ∧ z = (k : Int) - 1 ∧ Is wr E c (xs.drop k) ∧ Below w.heap.size w wr) (fun _ i _ => (intOf i + 1).toNat)
  case atStart => exact ⟨xs.length, _, Nat.le_refl _, rfl, rfl, by rw [List.drop_length]; exact .code c, Below.refl _ _⟩
  case round =>
    obtain ⟨k, z, hk, rfl, hz, hE, hb⟩ := hrel
    rcases Nat.eq_zero_or_pos k with h0 | h0
    · obtain rfl : z = -1 := by omega
      subst h0
      have HE := Lib.hid hE
      clear hE hz
      go_wp2
      go_ret
      exact ⟨_, rfl, HE.out, hb⟩
    · obtain ⟨j, rfl⟩ : ∃ j, k = j + 1 := ⟨k - 1, by omega⟩
      obtain rfl : z = (j : Int) := by omega
      obtain ⟨a, rfl, hcell⟩ := (HT.out.below hb) j xs[j] (List.getElem?_eq_getElem (by omega))
      have HE := Lib.hid hE
      have Hz := Lib.hid hz
      clear hE hz
      have hj : (j : Int) < (xs.length : Int) := by omega
      go_wp2_with fail
      refine (in_err HE.out _).mono ?_
      rintro e w1 ⟨E1, rfl, h1, hb1⟩
      have H1 := Lib.hid h1
      clear h1
      go_wp2_with fail
      go_roundw
      case rel => exact ⟨j, (j : Int) - 1, by omega, rfl, rfl, by rw [List.drop_eq_getElem_cons (by omega)]; exact H1.out, hb.trans (hb1.mono hb.size)⟩
      case measure => simp [intOf]

/-- the first of some values that is not nil -/
def firstOf : List Value → Value
  | [] => .nilIface
  | .nilIface :: r => firstOf r
  | E :: _ => E

theorem first_any (Es : List Value) (A : Option Addr) (cap : Nat) (w : World) (hE : ∀ (k : Nat) (E : Value), Es[k]? = some E → E = .nilIface ∨ ∃ u x, E = .iface u x)
    (hT : ∀ (k : Nat) (E : Value), Es[k]? = some E → ∃ a, A = some a ∧ w.cell? (a.add k) = some E) (hn : Es.length ≤ 9223372036854775807) :
    Calls Tryd.prog 19 #[.slice A Es.length cap] w fun e w' => e = .returned (firstOf Es) ∧ w = w' := by
  have HT := Lib.hid hT
  have HE := Lib.hid hE
  clear hT hE
  go_enter Tryd.func19, Tryd.ntmps19
  go_wp2
  go_loop [7] (fun i => ∃ k : Nat, k ≤ Es.length ∧ i = .int .i64 k ∧ firstOf Es = firstOf (Es.drop k)) (fun i => Es.length - (intOf i).toNat)
  case atStart => exact ⟨0, Nat.zero_le _, rfl, rfl⟩
  case round =>
    obtain ⟨k, hk, rfl, hf⟩ := hrel
    have HF := Lib.hid hf
    clear hf
    by_cases hlt : k < Es.length
    · obtain ⟨a, rfl, hcell⟩ := HT.out k Es[k] (List.getElem?_eq_getElem hlt)
      have hd := List.drop_eq_getElem_cons hlt
      have HD := Lib.hid hd
      clear hd
      have hj : (k : Int) < (Es.length : Int) := by omega
      rcases HE.out k Es[k] (List.getElem?_eq_getElem hlt) with h0 | ⟨u, x, h0⟩
      · rw [h0] at hcell
        have H0 := Lib.hid h0
        clear h0
        go_wp2
        go_round
        case rel => exact ⟨k + 1, by omega, by go_num, by rw [HF.out, HD.out, H0.out]; rfl⟩
        case measure => simp [intOf]; omega
      · rw [h0] at hcell
        have H0 := Lib.hid h0
        clear h0
        go_wp2
        go_ret
        exact ⟨by rw [HF.out, HD.out, H0.out]; rfl, rfl⟩
    · go_wp2
      go_ret
      exact ⟨by rw [HF.out, List.drop_of_length_le (by omega)]; rfl, rfl⟩

end Err
end Go.Proofs.YtikaghinkpcknaaDoor
