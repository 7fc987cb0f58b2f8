/-
  The contracts of text's bytes: which kind a byte is of, where a kind may stand, whether all bytes of a text may stand somewhere. All is left as it was. Condition: the table holds what the program's text lays (Laid).
-/
import Derived.Test.YtjcfajfeodabbaaDoorChecked
import Derived.Test.YtjcfajfeodabbaaDoorTextPure
import Derived.Test.YtjcfajfeodabbaaDoorKit
import Derived.Lib.Hide
namespace Go.Proofs.YtjcfajfeodabbaaDoor
open Go.ChangeShapes Go.WideShapes Go.ChangeAt Go.RowKit
open TextPure
namespace Text

/-- the table's words -/
def word : Nat → Nat → Int
  | 1, 1 => 2281701374
  | 2, 0 => 70368744177664
  | 3, 0 => 35184372088832
  | 4, 0 => 287948901175001088
  | 4, 1 => 576460743713488896
  | _, _ => 0

/-- what the listed variables hold -/
structure Laid (w : World) : Prop where
  max : ∃ m, w.cell? ⟨1, 0, none⟩ = some (.int .i64 m)
  tab : ∀ k q, k < 5 → q < 4 → w.cell? ⟨0, k * 4 + q, none⟩ = some (.int .u64 (word k q))

theorem Laid.below {w w' : World} (h : Laid w) (hb : Below w.heap.size w w') : Laid w' := by
  obtain ⟨⟨m, hm⟩, ht⟩ := h
  refine ⟨⟨m, ?_⟩, fun k q hk hq => ?_⟩
  · rw [hb.cell (World.block_lt_of_cell? _ _ hm)]; exact hm
  · have := ht k q hk hq
    rw [hb.cell (World.block_lt_of_cell? _ _ this)]; exact this

/-- the kind of a byte -/
def kindN (n : Nat) : Nat := if small n then 4 else if n == 45 then 3 else if n == 46 then 2 else if (decide (65 ≤ n) && decide (n ≤ 90)) || n == 95 then 1 else 0

/-- does the table say that the byte is of the kind? -/
def bit (k n : Nat) : Bool := bits BinOp.and IntKind.u64 (word k (n / 64) / 2 ^ (n % 64)) 1 == 1
def kindT (n : Nat) : Bool := (List.range 5).all fun k => !(((List.range k).all fun j => !bit j n) && bit k n) || kindN n == k
def kindF (n : Nat) : Bool := !((List.range 5).all fun j => !bit j n) || kindN n == 0
theorem kinds_told : ((List.range 256).all fun n => kindT n && kindF n) = true := by decide +kernel

theorem kind_hit {n k : Nat} (hn : n < 256) (hk : k < 5) (h : ∀ j, j < k → bit j n = false) (hb : bit k n = true) : kindN n = k := by
  have h1 := List.all_eq_true.1 kinds_told n (List.mem_range.2 hn)
  simp only [Bool.and_eq_true] at h1
  have h2 := List.all_eq_true.1 h1.1 k (List.mem_range.2 hk)
  have h3 : ((List.range k).all fun j => !bit j n) = true := List.all_eq_true.2 fun j hj => by rw [h j (List.mem_range.1 hj)]; rfl
  rw [h3, hb] at h2
  simpa using h2
theorem kind_miss {n : Nat} (hn : n < 256) (h : ∀ j, j < 5 → bit j n = false) : kindN n = 0 := by
  have h1 := List.all_eq_true.1 kinds_told n (List.mem_range.2 hn)
  simp only [Bool.and_eq_true] at h1
  have h2 := h1.2
  unfold kindF at h2
  have h3 : ((List.range 5).all fun j => !bit j n) = true := List.all_eq_true.2 fun j hj => by rw [h j (List.mem_range.1 hj)]; rfl
  rw [h3] at h2
  simpa using h2

set_option maxRecDepth 100000 in
theorem kind_any (n : Nat) (hn : n < 256) (w : World) (hL : Laid w) :
    Calls Tryd.prog 35 #[.int .u8 n] w fun e w' => e = .returned (.int .i64 (kindN n : Nat)) ∧ w = w' := by
  have HL := Lib.hid hL
  clear hL
  go_enter Tryd.func35, Tryd.ntmps35
  go_wp2_with fail
  go_loop [4] (fun i => ∃ k : Nat, k ≤ 5 ∧ i = .int .i64 k ∧ Hid (∀ j, j < k → bit j n = false)) (fun i => 5 - (intOf i).toNat)
  case atStart => exact ⟨0, by omega, rfl, fun j h => by omega⟩
  case round =>
    obtain ⟨k, hk, rfl, HA⟩ := hrel
    by_cases hlt : k < 5
    · have hc := HL.out.tab k (n / 64) hlt (by omega)
      cases hb : bit k n with
      | true =>
        have hb' : (bits BinOp.and IntKind.u64 (word k (n / 64) / 2 ^ (n % 64)) 1 == 1) = true := hb
        go_wp2_with fail
        go_ret
        exact ⟨by rw [kind_hit hn hlt HA.out hb]; rfl, rfl⟩
      | false =>
        have hb' : (bits BinOp.and IntKind.u64 (word k (n / 64) / 2 ^ (n % 64)) 1 == 1) = false := hb
        go_wp2_with fail
        go_round
        case rel =>
          refine ⟨k + 1, by omega, by go_num, fun j hj => ?_⟩
          by_cases e : j = k
          · subst e; exact hb
          · exact HA.out j (by omega)
        case measure => simp [intOf]; omega
    · obtain rfl : k = 5 := by omega
      go_wp2_with fail
      go_ret
      exact ⟨by rw [kind_miss hn HA.out]; rfl, rfl⟩

def placesN : Nat → Nat
  | 4 => 15
  | 3 => 7
  | 2 => 3
  | 1 => 1
  | _ => 0

theorem places_any (k : Nat) (hk : k < 5) (w : World) :
    Calls Tryd.prog 34 #[.int .i64 k] w fun e w' => e = .returned (.int .i64 (placesN k : Nat)) ∧ w = w' := by
  rcases k with _ | _ | _ | _ | _ | k
  all_goals first | (exfalso; omega) | skip
  all_goals
    go_enter Tryd.func34, Tryd.ntmps34
    go_wp2_with fail
    go_ret
    exact ⟨rfl, rfl⟩

/-- may the byte stand in the place? 1: a value, 2: a tag, 4: a name, 8: a name's end -/
def standN (p n : Nat) : Bool := match p with
  | 1 => valB n
  | 2 => tagB n
  | 4 => nameB n
  | _ => small n
def stands (p n : Nat) : Bool := (bits BinOp.and IntKind.i64 (placesN (kindN n) : Nat) (p : Nat) != 0) == standN p n
theorem stands_told : ((List.range 256).all fun n => stands 1 n && stands 2 n && stands 4 n && stands 8 n) = true := by decide +kernel
theorem stand_eq {p n : Nat} (hn : n < 256) (hp : p = 1 ∨ p = 2 ∨ p = 4 ∨ p = 8) : (bits BinOp.and IntKind.i64 (placesN (kindN n) : Nat) (p : Nat) != 0) = standN p n := by
  have h1 := List.all_eq_true.1 stands_told n (List.mem_range.2 hn)
  simp only [Bool.and_eq_true] at h1
  rcases hp with rfl | rfl | rfl | rfl
  · exact eq_of_beq h1.1.1.1
  · exact eq_of_beq h1.1.1.2
  · exact eq_of_beq h1.1.2
  · exact eq_of_beq h1.2
theorem kind_lt (n : Nat) : kindN n < 5 := by unfold kindN; repeat' split
                                              all_goals omega

theorem may_any (n p : Nat) (hn : n < 256) (hp : p = 1 ∨ p = 2 ∨ p = 4 ∨ p = 8) (w : World) (hL : Laid w) :
    Calls Tryd.prog 28 #[.int .u8 n, .int .i64 p] w fun e w' => e = .returned (.bool (standN p n)) ∧ w = w' := by
  have HL := Lib.hid hL
  clear hL
  have HP := Lib.hid hp
  clear hp
  have hk := Lib.hid (kind_lt n)
  have hst := stand_eq hn HP.out
  go_enter Tryd.func28, Tryd.ntmps28
  go_wp2_with fail
  refine (kind_any n hn _ HL.out).mono ?_
  rintro e w' ⟨rfl, rfl⟩
  go_wp2_with fail
  refine (places_any _ hk.out _).mono ?_
  rintro e w' ⟨rfl, rfl⟩
  go_wp2_with fail
  go_ret
  exact ⟨by rw [← hst]; rfl, rfl⟩

theorem at_lt (l : List UInt8) (k : Nat) : at' l k < 256 := UInt8.toNat_lt _
theorem at_byte (s : ByteArray) (k : Nat) (h : k < s.size) : s[k].toNat = at' s.data.toList k := by
  unfold at'
  rw [List.getD_eq_getElem?_getD, List.getElem?_eq_getElem (by simpa using h)]
  simp only [Option.getD_some, Array.getElem_toList]
  rfl

theorem all_at {f : Nat → Bool} (l : List UInt8) : (l.all fun b => f b.toNat) = true ↔ ∀ k, k < l.length → f (at' l k) = true := by
  rw [List.all_eq_true]
  constructor
  · intro h k hk
    unfold at'
    rw [List.getD_eq_getElem?_getD, List.getElem?_eq_getElem hk]
    exact h _ (List.getElem_mem hk)
  · intro h b hb
    obtain ⟨k, hk, rfl⟩ := List.getElem_of_mem hb
    have := h k hk
    unfold at' at this
    rw [List.getD_eq_getElem?_getD, List.getElem?_eq_getElem hk] at this
    exact this
theorem all_not {f : Nat → Bool} {l : List UInt8} {k : Nat} (hk : k < l.length) (h : f (at' l k) = false) : (l.all fun b => f b.toNat) = false := by
  cases hx : l.all fun b => f b.toNat with
  | false => rfl
  | true => rw [(all_at l).1 hx k hk] at h; cases h

/-- may all bytes stand there? -/
def allN (p : Nat) (l : List UInt8) : Bool := l.all fun b => standN p b.toNat
set_option maxRecDepth 100000 in
theorem all_any (s : ByteArray) (p : Nat) (hp : p = 1 ∨ p = 2 ∨ p = 4 ∨ p = 8) (hs : s.size ≤ 100) (w : World) (hL : Laid w) :
    Calls Tryd.prog 29 #[.string s, .int .i64 p] w fun e w' => e = .returned (.bool (allN p s.data.toList)) ∧ w = w' := by
  have HL := Lib.hid hL
  have HP := Lib.hid hp
  clear hp hL
  have hlen : s.data.toList.length = s.size := by rw [Array.length_toList]; rfl
  have HN := Lib.hid hlen
  clear hlen
  go_enter Tryd.func29, Tryd.ntmps29
  go_wp2_with fail
  go_loop [8] (fun i => ∃ k : Nat, k ≤ s.size ∧ i = .int .i64 k ∧ Hid (∀ j, j < k → standN p (at' s.data.toList j) = true)) (fun i => s.size - (intOf i).toNat)
  case atStart => exact ⟨0, by omega, rfl, fun j h => by omega⟩
  case round =>
    obtain ⟨k, hk, rfl, HA⟩ := hrel
    by_cases hlt : k < s.size
    · have HB := Lib.hid (at_byte s k hlt)
      go_wp2_with fail
      refine (may_any s[k].toNat p s[k].toNat_lt HP.out _ HL.out).mono ?_
      rintro e w' ⟨rfl, rfl⟩
      cases hb : standN p s[k].toNat with
      | true =>
        go_wp2_with fail
        go_round
        case rel =>
          refine ⟨k + 1, by omega, by go_num, fun j hj => ?_⟩
          by_cases e : j = k
          · subst e; rw [← HB.out]; exact hb
          · exact HA.out j (by omega)
        case measure => simp [intOf]; omega
      | false =>
        go_wp2_with fail
        go_ret
        refine ⟨?_, rfl⟩
        rw [show allN p s.data.toList = false from all_not (k := k) (by rw [HN.out]; exact hlt) (by rw [← HB.out]; exact hb)]; rfl
    · obtain rfl : k = s.size := by omega
      go_wp2_with fail
      go_ret
      refine ⟨?_, rfl⟩
      rw [show allN p s.data.toList = true from (all_at s.data.toList).2 (fun j hj => HA.out j (by rw [HN.out] at hj; exact hj))]; rfl
end Text
end Go.Proofs.YtjcfajfeodabbaaDoor
