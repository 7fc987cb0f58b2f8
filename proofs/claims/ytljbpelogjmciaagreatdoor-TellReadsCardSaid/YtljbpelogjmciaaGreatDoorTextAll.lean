/-
 What names, keys, values and images are, as plain functions of lists of bytes; that what stands between the bytes c is what strings.Cut and strings.Split tell. No condition. And what follows of it, part by part, each with its conditions.
-/
import Derived.Test.YtljbpelogjmciaaGreatDoorChecked
import Derived.Test.YtljbpelogjmciaaGreatDoorKit
import Derived.Test.YtljbpelogjmciaaGreatDoorShelf
import Derived.Lib.SplitLaws
import Derived.Lib.CutLaws
import Derived.Lib.Hide
set_option maxRecDepth 100000
namespace Go.Proofs.YtljbpelogjmciaaGreatDoor
open Go.Lib
namespace TextPure
def small (n : Nat) : Bool := (decide (97 ≤ n) && decide (n ≤ 122)) || (decide (48 ≤ n) && decide (n ≤ 57))
def nameB (n : Nat) : Bool := small n || n == 45
def tagB (n : Nat) : Bool := nameB n || n == 46
def valB (n : Nat) : Bool := tagB n || (decide (65 ≤ n) && decide (n ≤ 90)) || n == 95
theorem small_name {n : Nat} (h : small n = true) : nameB n = true := by simp [nameB, h]
theorem small_iff {n : Nat} (h : nameB n = true) : small n = !(n == 45) := by
 unfold nameB at h
 by_cases e : n = 45
 · subst e; decide
 · have : (n == 45) = false := by simpa using e
   rw [this] at h ⊢
   simpa using h
def at' (l : List UInt8) (k : Nat) : Nat := (l.getD k 0).toNat
def nameL (l : List UInt8) : Bool := decide (1 ≤ l.length) && decide (l.length ≤ 16) && small (at' l 0) && small (at' l (l.length - 1)) && l.all fun b => nameB b.toNat
def valL (l : List UInt8) : Bool := decide (l.length ≤ 16) && l.all fun b => valB b.toNat
def tagL (l : List UInt8) : Bool := decide (1 ≤ l.length) && decide (l.length ≤ 8) && l.all fun b => tagB b.toNat
def pieces (c : UInt8) : List UInt8 → List (List UInt8)
 | [] => [[]]
 | b :: l => if b = c then [] :: pieces c l else match pieces c l with
  | [] => [[b]]
  | p :: ps => (b :: p) :: ps
def repoL (l : List UInt8) : Bool := decide (l.length ≤ 24) && (pieces 47 l).all nameL
def keyL (l : List UInt8) : Bool := (cut l [47]).1 |> nameL |> (· && (!(cut l [47]).2.2 || nameL (cut l [47]).2.1))
def imageL (l : List UInt8) : Bool := (cut l [58]).2.2 && repoL (cut l [58]).1 && tagL (cut l [58]).2.1
theorem pieces_ne (c : UInt8) (l : List UInt8) : pieces c l ≠ [] := by
 cases l with
 | nil => simp [pieces]
 | cons b l =>
  unfold pieces
  split
  · simp
  · split <;> simp
theorem pieces_snoc (c b : UInt8) : ∀ l : List UInt8, pieces c (l ++ [b]) = if b = c then pieces c l ++ [[]] else (pieces c l).dropLast ++ [((pieces c l).getLast?.getD []) ++ [b]]
 | [] => by
  by_cases h : b = c
  · simp [pieces, h]
  · simp [pieces, h]
 | x :: l => by
  have ih := pieces_snoc c b l
  show pieces c (x :: (l ++ [b])) = _
  by_cases hx : x = c
  · rw [pieces, if_pos hx, ih]
    rw [show pieces c (x :: l) = [] :: pieces c l by rw [pieces, if_pos hx]]
    split
    · rfl
    · rw [List.dropLast_cons_of_ne_nil (pieces_ne c l), List.getLast?_cons]
      rw [List.getLast?_eq_some_getLast (pieces_ne c l)]
      simp
  · rw [pieces, if_neg hx, ih]
    obtain ⟨p, ps, hp⟩ : ∃ p ps, pieces c l = p :: ps := by
     cases h : pieces c l with
     | nil => exact absurd h (pieces_ne c l)
     | cons p ps => exact ⟨p, ps, rfl⟩
    rw [show pieces c (x :: l) = (x :: p) :: ps by rw [pieces, if_neg hx, hp], hp]
    by_cases hb : b = c
    · simp [hb]
    · rw [if_neg hb, if_neg hb]
      cases ps with
      | nil => simp
      | cons q qs => simp [List.getLast?_cons]
theorem index_cons_eq (c : UInt8) (l : List UInt8) : index (c :: l) [c] = 0 := by rw [index]; simp [List.isPrefixOf]
theorem index_cons_ne {b c : UInt8} (l : List UInt8) (h : b ≠ c) : index (b :: l) [c] = if index l [c] == -1 then -1 else index l [c] + 1 := by
 have hp : ([c] : List UInt8).isPrefixOf (b :: l) = false := by simp [List.isPrefixOf, Ne.symm h]
 rw [index, hp]; simp
theorem cut_cons_eq (c : UInt8) (l : List UInt8) : cut (c :: l) [c] = ([], l, true) := by unfold cut; rw [index_cons_eq]; simp
theorem cut_cons_ne {b c : UInt8} (l : List UInt8) (h : b ≠ c) : cut (b :: l) [c] = (b :: (cut l [c]).1, (cut l [c]).2.1, (cut l [c]).2.2) := by
 have hge := index_ge l [c]
 unfold cut
 rw [index_cons_ne l h]
 by_cases hm : index l [c] = -1
 · simp [hm]
 · have h0 : 0 ≤ index l [c] := by omega
   have h1 : 0 ≤ index l [c] + 1 := by omega
   have e1 : (index l [c] + 1).toNat = (index l [c]).toNat + 1 := by omega
   have hb : (index l [c] == -1) = false := by simpa using hm
   rw [hb]; simp only [Bool.false_eq_true, if_false]; rw [if_pos h1, if_pos h0, e1]
   simp
theorem cut_nil (c : UInt8) : cut [] [c] = ([], [], false) := by simp [cut, index]
theorem cut_pieces (c : UInt8) : ∀ l : List UInt8, pieces c l = if (cut l [c]).2.2 then (cut l [c]).1 :: pieces c (cut l [c]).2.1 else [(cut l [c]).1]
 | [] => by simp [cut_nil, pieces]
 | b :: l => by
  by_cases h : b = c
  · subst h; rw [cut_cons_eq]; simp [pieces]
  · rw [cut_cons_ne l h, pieces, if_neg h, cut_pieces c l]
    cases (cut l [c]).2.2 <;> simp
theorem cut_miss (c : UInt8) : ∀ l : List UInt8, (∀ b ∈ l, b ≠ c) → cut l [c] = (l, [], false)
 | [], _ => cut_nil c
 | b :: l, h => by
  rw [cut_cons_ne l (h b (by simp)), cut_miss c l (fun x hx => h x (by simp [hx]))]
theorem cut_join (c : UInt8) : ∀ l : List UInt8, (cut l [c]).2.2 = true → l = (cut l [c]).1 ++ c :: (cut l [c]).2.1
 | [], h => by rw [cut_nil] at h; cases h
 | b :: l, h => by
  by_cases hb : b = c
  · subst hb; rw [cut_cons_eq]; rfl
  · rw [cut_cons_ne l hb] at h ⊢
    have := cut_join c l h
    simp only [List.cons_append]; rw [← this]
theorem cut_none (c : UInt8) : ∀ l : List UInt8, (cut l [c]).2.2 = false → (cut l [c]).1 = l ∧ (cut l [c]).2.1 = []
 | [], _ => by rw [cut_nil]; exact ⟨rfl, rfl⟩
 | b :: l, h => by
  by_cases hb : b = c
  · subst hb; rw [cut_cons_eq] at h; cases h
  · rw [cut_cons_ne l hb] at h ⊢
    have := cut_none c l h
    exact ⟨by simp [this.1], this.2⟩
theorem cut_len (c : UInt8) (l : List UInt8) : (cut l [c]).1.length ≤ l.length ∧ (cut l [c]).2.1.length ≤ l.length := by
 cases h : (cut l [c]).2.2 with
 | true =>
  have := congrArg List.length (cut_join c l h)
  simp at this
  omega
 | false =>
  obtain ⟨h1, h2⟩ := cut_none c l h
  rw [h1, h2]; simp
theorem splitK_pieces (c : UInt8) : ∀ l : List UInt8, splitK [c] 0 (count l [c]) l = pieces c l
 | [] => by rw [count_miss (by simp [index])]; rfl
 | b :: l => by
  have ih := splitK_pieces c l
  by_cases h : b = c
  · subst h
    rw [count_cons_eq, Nat.add_comm, splitK, index_cons_eq, pieces, if_pos rfl]; simp only [show ((0 : Int) == -1) = false from rfl, Bool.false_eq_true, if_false]
    simp [ih]
  · rw [count_cons_ne b c l h, pieces, if_neg h, ← ih]
    have hge := index_ge l [c]
    have hix := index_cons_ne l h
    by_cases hm : index l [c] = -1
    · rw [count_miss hm]; rfl
    · obtain ⟨j, hj⟩ : ∃ j : Nat, index l [c] = j := ⟨(index l [c]).toNat, by omega⟩
      have hj1 : index (b :: l) [c] = ((j + 1 : Nat) : Int) := by rw [hix, if_neg (by simpa using hm), hj]; omega
      rw [count_hit (by simp) hj, Nat.add_comm]
      have n1 : (index (b :: l) [c] == -1) = false := by rw [hj1]; exact beq_false_of_ne (by omega)
      have n2 : (index l [c] == -1) = false := by rw [hj]; exact beq_false_of_ne (by omega)
      rw [splitK, n1, splitK, n2, hj1, hj]
      simp
theorem nameL_bytes {l : List UInt8} (h : nameL l = true) : ∀ b ∈ l, nameB b.toNat = true := by
 unfold nameL at h
 simp only [Bool.and_eq_true, List.all_eq_true] at h
 exact h.2
theorem nameL_len {l : List UInt8} (h : nameL l = true) : 1 ≤ l.length ∧ l.length ≤ 16 := by
 unfold nameL at h
 simp only [Bool.and_eq_true, decide_eq_true_eq] at h
 exact h.1.1.1
theorem nameL_free {l : List UInt8} (h : nameL l = true) (c : UInt8) (hc : nameB c.toNat = false) : ∀ b ∈ l, b ≠ c := by
 intro b hb e
 subst e
 rw [nameL_bytes h b hb] at hc
 cases hc
theorem tagL_free {l : List UInt8} (h : tagL l = true) : ∀ b ∈ l, b ≠ 58 := by
 intro b hb e
 subst e
 unfold tagL at h
 simp only [Bool.and_eq_true, List.all_eq_true] at h
 have := h.2 _ hb
 revert this
 decide
theorem nameL_mk {l : List UInt8} (h1 : 1 ≤ l.length) (h2 : l.length ≤ 16) (h3 : small (at' l 0) = true) (h4 : small (at' l (l.length - 1)) = true) (h5 : ∀ b ∈ l, nameB b.toNat = true) : nameL l = true := by
 unfold nameL
 simp only [Bool.and_eq_true, decide_eq_true_eq, List.all_eq_true]
 exact ⟨⟨⟨⟨h1, h2⟩, h3⟩, h4⟩, h5⟩
theorem nameL_ends {l : List UInt8} (h : nameL l = true) : small (at' l 0) = true ∧ small (at' l (l.length - 1)) = true := by
 unfold nameL at h
 simp only [Bool.and_eq_true, decide_eq_true_eq] at h
 exact ⟨h.1.1.2, h.1.2⟩
theorem keyL_ref (l : List UInt8) : keyL l = (decide (l.length ≤ 100) && ((pieces 47 l).all nameL && decide ((pieces 47 l).length ≤ 2))) := by
 unfold keyL
 show (nameL (cut l [47]).1 && (!(cut l [47]).2.2 || nameL (cut l [47]).2.1)) = _
 cases h : (cut l [47]).2.2 with
 | false =>
  rw [cut_pieces, h]
  obtain ⟨h1, _⟩ := cut_none 47 l h
  rw [h1]
  cases hn : nameL l with
  | false => simp [hn]
  | true =>
   have := nameL_len hn
   simp [hn]; omega
 | true =>
  have hj := cut_join 47 l h
  have hl := congrArg List.length hj
  rw [cut_pieces, h]; simp only [Bool.not_true, Bool.false_or, if_true, List.all_cons, List.length_cons]
  cases hn : nameL (cut l [47]).1 with
  | false => simp
  | true =>
   have h1 := nameL_len hn
   rw [cut_pieces]
   cases h2 : (cut (cut l [47]).2.1 [47]).2.2 with
   | false =>
    obtain ⟨h3, _⟩ := cut_none 47 _ h2
    rw [h3]
    cases hm : nameL (cut l [47]).2.1 with
    | false => simp [hm]
    | true =>
     have h4 := nameL_len hm
     simp [hm]
     simp at hl
     omega
   | true =>
    have hno : nameL (cut l [47]).2.1 = false := by
     cases hm : nameL (cut l [47]).2.1 with
     | false => rfl
     | true =>
      have := cut_miss 47 _ (nameL_free hm 47 (by decide))
      rw [this] at h2; cases h2
    rw [hno]
    have := pieces_ne 47 (cut (cut l [47]).2.1 [47]).2.1
    have : 1 ≤ (pieces 47 (cut (cut l [47]).2.1 [47]).2.1).length := by
     cases hh : pieces 47 (cut (cut l [47]).2.1 [47]).2.1 with
     | nil => exact absurd hh this
     | cons a b => simp
    simp
    intro _ _ _
    omega
theorem imageL_len {l : List UInt8} (h : imageL l = true) : l.length ≤ 33 := by
 unfold imageL at h
 simp only [Bool.and_eq_true] at h
 have hl := congrArg List.length (cut_join 58 l h.1.1)
 have h1 := h.1.2
 have h2 := h.2
 unfold repoL at h1
 unfold tagL at h2
 simp only [Bool.and_eq_true, decide_eq_true_eq] at h1 h2
 simp at hl
 omega
theorem pieces_two {l : List UInt8} (h : (pieces 58 l).length = 2) : (cut l [58]).2.2 = true ∧ pieces 58 l = [(cut l [58]).1, (cut l [58]).2.1] := by
 rw [cut_pieces] at h ⊢
 cases h1 : (cut l [58]).2.2 with
 | false => rw [h1] at h; simp at h
 | true =>
  rw [h1] at h
  simp only [if_true, List.length_cons] at h ⊢
  rw [cut_pieces] at h ⊢
  cases h2 : (cut (cut l [58]).2.1 [58]).2.2 with
  | false =>
   obtain ⟨h3, _⟩ := cut_none 58 _ h2
   simp [h3]
  | true =>
   rw [h2] at h
   simp only [if_true, List.length_cons] at h
   have := pieces_ne 58 (cut (cut l [58]).2.1 [58]).2.1
   cases hh : pieces 58 (cut (cut l [58]).2.1 [58]).2.1 with
   | nil => exact absurd hh this
   | cons a b => rw [hh] at h; simp at h
theorem imageL_two {l : List UInt8} (h : imageL l = true) : pieces 58 l = [(cut l [58]).1, (cut l [58]).2.1] := by
 unfold imageL at h
 simp only [Bool.and_eq_true] at h
 rw [cut_pieces, h.1.1]
 simp only [if_true]
 rw [cut_pieces, cut_miss 58 _ (tagL_free h.2)]
 simp
end TextPure
end Go.Proofs.YtljbpelogjmciaaGreatDoor
namespace Go.Proofs.YtljbpelogjmciaaGreatDoor
open Go.ChangeShapes Go.WideShapes Go.ChangeAt Go.RowKit
open TextPure
namespace Text
def word : Nat → Nat → Int
 | 1, 1 => 2281701374
 | 2, 0 => 70368744177664
 | 3, 0 => 35184372088832
 | 4, 0 => 287948901175001088
 | 4, 1 => 576460743713488896
 | _, _ => 0
structure Laid (w : World) : Prop where
 max : ∃ m, w.cell? ⟨2, 0, none⟩ = some (.int .i64 m)
 tab : ∀ k q, k < 5 → q < 4 → w.cell? ⟨4, k * 4 + q, none⟩ = some (.int .u64 (word k q))
theorem Laid.below {w w' : World} (h : Laid w) (hb : Below w.heap.size w w') : Laid w' := by
 obtain ⟨⟨m, hm⟩, ht⟩ := h
 refine ⟨⟨m, ?_⟩, fun k q hk hq => ?_⟩
 · rw [hb.cell (World.block_lt_of_cell? _ _ hm)]; exact hm
 · have := ht k q hk hq
   rw [hb.cell (World.block_lt_of_cell? _ _ this)]; exact this
def kindN (n : Nat) : Nat := if small n then 4 else if n == 45 then 3 else if n == 46 then 2 else if (decide (65 ≤ n) && decide (n ≤ 90)) || n == 95 then 1 else 0
def bit (k n : Nat) : Bool := bits BinOp.and IntKind.u64 (word k (n / 64) / 2 ^ (n % 64)) 1 == 1
def kindT (n : Nat) : Bool := (List.range 5).all fun k => !(((List.range k).all fun j => !bit j n) && bit k n) || kindN n == k
def kindF (n : Nat) : Bool := !((List.range 5).all fun j => !bit j n) || kindN n == 0
theorem kinds_told : ((List.range 256).all fun n => kindT n && kindF n) = true := by decide +kernel
theorem kind_hit {n k : Nat} (hn : n < 256) (hk : k < 5) (h : ∀ j, j < k → bit j n = false) (hb : bit k n = true) : kindN n = k := by
 have h1 := List.all_eq_true.1 kinds_told n (List.mem_range.2 hn)
 simp only [Bool.and_eq_true] at h1
 have h2 := List.all_eq_true.1 h1.1 k (List.mem_range.2 hk)
 have h3 : ((List.range k).all fun j => !bit j n) = true := List.all_eq_true.2 fun j hj => by rw [h j (List.mem_range.1 hj)]; rfl
 rw [h3, hb] at h2
 simpa using h2
theorem kind_miss {n : Nat} (hn : n < 256) (h : ∀ j, j < 5 → bit j n = false) : kindN n = 0 := by
 have h1 := List.all_eq_true.1 kinds_told n (List.mem_range.2 hn)
 simp only [Bool.and_eq_true] at h1
 have h2 := h1.2
 unfold kindF at h2
 have h3 : ((List.range 5).all fun j => !bit j n) = true := List.all_eq_true.2 fun j hj => by rw [h j (List.mem_range.1 hj)]; rfl
 rw [h3] at h2
 simpa using h2
theorem kind_any (n : Nat) (hn : n < 256) (w : World) (hL : Laid w) :
 Calls Tryz.prog 224 #[.int .u8 n] w fun e w' => e = .returned (.int .i64 (kindN n : Nat)) ∧ w = w' := by
 have HL := hid hL
 clear hL
 go_enter Tryz.func224, Tryz.ntmps224
 go_wp2_with fail
 go_loop [4] (fun i => ∃ k : Nat, k ≤ 5 ∧ i = .int .i64 k ∧ Hid (∀ j, j < k → bit j n = false)) (fun i => 5 - (intOf i).toNat)
 case atStart => exact ⟨0, by omega, rfl, fun j h => by omega⟩
 case round =>
  obtain ⟨k, hk, rfl, HA⟩ := hrel
  by_cases hlt : k < 5
  · have hc := HL.out.tab k (n / 64) hlt (by omega)
    cases hb : bit k n with
    | true =>
     have hb' : (bits BinOp.and IntKind.u64 (word k (n / 64) / 2 ^ (n % 64)) 1 == 1) = true := hb
     go_wp2_with fail
     go_ret
     exact ⟨by rw [kind_hit hn hlt HA.out hb]; rfl, rfl⟩
    | false =>
     have hb' : (bits BinOp.and IntKind.u64 (word k (n / 64) / 2 ^ (n % 64)) 1 == 1) = false := hb
     go_wp2_with fail
     go_round
     case rel =>
      refine ⟨k + 1, by omega, by go_num, fun j hj => ?_⟩
      by_cases e : j = k
      · subst e; exact hb
      · exact HA.out j (by omega)
     case measure => simp [intOf]; omega
  · obtain rfl : k = 5 := by omega
    go_wp2_with fail
    go_ret
    exact ⟨by rw [kind_miss hn HA.out]; rfl, rfl⟩
def placesN : Nat → Nat
 | 4 => 15
 | 3 => 7
 | 2 => 3
 | 1 => 1
 | _ => 0
theorem places_any (k : Nat) (hk : k < 5) (w : World) :
 Calls Tryz.prog 223 #[.int .i64 k] w fun e w' => e = .returned (.int .i64 (placesN k : Nat)) ∧ w = w' := by
 rcases k with _ | _ | _ | _ | _ | k
 all_goals first | (exfalso; omega) | skip
 all_goals
  go_enter Tryz.func223, Tryz.ntmps223
  go_wp2_with fail
  go_ret
  exact ⟨rfl, rfl⟩
def standN (p n : Nat) : Bool := match p with
 | 1 => valB n
 | 2 => tagB n
 | 4 => nameB n
 | _ => small n
def stands (p n : Nat) : Bool := (bits BinOp.and IntKind.i64 (placesN (kindN n) : Nat) (p : Nat) != 0) == standN p n
theorem stands_told : ((List.range 256).all fun n => stands 1 n && stands 2 n && stands 4 n && stands 8 n) = true := by decide +kernel
theorem stand_eq {p n : Nat} (hn : n < 256) (hp : p = 1 ∨ p = 2 ∨ p = 4 ∨ p = 8) : (bits BinOp.and IntKind.i64 (placesN (kindN n) : Nat) (p : Nat) != 0) = standN p n := by
 have h1 := List.all_eq_true.1 stands_told n (List.mem_range.2 hn)
 simp only [Bool.and_eq_true] at h1
 rcases hp with rfl | rfl | rfl | rfl
 · exact eq_of_beq h1.1.1.1
 · exact eq_of_beq h1.1.1.2
 · exact eq_of_beq h1.1.2
 · exact eq_of_beq h1.2
theorem kind_lt (n : Nat) : kindN n < 5 := by unfold kindN; repeat' split
                                              all_goals omega
theorem may_any (n p : Nat) (hn : n < 256) (hp : p = 1 ∨ p = 2 ∨ p = 4 ∨ p = 8) (w : World) (hL : Laid w) :
 Calls Tryz.prog 200 #[.int .u8 n, .int .i64 p] w fun e w' => e = .returned (.bool (standN p n)) ∧ w = w' := by
 have HL := hid hL
 clear hL
 have HP := hid hp
 clear hp
 have hk := hid (kind_lt n)
 have hst := stand_eq hn HP.out
 go_enter Tryz.func200, Tryz.ntmps200
 go_wp2_with fail
 refine (kind_any n hn _ HL.out).mono ?_
 rintro e w' ⟨rfl, rfl⟩
 go_wp2_with fail
 refine (places_any _ hk.out _).mono ?_
 rintro e w' ⟨rfl, rfl⟩
 go_wp2_with fail
 go_ret
 exact ⟨by rw [← hst]; rfl, rfl⟩
theorem at_byte (s : ByteArray) (k : Nat) (h : k < s.size) : s[k].toNat = at' s.data.toList k := by
 unfold at'
 rw [List.getD_eq_getElem?_getD, List.getElem?_eq_getElem (by simpa using h)]
 simp only [Option.getD_some, Array.getElem_toList]
 rfl
theorem all_at {f : Nat → Bool} (l : List UInt8) : (l.all fun b => f b.toNat) = true ↔ ∀ k, k < l.length → f (at' l k) = true := by
 rw [List.all_eq_true]
 constructor
 · intro h k hk
   unfold at'
   rw [List.getD_eq_getElem?_getD, List.getElem?_eq_getElem hk]
   exact h _ (List.getElem_mem hk)
 · intro h b hb
   obtain ⟨k, hk, rfl⟩ := List.getElem_of_mem hb
   have := h k hk
   unfold at' at this
   rw [List.getD_eq_getElem?_getD, List.getElem?_eq_getElem hk] at this
   exact this
theorem all_not {f : Nat → Bool} {l : List UInt8} {k : Nat} (hk : k < l.length) (h : f (at' l k) = false) : (l.all fun b => f b.toNat) = false := by
 cases hx : l.all fun b => f b.toNat with
 | false => rfl
 | true => rw [(all_at l).1 hx k hk] at h; cases h
def allN (p : Nat) (l : List UInt8) : Bool := l.all fun b => standN p b.toNat
theorem all_any (s : ByteArray) (p : Nat) (hp : p = 1 ∨ p = 2 ∨ p = 4 ∨ p = 8) (hs : s.size ≤ 100) (w : World) (hL : Laid w) :
 Calls Tryz.prog 201 #[.string s, .int .i64 p] w fun e w' => e = .returned (.bool (allN p s.data.toList)) ∧ w = w' := by
 have HL := hid hL
 have HP := hid hp
 clear hp hL
 have hlen : s.data.toList.length = s.size := by rw [Array.length_toList]; rfl
 have HN := hid hlen
 clear hlen
 go_enter Tryz.func201, Tryz.ntmps201
 go_wp2_with fail
 go_loop [8] (fun i => ∃ k : Nat, k ≤ s.size ∧ i = .int .i64 k ∧ Hid (∀ j, j < k → standN p (at' s.data.toList j) = true)) (fun i => s.size - (intOf i).toNat)
 case atStart => exact ⟨0, by omega, rfl, fun j h => by omega⟩
 case round =>
  obtain ⟨k, hk, rfl, HA⟩ := hrel
  by_cases hlt : k < s.size
  · have HB := hid (at_byte s k hlt)
    go_wp2_with fail
    refine (may_any s[k].toNat p s[k].toNat_lt HP.out _ HL.out).mono ?_
    rintro e w' ⟨rfl, rfl⟩
    cases hb : standN p s[k].toNat with
    | true =>
     go_wp2_with fail
     go_round
     case rel =>
      refine ⟨k + 1, by omega, by go_num, fun j hj => ?_⟩
      by_cases e : j = k
      · subst e; rw [← HB.out]; exact hb
      · exact HA.out j (by omega)
     case measure => simp [intOf]; omega
    | false =>
     go_wp2_with fail
     go_ret
     refine ⟨?_, rfl⟩
     rw [show allN p s.data.toList = false from all_not (k := k) (by rw [HN.out]; exact hlt) (by rw [← HB.out]; exact hb)]; rfl
  · obtain rfl : k = s.size := by omega
    go_wp2_with fail
    go_ret
    refine ⟨?_, rfl⟩
    rw [show allN p s.data.toList = true from (all_at s.data.toList).2 (fun j hj => HA.out j (by rw [HN.out] at hj; exact hj))]; rfl
def codeN (ok : Bool) (c : Int) : Int := if ok then 0 else c
theorem unless_any (ok : Bool) (c : Int) (w : World) :
 Calls Tryz.prog 166 #[.bool ok, .int .i64 c] w fun e w' => e = .returned (.int .i64 (codeN ok c)) ∧ w = w' := by
 cases ok
 all_goals
  go_enter Tryz.func166, Tryz.ntmps166
  go_wp2_with fail
  go_ret
  exact ⟨rfl, rfl⟩
theorem size_list (s : ByteArray) : s.data.toList.length = s.size := by rw [Array.length_toList]; rfl
theorem nameL_false {l : List UInt8} (h : ¬ (1 ≤ l.length ∧ l.length ≤ 16)) : nameL l = false := by
 cases hx : nameL l with
 | false => rfl
 | true => exact absurd (nameL_len hx) h
theorem nameL_eq {l : List UInt8} (h1 : 1 ≤ l.length) (h2 : l.length ≤ 16) : nameL l = (standN 8 (at' l 0) && standN 8 (at' l (l.length - 1)) && allN 4 l) := by
 unfold nameL
 rw [decide_eq_true h1, decide_eq_true h2]
 rfl
theorem list_empty {s : ByteArray} (h : 0 < s.size) : s.toList.isEmpty = false := by
 rw [ByteArray.toList_eq]
 have := size_list s
 cases hl : s.data.toList with
 | nil => rw [hl] at this; simp at this; omega
 | cons a b => rfl
theorem isName_any (s : ByteArray) (hs : s.size ≤ maxLen) (w : World) (hL : Laid w) :
 Calls Tryz.prog 167 #[.string s] w fun e w' => e = .returned (.bool (nameL s.data.toList)) ∧ w = w' := by
 unfold maxLen at hs
 have HL := hid hL
 have HN := hid (size_list s)
 clear hL
 by_cases h0 : s.size = 0
 · obtain rfl : s = ⟨#[]⟩ := by cases s with | mk d => simp [ByteArray.size] at h0; simp [h0]
   go_enter Tryz.func167, Tryz.ntmps167
   go_wp2_with fail
   go_ret
   exact ⟨rfl, rfl⟩
 · have hpos : 0 < s.size := by omega
   have hne := list_empty hpos
   by_cases h16 : s.size ≤ 16
   · have HE := hid (nameL_eq (l := s.data.toList) (by rw [HN.out]; exact hpos) (by rw [HN.out]; exact h16))
     have HB0 := hid (at_byte s 0 hpos); have HB1 := hid (at_byte s (s.size - 1) (by omega))
     have hi : (((s.size : Int) - 1).toNat) = s.size - 1 := by omega
     have hlt : s.size - 1 < s.size := by omega
     have hn0 : (0 : Int) ≤ (s.size : Int) - 1 := by omega
     have hn1 : (s.size : Int) - 1 < s.size := by omega
     have hw1 : IntKind.i64.wrap ((s.size : Int) - 1) = (s.size : Int) - 1 := IntWalk.i64_in _ (by omega)
     go_enter Tryz.func167, Tryz.ntmps167
     go_wp2_with fail
     refine (may_any s[0].toNat 8 s[0].toNat_lt (by omega) _ HL.out).mono ?_
     rintro e w' ⟨rfl, rfl⟩
     rw [HN.out, ← HB0.out, ← HB1.out] at HE
     cases hb0 : standN 8 s[0].toNat with
     | false =>
      go_wp2_with fail
      go_ret
      exact ⟨by rw [HE.out, hb0]; rfl, rfl⟩
     | true =>
      go_wp2_with fail
      refine (may_any s[s.size - 1].toNat 8 s[s.size - 1].toNat_lt (by omega) _ HL.out).mono ?_
      rintro e w' ⟨rfl, rfl⟩
      cases hb1 : standN 8 s[s.size - 1].toNat with
      | false =>
       go_wp2_with fail
       go_ret
       exact ⟨by rw [HE.out, hb0, hb1]; rfl, rfl⟩
      | true =>
       go_wp2_with fail
       refine (all_any s 4 (by omega) (by omega) _ HL.out).mono ?_
       rintro e w' ⟨rfl, rfl⟩; go_wp2_with fail
       go_ret
       exact ⟨by rw [HE.out, hb0, hb1]; rfl, rfl⟩
   · have hgt : (16 : Int) < s.size := by omega
     go_enter Tryz.func167, Tryz.ntmps167
     go_wp2_with fail
     go_ret
     exact ⟨by rw [nameL_false (by rw [HN.out]; omega)]; rfl, rfl⟩
theorem valL_eq (l : List UInt8) : valL l = (decide (l.length ≤ 16) && allN 1 l) := rfl
theorem tagL_eq (l : List UInt8) : tagL l = (decide (1 ≤ l.length) && decide (l.length ≤ 8) && allN 2 l) := rfl
theorem isVal_any (s : ByteArray) (hs : s.size ≤ maxLen) (w : World) (hL : Laid w) :
 Calls Tryz.prog 203 #[.string s] w fun e w' => e = .returned (.bool (valL s.data.toList)) ∧ w = w' := by
 unfold maxLen at hs
 have HL := hid hL
 have HN := hid (size_list s)
 clear hL
 have HE := hid (valL_eq s.data.toList)
 rw [HN.out] at HE
 by_cases h16 : s.size ≤ 16
 · have hgt : (s.size : Int) ≤ 16 := by omega
   go_enter Tryz.func203, Tryz.ntmps203
   go_wp2_with fail
   refine (all_any s 1 (by omega) (by omega) _ HL.out).mono ?_
   rintro e w' ⟨rfl, rfl⟩; go_wp2_with fail
   go_ret
   exact ⟨by rw [HE.out, decide_eq_true h16]; rfl, rfl⟩
 · have hgt : ¬ (s.size : Int) ≤ 16 := by omega
   go_enter Tryz.func203, Tryz.ntmps203
   go_wp2_with fail
   go_ret
   exact ⟨by rw [HE.out, decide_eq_false h16]; rfl, rfl⟩
theorem isTag_any (s : ByteArray) (hs : s.size ≤ maxLen) (w : World) (hL : Laid w) :
 Calls Tryz.prog 234 #[.string s] w fun e w' => e = .returned (.bool (tagL s.data.toList)) ∧ w = w' := by
 unfold maxLen at hs
 have HL := hid hL
 have HN := hid (size_list s)
 clear hL
 have HE := hid (tagL_eq s.data.toList)
 rw [HN.out] at HE
 by_cases h0 : s.size = 0
 · obtain rfl : s = ⟨#[]⟩ := by cases s with | mk d => simp [ByteArray.size] at h0; simp [h0]
   go_enter Tryz.func234, Tryz.ntmps234
   go_wp2_with fail
   go_ret
   exact ⟨rfl, rfl⟩
 · have hpos : 0 < s.size := by omega
   have hne := list_empty hpos
   by_cases h16 : s.size ≤ 8
   · have hgt : (s.size : Int) ≤ 8 := by omega
     go_enter Tryz.func234, Tryz.ntmps234
     go_wp2_with fail
     refine (all_any s 2 (by omega) (by omega) _ HL.out).mono ?_
     rintro e w' ⟨rfl, rfl⟩; go_wp2_with fail
     go_ret
     exact ⟨by rw [HE.out, decide_eq_true h16, decide_eq_true (show 1 ≤ s.size by omega)]; rfl, rfl⟩
   · have hgt : ¬ (s.size : Int) ≤ 8 := by omega
     go_enter Tryz.func234, Tryz.ntmps234
     go_wp2_with fail
     go_ret
     exact ⟨by rw [HE.out, decide_eq_false h16, Bool.and_false]; rfl, rfl⟩
def fstB (s : ByteArray) (c : UInt8) : ByteArray := ⟨(Lib.cut s.data.toList [c]).1.toArray⟩
def sndB (s : ByteArray) (c : UInt8) : ByteArray := ⟨(Lib.cut s.data.toList [c]).2.1.toArray⟩
def hasB (s : ByteArray) (c : UInt8) : Bool := (Lib.cut s.data.toList [c]).2.2
theorem fstB_size (s : ByteArray) (c : UInt8) : (fstB s c).size ≤ s.size := by
 have := (cut_len c s.data.toList).1
 rw [size_list] at this
 show (Lib.cut s.data.toList [c]).1.toArray.size ≤ _
 simpa using this
theorem sndB_size (s : ByteArray) (c : UInt8) : (sndB s c).size ≤ s.size := by
 have := (cut_len c s.data.toList).2
 rw [size_list] at this
 show (Lib.cut s.data.toList [c]).2.1.toArray.size ≤ _
 simpa using this
theorem cut_any (s : ByteArray) (c : UInt8) (hs : s.size < 4294967281) (w : World) (hL : Laid w) :
 Calls Tryz.prog 225 #[.string s, .string ⟨#[c]⟩] w fun e w' => e = .returned (.tuple #[.string (fstB s c), .string (sndB s c), .bool (hasB s c)]) ∧ Below w.heap.size w w' := by
 obtain ⟨m, hm⟩ := hL.max
 refine (Any.strings_Cut Tryz.lays145 s ⟨#[c]⟩ m w hs hm).mono ?_
 rintro e w' ⟨rfl, n, rfl⟩
 exact ⟨rfl, Kit.below_drewN _ _ _⟩
theorem keyL_eq (s : ByteArray) : keyL s.data.toList = (nameL (fstB s 47).data.toList && (!hasB s 47 || nameL (sndB s 47).data.toList)) := by
 unfold keyL fstB sndB hasB
 simp
theorem isKey_any (s : ByteArray) (hs : s.size < 4294967281) (w : World) (hL : Laid w) :
 Calls Tryz.prog 202 #[.string s] w fun e w' => e = .returned (.bool (keyL s.data.toList)) ∧ Below w.heap.size w w' := by
 have HE := hid (keyL_eq s)
 have h1 := hid (show (fstB s 47).size ≤ maxLen by have := fstB_size s 47; unfold maxLen; omega)
 have h2 := hid (show (sndB s 47).size ≤ maxLen by have := sndB_size s 47; unfold maxLen; omega)
 have HL := hid hL
 clear hL
 go_enter Tryz.func202, Tryz.ntmps202
 go_wp2_with fail
 refine (cut_any s 47 hs _ HL.out).mono ?_
 rintro e w1 ⟨rfl, hb⟩
 have HB := hid hb
 have HL1 := hid (HL.out.below hb)
 clear hb HL
 go_wp2_with fail
 refine (isName_any (fstB s 47) h1.out _ HL1.out).mono ?_
 rintro e w' ⟨rfl, rfl⟩
 cases hn : nameL (fstB s 47).data.toList with
 | false =>
  go_wp2_with fail
  go_ret
  exact ⟨by rw [HE.out, hn]; rfl, HB.out⟩
 | true =>
  cases hh : hasB s 47 with
  | false =>
   go_wp2_with fail
   go_ret
   exact ⟨by rw [HE.out, hn, hh]; rfl, HB.out⟩
  | true =>
   go_wp2_with fail
   refine (isName_any (sndB s 47) h2.out _ HL1.out).mono ?_
   rintro e w' ⟨rfl, rfl⟩; go_wp2_with fail
   go_ret
   exact ⟨by rw [HE.out, hn, hh]; rfl, HB.out⟩
theorem info_string' : (Tryz.prog.info? 9).map (fun i => (i.zero, i.size, i.bytes)) = some (some (.string ByteArray.empty), 1, 16) := by kernel_rfl
def piecesB (s : ByteArray) (c : UInt8) : List ByteArray := (pieces c s.data.toList).map fun l => ⟨l.toArray⟩
theorem splitB_pieces (s : ByteArray) (c : UInt8) : Lib.splitB ⟨#[c]⟩ 0 (Lib.countB s ⟨#[c]⟩) s = piecesB s c := by
 have h := Lib.splitB_data ⟨#[c]⟩ 0 (Lib.countB s ⟨#[c]⟩) s
 have h2 : Lib.splitK [c] 0 (Lib.countB s ⟨#[c]⟩) s.data.toList = pieces c s.data.toList := splitK_pieces c s.data.toList
 unfold piecesB
 rw [← h2]
 have h3 : (⟨#[c]⟩ : ByteArray).data.toList = [c] := rfl
 rw [h3] at h
 rw [← h, List.map_map]
 have : ((fun l : List UInt8 => (⟨l.toArray⟩ : ByteArray)) ∘ fun x : ByteArray => x.data.toList) = id := by
  funext x
  cases x
  simp
 rw [this, List.map_id]
theorem piecesB_len (s : ByteArray) (c : UInt8) : (piecesB s c).length = Lib.countB s ⟨#[c]⟩ + 1 := by
 rw [← splitB_pieces]
 exact Lib.splitB_all ⟨#[c]⟩ (Nat.le_refl 1) 0 _ s rfl
theorem split_any (s : ByteArray) (c : UInt8) (hs : s.size < 4294967281) (w : World) (hL : Laid w) :
 Calls Tryz.prog 240 #[.string s, .string ⟨#[c]⟩] w fun e w' =>
  e = .returned (.slice (some ⟨w.heap.size, 0, none⟩) (piecesB s c).length (piecesB s c).length) ∧ w' = w.alloc (.cells ((piecesB s c).map Value.string).toArray 9) := by
 obtain ⟨m, hm⟩ := hL.max
 refine (Any.strings_Split Tryz.lays146 info_string' s ⟨#[c]⟩ m w hs hm (Nat.le_refl 1)).mono ?_
 rintro e w' ⟨rfl, rfl⟩
 rw [piecesB_len, splitB_pieces]
 exact ⟨rfl, rfl⟩
theorem pieces_each (c : UInt8) : ∀ (l p : List UInt8), p ∈ pieces c l → p.length ≤ l.length
 | [], p, h => by simp [pieces] at h; simp [h]
 | b :: l, p, h => by
  unfold pieces at h
  split at h
  · rcases List.mem_cons.1 h with rfl | h
    · simp
    · have := pieces_each c l p h; simp; omega
  · split at h
    · rename_i hx; exact absurd hx (pieces_ne c l)
    · rename_i q qs hq
      rcases List.mem_cons.1 h with rfl | h
      · have := pieces_each c l q (by rw [hq]; simp); simp; omega
      · have := pieces_each c l p (by rw [hq]; simp [h]); simp; omega
theorem piecesB_each {s : ByteArray} {c : UInt8} {x : ByteArray} (h : x ∈ piecesB s c) : x.size ≤ s.size := by
 obtain ⟨l, hl, rfl⟩ := List.mem_map.1 h
 have := pieces_each c _ l hl
 rw [size_list] at this
 show l.toArray.size ≤ _
 simpa using this
theorem pieces_count (c : UInt8) : ∀ l : List UInt8, (pieces c l).length ≤ l.length + 1
 | [] => by simp [pieces]
 | b :: l => by
  have := pieces_count c l
  unfold pieces
  split
  · simp; omega
  · split
    · simp
    · rename_i q qs hq; rw [hq] at this; simp at this ⊢; omega
theorem piecesB_count (s : ByteArray) (c : UInt8) : (piecesB s c).length ≤ s.size + 1 := by
 have := pieces_count c s.data.toList
 rw [size_list] at this
 unfold piecesB
 simpa using this
def namesL (l : List ByteArray) : Bool := l.all fun x => nameL x.data.toList
theorem namesL_pieces (s : ByteArray) (c : UInt8) : namesL (piecesB s c) = (pieces c s.data.toList).all nameL := by
 unfold namesL piecesB
 rw [List.all_map]
 rfl
theorem namesL_no {l : List ByteArray} {k : Nat} (hk : k < l.length) (h : nameL l[k].data.toList = false) : namesL l = false := by
 cases hx : namesL l with
 | false => rfl
 | true => rw [List.all_eq_true.1 hx _ (List.getElem_mem hk)] at h; cases h
theorem namesL_yes {l : List ByteArray} (h : ∀ k (hk : k < l.length), nameL l[k].data.toList = true) : namesL l = true := by
 refine List.all_eq_true.2 fun x hx => ?_
 obtain ⟨k, hk, rfl⟩ := List.getElem_of_mem hx
 exact h k hk
theorem repoL_eq (s : ByteArray) : repoL s.data.toList = (decide (s.size ≤ 24) && namesL (piecesB s 47)) := by
 unfold repoL
 rw [size_list, namesL_pieces]
set_option maxHeartbeats 1000000 in
theorem isRepo_any (s : ByteArray) (hs : s.size < 4294967281) (w : World) (hL : Laid w) :
 Calls Tryz.prog 233 #[.string s] w fun e w' => e = .returned (.bool (repoL s.data.toList)) ∧ Below w.heap.size w w' := by
 have HE := hid (repoL_eq s)
 have HL := hid hL
 clear hL
 by_cases h24 : s.size ≤ 24
 · rw [decide_eq_true h24, Bool.true_and] at HE
   have hgt : ¬ (24 : Int) < s.size := by omega
   go_enter Tryz.func233, Tryz.ntmps233
   go_wp2_with fail
   refine (split_any s 47 hs _ HL.out).mono ?_
   rintro e w1 ⟨rfl, hw1⟩
   have hb1 : Below w.heap.size w w1 := by rw [hw1]; exact (Below.refl _ _).alloc (Nat.le_refl _) _
   have HL1 := hid (HL.out.below hb1)
   have HB1 := hid hb1
   have hcell : ∀ k (hk : k < (piecesB s 47).length), w1.cell? ⟨w.heap.size, k, none⟩ = some (.string (piecesB s 47)[k]) := by
    intro k hk
    rw [hw1]
    simp [hk]
   have HC := hid hcell
   have hP := piecesB_count s 47
   have HZ := hid (fun k (hk : k < (piecesB s 47).length) => piecesB_each (List.getElem_mem hk)); clear hcell hb1 hw1 HL
   generalize piecesB s 47 = ps at *
   go_wp2_with fail
   go_loop [11] (fun i => ∃ k : Nat, k ≤ ps.length ∧ i = .int .i64 k ∧ Hid (∀ j (hj : j < ps.length), j < k → nameL ps[j].data.toList = true)) (fun i => ps.length - (intOf i).toNat)
   case atStart => exact ⟨0, by omega, rfl, fun j _ h => by omega⟩
   case round =>
    obtain ⟨k, hk, rfl, HA⟩ := hrel
    by_cases hlt : k < ps.length
    · have hc := HC.out k hlt
      have hz := HZ.out k hlt
      go_wp2_with fail
      refine (isName_any ps[k] (by unfold maxLen; omega) _ HL1.out).mono ?_
      rintro e w' ⟨rfl, rfl⟩
      cases hn : nameL ps[k].data.toList with
      | false =>
       go_wp2_with fail
       go_ret
       exact ⟨by rw [HE.out, namesL_no hlt hn]; rfl, HB1.out⟩
      | true =>
       go_wp2_with fail
       go_round
       case rel =>
        refine ⟨k + 1, by omega, by go_num, fun j hj hj' => ?_⟩
        by_cases e : j = k
        · subst e; exact hn
        · exact HA.out j hj (by omega)
       case measure => simp [intOf]; omega
    · obtain rfl : k = ps.length := by omega
      go_wp2_with fail
      go_ret
      exact ⟨by rw [HE.out, namesL_yes (fun j hj => HA.out j hj hj)]; rfl, HB1.out⟩
 · have hgt : (24 : Int) < s.size := by omega
   go_enter Tryz.func233, Tryz.ntmps233
   go_wp2_with fail
   go_ret
   exact ⟨by rw [HE.out, decide_eq_false h24]; rfl, Below.refl _ _⟩
def imageB (s : ByteArray) : Bool := imageL s.data.toList
theorem imageB_eq (s : ByteArray) : imageB s = (hasB s 58 && repoL (fstB s 58).data.toList && tagL (sndB s 58).data.toList) := by
 unfold imageB imageL fstB sndB hasB
 simp
theorem parts_any (s : ByteArray) (hs : s.size < 4294967281) (w : World) (hL : Laid w) :
 Calls Tryz.prog 220 #[.string s] w fun e w' => e = .returned (.tuple #[.string (fstB s 58), .string (sndB s 58), .bool (imageB s)]) ∧ Below w.heap.size w w' := by
 have HE := hid (imageB_eq s)
 have h1 := hid (show (fstB s 58).size < 4294967281 by have := fstB_size s 58; omega)
 have h2 := hid (show (sndB s 58).size ≤ maxLen by have := sndB_size s 58; unfold maxLen; omega)
 have HL := hid hL
 clear hL
 go_enter Tryz.func220, Tryz.ntmps220
 go_wp2_with fail
 refine (cut_any s 58 hs _ HL.out).mono ?_
 rintro e w1 ⟨rfl, hb⟩
 have HB := hid hb
 have HL1 := hid (HL.out.below hb)
 clear hb HL
 cases hh : hasB s 58 with
 | false =>
  go_wp2_with fail
  go_ret3
  exact ⟨by rw [HE.out, hh]; rfl, HB.out⟩
 | true =>
  go_wp2_with fail
  refine (isRepo_any (fstB s 58) h1.out _ HL1.out).mono ?_
  rintro e w2 ⟨rfl, hb2⟩; have HB2 := hid (HB.out.trans (hb2.mono HB.out.size)); have HL2 := hid (HL1.out.below hb2); clear hb2 HL1 HB
  cases hr : repoL (fstB s 58).data.toList with
  | false =>
   go_wp2_with fail
   go_ret3
   exact ⟨by rw [HE.out, hh, hr]; rfl, HB2.out⟩
  | true =>
   go_wp2_with fail
   refine (isTag_any (sndB s 58) h2.out _ HL2.out).mono ?_
   rintro e w' ⟨rfl, rfl⟩; go_wp2_with fail
   go_ret3
   exact ⟨by rw [HE.out, hh, hr]; rfl, HB2.out⟩
theorem name_any (s : ByteArray) (hs : s.size ≤ maxLen) (w : World) (hL : Laid w) :
 Calls Tryz.prog 132 #[.string s] w fun e w' => e = .returned (.int .i64 (codeN (nameL s.data.toList) 30)) ∧ w = w' := by
 have HL := hid hL
 clear hL
 go_enter Tryz.func132, Tryz.ntmps132
 go_wp2_with fail
 refine (isName_any s hs _ HL.out).mono ?_
 rintro e w' ⟨rfl, rfl⟩
 go_wp2_with fail
 refine (unless_any _ _ _).mono ?_
 rintro e w' ⟨rfl, rfl⟩
 go_wp2_with fail
 go_ret
 exact ⟨rfl, rfl⟩
theorem val_any (s : ByteArray) (hs : s.size ≤ maxLen) (w : World) (hL : Laid w) :
 Calls Tryz.prog 169 #[.string s] w fun e w' => e = .returned (.int .i64 (codeN (valL s.data.toList) 32)) ∧ w = w' := by
 have HL := hid hL
 clear hL
 go_enter Tryz.func169, Tryz.ntmps169
 go_wp2_with fail
 refine (isVal_any s hs _ HL.out).mono ?_
 rintro e w' ⟨rfl, rfl⟩
 go_wp2_with fail
 refine (unless_any _ _ _).mono ?_
 rintro e w' ⟨rfl, rfl⟩
 go_wp2_with fail
 go_ret
 exact ⟨rfl, rfl⟩
theorem key_any (s : ByteArray) (hs : s.size < 4294967281) (w : World) (hL : Laid w) :
 Calls Tryz.prog 168 #[.string s] w fun e w' => e = .returned (.int .i64 (codeN (keyL s.data.toList) 31)) ∧ Below w.heap.size w w' := by
 have HL := hid hL
 clear hL
 go_enter Tryz.func168, Tryz.ntmps168
 go_wp2_with fail
 refine (isKey_any s hs _ HL.out).mono ?_
 rintro e w1 ⟨rfl, hb⟩
 go_wp2_with fail
 refine (unless_any _ _ _).mono ?_
 rintro e w' ⟨rfl, rfl⟩
 go_wp2_with fail
 go_ret
 exact ⟨rfl, hb⟩
theorem image_any (s : ByteArray) (hs : s.size < 4294967281) (w : World) (hL : Laid w) :
 Calls Tryz.prog 195 #[.string s] w fun e w' => e = .returned (.int .i64 (codeN (imageB s) 33)) ∧ Below w.heap.size w w' := by
 have HL := hid hL
 clear hL
 go_enter Tryz.func195, Tryz.ntmps195
 go_wp2_with fail
 refine (parts_any s hs _ HL.out).mono ?_
 rintro e w1 ⟨rfl, hb⟩
 go_wp2_with fail
 refine (unless_any _ _ _).mono ?_
 rintro e w' ⟨rfl, rfl⟩
 go_wp2_with fail
 go_ret
 exact ⟨rfl, hb⟩
def repoB (s : ByteArray) : ByteArray := if imageB s then fstB s 58 else ⟨#[]⟩
def tagB' (s : ByteArray) : ByteArray := if imageB s then sndB s 58 else ⟨#[]⟩
end Text
end Go.Proofs.YtljbpelogjmciaaGreatDoor
