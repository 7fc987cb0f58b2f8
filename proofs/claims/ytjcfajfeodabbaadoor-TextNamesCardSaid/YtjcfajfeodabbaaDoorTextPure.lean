/-
  What names, keys, values and images are, as plain functions of lists of bytes; that what stands between the bytes c is what strings.Cut and strings.Split tell. No condition.
-/
import Derived.Lib.SplitLaws
import Derived.Lib.CutLaws
namespace Go.Proofs.YtjcfajfeodabbaaDoor
open Go.Lib
namespace TextPure

def small (n : Nat) : Bool := (decide (97 ≤ n) && decide (n ≤ 122)) || (decide (48 ≤ n) && decide (n ≤ 57))
def nameB (n : Nat) : Bool := small n || n == 45
def tagB (n : Nat) : Bool := nameB n || n == 46
def valB (n : Nat) : Bool := tagB n || (decide (65 ≤ n) && decide (n ≤ 90)) || n == 95

theorem nameB_tag {n : Nat} (h : nameB n = true) : tagB n = true := by simp [tagB, h]
theorem nameB_val {n : Nat} (h : nameB n = true) : valB n = true := by simp [valB, nameB_tag h]
theorem small_name {n : Nat} (h : small n = true) : nameB n = true := by simp [nameB, h]
theorem small_iff {n : Nat} (h : nameB n = true) : small n = !(n == 45) := by
  unfold nameB at h
  by_cases e : n = 45
  · subst e; decide
  · have : (n == 45) = false := by simpa using e
    rw [this] at h ⊢
    simpa using h

/-- the n-th byte as a number -/
def at' (l : List UInt8) (k : Nat) : Nat := (l.getD k 0).toNat

def nameL (l : List UInt8) : Bool := decide (1 ≤ l.length) && decide (l.length ≤ 16) && small (at' l 0) && small (at' l (l.length - 1)) && l.all fun b => nameB b.toNat
def valL (l : List UInt8) : Bool := decide (l.length ≤ 16) && l.all fun b => valB b.toNat
def tagL (l : List UInt8) : Bool := decide (1 ≤ l.length) && decide (l.length ≤ 8) && l.all fun b => tagB b.toNat
/-- what stands between the bytes c -/
def pieces (c : UInt8) : List UInt8 → List (List UInt8)
  | [] => [[]]
  | b :: l => if b = c then [] :: pieces c l else match pieces c l with
    | [] => [[b]]
    | p :: ps => (b :: p) :: ps
def repoL (l : List UInt8) : Bool := decide (l.length ≤ 24) && (pieces 47 l).all nameL
def keyL (l : List UInt8) : Bool := (cut l [47]).1 |> nameL |> (· && (!(cut l [47]).2.2 || nameL (cut l [47]).2.1))
def imageL (l : List UInt8) : Bool := (cut l [58]).2.2 && repoL (cut l [58]).1 && tagL (cut l [58]).2.1

theorem pieces_ne (c : UInt8) (l : List UInt8) : pieces c l ≠ [] := by
  cases l with
  | nil => simp [pieces]
  | cons b l =>
    unfold pieces
    split
    · simp
    · split <;> simp

/-- one byte more at the end -/
theorem pieces_snoc (c b : UInt8) : ∀ l : List UInt8, pieces c (l ++ [b]) = if b = c then pieces c l ++ [[]] else (pieces c l).dropLast ++ [((pieces c l).getLast?.getD []) ++ [b]]
  | [] => by
    by_cases h : b = c
    · simp [pieces, h]
    · simp [pieces, h]
  | x :: l => by
    have ih := pieces_snoc c b l
    show pieces c (x :: (l ++ [b])) = _
    by_cases hx : x = c
    · rw [pieces, if_pos hx, ih]
      rw [show pieces c (x :: l) = [] :: pieces c l by rw [pieces, if_pos hx]]
      split
      · rfl
      · rw [List.dropLast_cons_of_ne_nil (pieces_ne c l), List.getLast?_cons]
        rw [List.getLast?_eq_some_getLast (pieces_ne c l)]
        simp
    · rw [pieces, if_neg hx, ih]
      obtain ⟨p, ps, hp⟩ : ∃ p ps, pieces c l = p :: ps := by
        cases h : pieces c l with
        | nil => exact absurd h (pieces_ne c l)
        | cons p ps => exact ⟨p, ps, rfl⟩
      rw [show pieces c (x :: l) = (x :: p) :: ps by rw [pieces, if_neg hx, hp], hp]
      by_cases hb : b = c
      · simp [hb]
      · rw [if_neg hb, if_neg hb]
        cases ps with
        | nil => simp
        | cons q qs => simp [List.getLast?_cons]

theorem index_cons_eq (c : UInt8) (l : List UInt8) : index (c :: l) [c] = 0 := by rw [index]; simp [List.isPrefixOf]
theorem index_cons_ne {b c : UInt8} (l : List UInt8) (h : b ≠ c) : index (b :: l) [c] = if index l [c] == -1 then -1 else index l [c] + 1 := by
  have hp : ([c] : List UInt8).isPrefixOf (b :: l) = false := by simp [List.isPrefixOf, Ne.symm h]
  rw [index, hp]; simp

/-- strings.Cut and the pieces -/
theorem cut_cons_eq (c : UInt8) (l : List UInt8) : cut (c :: l) [c] = ([], l, true) := by unfold cut; rw [index_cons_eq]; simp
theorem cut_cons_ne {b c : UInt8} (l : List UInt8) (h : b ≠ c) : cut (b :: l) [c] = (b :: (cut l [c]).1, (cut l [c]).2.1, (cut l [c]).2.2) := by
  have hge := index_ge l [c]
  unfold cut
  rw [index_cons_ne l h]
  by_cases hm : index l [c] = -1
  · simp [hm]
  · have h0 : 0 ≤ index l [c] := by omega
    have h1 : 0 ≤ index l [c] + 1 := by omega
    have e1 : (index l [c] + 1).toNat = (index l [c]).toNat + 1 := by omega
    have hb : (index l [c] == -1) = false := by simpa using hm
    rw [hb]
    simp only [Bool.false_eq_true, if_false]
    rw [if_pos h1, if_pos h0, e1]
    simp
theorem cut_nil (c : UInt8) : cut [] [c] = ([], [], false) := by simp [cut, index]

theorem cut_pieces (c : UInt8) : ∀ l : List UInt8, pieces c l = if (cut l [c]).2.2 then (cut l [c]).1 :: pieces c (cut l [c]).2.1 else [(cut l [c]).1]
  | [] => by simp [cut_nil, pieces]
  | b :: l => by
    by_cases h : b = c
    · subst h; rw [cut_cons_eq]; simp [pieces]
    · rw [cut_cons_ne l h, pieces, if_neg h, cut_pieces c l]
      cases (cut l [c]).2.2 <;> simp

theorem cut_miss (c : UInt8) : ∀ l : List UInt8, (∀ b ∈ l, b ≠ c) → cut l [c] = (l, [], false)
  | [], _ => cut_nil c
  | b :: l, h => by
    rw [cut_cons_ne l (h b (by simp)), cut_miss c l (fun x hx => h x (by simp [hx]))]

theorem cut_hit (c : UInt8) (r : List UInt8) : ∀ l : List UInt8, (∀ b ∈ l, b ≠ c) → cut (l ++ c :: r) [c] = (l, r, true)
  | [], _ => cut_cons_eq c r
  | b :: l, h => by
    show cut (b :: (l ++ c :: r)) [c] = _
    rw [cut_cons_ne _ (h b (by simp)), cut_hit c r l (fun x hx => h x (by simp [hx]))]

theorem cut_join (c : UInt8) : ∀ l : List UInt8, (cut l [c]).2.2 = true → l = (cut l [c]).1 ++ c :: (cut l [c]).2.1
  | [], h => by rw [cut_nil] at h; cases h
  | b :: l, h => by
    by_cases hb : b = c
    · subst hb; rw [cut_cons_eq]; rfl
    · rw [cut_cons_ne l hb] at h ⊢
      have := cut_join c l h
      simp only [List.cons_append]
      rw [← this]

theorem cut_none (c : UInt8) : ∀ l : List UInt8, (cut l [c]).2.2 = false → (cut l [c]).1 = l ∧ (cut l [c]).2.1 = []
  | [], _ => by rw [cut_nil]; exact ⟨rfl, rfl⟩
  | b :: l, h => by
    by_cases hb : b = c
    · subst hb; rw [cut_cons_eq] at h; cases h
    · rw [cut_cons_ne l hb] at h ⊢
      have := cut_none c l h
      exact ⟨by simp [this.1], this.2⟩

theorem cut_free (c : UInt8) : ∀ l : List UInt8, ∀ b ∈ (cut l [c]).1, b ≠ c
  | [], b, h => by rw [cut_nil] at h; simp at h
  | x :: l, b, h => by
    by_cases hb : x = c
    · subst hb; rw [cut_cons_eq] at h; simp at h
    · rw [cut_cons_ne l hb] at h
      rcases List.mem_cons.1 h with rfl | h
      · exact hb
      · exact cut_free c l b h

theorem cut_len (c : UInt8) (l : List UInt8) : (cut l [c]).1.length ≤ l.length ∧ (cut l [c]).2.1.length ≤ l.length := by
  cases h : (cut l [c]).2.2 with
  | true =>
    have := congrArg List.length (cut_join c l h)
    simp at this
    omega
  | false =>
    obtain ⟨h1, h2⟩ := cut_none c l h
    rw [h1, h2]; simp

/-- strings.Split's pieces -/
theorem splitK_pieces (c : UInt8) : ∀ l : List UInt8, splitK [c] 0 (count l [c]) l = pieces c l
  | [] => by rw [count_miss (by simp [index])]; rfl
  | b :: l => by
    have ih := splitK_pieces c l
    by_cases h : b = c
    · subst h
      rw [count_cons_eq, Nat.add_comm, splitK, index_cons_eq, pieces, if_pos rfl]
      simp only [show ((0 : Int) == -1) = false from rfl, Bool.false_eq_true, if_false]
      simp [ih]
    · rw [count_cons_ne b c l h, pieces, if_neg h, ← ih]
      have hge := index_ge l [c]
      have hix := index_cons_ne l h
      by_cases hm : index l [c] = -1
      · rw [count_miss hm]; rfl
      · obtain ⟨j, hj⟩ : ∃ j : Nat, index l [c] = j := ⟨(index l [c]).toNat, by omega⟩
        have hj1 : index (b :: l) [c] = ((j + 1 : Nat) : Int) := by rw [hix, if_neg (by simpa using hm), hj]; omega
        rw [count_hit (by simp) hj, Nat.add_comm]
        have n1 : (index (b :: l) [c] == -1) = false := by rw [hj1]; exact beq_false_of_ne (by omega)
        have n2 : (index l [c] == -1) = false := by rw [hj]; exact beq_false_of_ne (by omega)
        rw [splitK, n1, splitK, n2, hj1, hj]
        simp

theorem nameL_bytes {l : List UInt8} (h : nameL l = true) : ∀ b ∈ l, nameB b.toNat = true := by
  unfold nameL at h
  simp only [Bool.and_eq_true, List.all_eq_true] at h
  exact h.2
theorem nameL_len {l : List UInt8} (h : nameL l = true) : 1 ≤ l.length ∧ l.length ≤ 16 := by
  unfold nameL at h
  simp only [Bool.and_eq_true, decide_eq_true_eq] at h
  exact h.1.1.1
theorem nameL_free {l : List UInt8} (h : nameL l = true) (c : UInt8) (hc : nameB c.toNat = false) : ∀ b ∈ l, b ≠ c := by
  intro b hb e
  subst e
  rw [nameL_bytes h b hb] at hc
  cases hc
theorem tagL_free {l : List UInt8} (h : tagL l = true) : ∀ b ∈ l, b ≠ 58 := by
  intro b hb e
  subst e
  unfold tagL at h
  simp only [Bool.and_eq_true, List.all_eq_true] at h
  have := h.2 _ hb
  revert this
  decide

theorem nameL_mk {l : List UInt8} (h1 : 1 ≤ l.length) (h2 : l.length ≤ 16) (h3 : small (at' l 0) = true) (h4 : small (at' l (l.length - 1)) = true) (h5 : ∀ b ∈ l, nameB b.toNat = true) : nameL l = true := by
  unfold nameL
  simp only [Bool.and_eq_true, decide_eq_true_eq, List.all_eq_true]
  exact ⟨⟨⟨⟨h1, h2⟩, h3⟩, h4⟩, h5⟩
theorem nameL_ends {l : List UInt8} (h : nameL l = true) : small (at' l 0) = true ∧ small (at' l (l.length - 1)) = true := by
  unfold nameL at h
  simp only [Bool.and_eq_true, decide_eq_true_eq] at h
  exact ⟨h.1.1.2, h.1.2⟩

/-- the document's key -/
theorem keyL_ref (l : List UInt8) : keyL l = (decide (l.length ≤ 100) && ((pieces 47 l).all nameL && decide ((pieces 47 l).length ≤ 2))) := by
  unfold keyL
  show (nameL (cut l [47]).1 && (!(cut l [47]).2.2 || nameL (cut l [47]).2.1)) = _
  cases h : (cut l [47]).2.2 with
  | false =>
    rw [cut_pieces, h]
    obtain ⟨h1, _⟩ := cut_none 47 l h
    rw [h1]
    cases hn : nameL l with
    | false => simp [hn]
    | true =>
      have := nameL_len hn
      simp [hn]; omega
  | true =>
    have hj := cut_join 47 l h
    have hl := congrArg List.length hj
    rw [cut_pieces, h]
    simp only [Bool.not_true, Bool.false_or, if_true, List.all_cons, List.length_cons]
    cases hn : nameL (cut l [47]).1 with
    | false => simp
    | true =>
      have h1 := nameL_len hn
      rw [cut_pieces]
      cases h2 : (cut (cut l [47]).2.1 [47]).2.2 with
      | false =>
        obtain ⟨h3, _⟩ := cut_none 47 _ h2
        rw [h3]
        cases hm : nameL (cut l [47]).2.1 with
        | false => simp [hm]
        | true =>
          have h4 := nameL_len hm
          simp [hm]
          simp at hl
          omega
      | true =>
        have hno : nameL (cut l [47]).2.1 = false := by
          cases hm : nameL (cut l [47]).2.1 with
          | false => rfl
          | true =>
            have := cut_miss 47 _ (nameL_free hm 47 (by decide))
            rw [this] at h2; cases h2
        rw [hno]
        have := pieces_ne 47 (cut (cut l [47]).2.1 [47]).2.1
        have : 1 ≤ (pieces 47 (cut (cut l [47]).2.1 [47]).2.1).length := by
          cases hh : pieces 47 (cut (cut l [47]).2.1 [47]).2.1 with
          | nil => exact absurd hh this
          | cons a b => simp
        simp
        intro _ _ _
        omega

theorem imageL_len {l : List UInt8} (h : imageL l = true) : l.length ≤ 33 := by
  unfold imageL at h
  simp only [Bool.and_eq_true] at h
  have hl := congrArg List.length (cut_join 58 l h.1.1)
  have h1 := h.1.2
  have h2 := h.2
  unfold repoL at h1
  unfold tagL at h2
  simp only [Bool.and_eq_true, decide_eq_true_eq] at h1 h2
  simp at hl
  omega

/-- two pieces at the colon -/
theorem pieces_two {l : List UInt8} (h : (pieces 58 l).length = 2) : (cut l [58]).2.2 = true ∧ pieces 58 l = [(cut l [58]).1, (cut l [58]).2.1] := by
  rw [cut_pieces] at h ⊢
  cases h1 : (cut l [58]).2.2 with
  | false => rw [h1] at h; simp at h
  | true =>
    rw [h1] at h
    simp only [if_true, List.length_cons] at h ⊢
    rw [cut_pieces] at h ⊢
    cases h2 : (cut (cut l [58]).2.1 [58]).2.2 with
    | false =>
      obtain ⟨h3, _⟩ := cut_none 58 _ h2
      simp [h3]
    | true =>
      rw [h2] at h
      simp only [if_true, List.length_cons] at h
      have := pieces_ne 58 (cut (cut l [58]).2.1 [58]).2.1
      cases hh : pieces 58 (cut (cut l [58]).2.1 [58]).2.1 with
      | nil => exact absurd hh this
      | cons a b => rw [hh] at h; simp at h

theorem imageL_two {l : List UInt8} (h : imageL l = true) : pieces 58 l = [(cut l [58]).1, (cut l [58]).2.1] := by
  unfold imageL at h
  simp only [Bool.and_eq_true] at h
  rw [cut_pieces, h.1.1]
  simp only [if_true]
  rw [cut_pieces, cut_miss 58 _ (tagL_free h.2)]
  simp
end TextPure
end Go.Proofs.YtjcfajfeodabbaaDoor
