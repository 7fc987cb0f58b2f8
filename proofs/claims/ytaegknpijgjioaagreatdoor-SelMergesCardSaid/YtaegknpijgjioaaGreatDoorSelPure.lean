/-
  The document's words of selectors, in plain functions: their text, what is read of a text, which labels fit, both together. No condition.
-/
import Derived.Test.YtaegknpijgjioaaGreatDoorSpecRefAll
import Derived.Test.YtaegknpijgjioaaGreatDoorSpecDataAll
import Derived.Lib.Bytealg
namespace Go.Proofs.YtaegknpijgjioaaGreatDoor
open Go.Lib
namespace Sl
open TextPure Sd Book

/-- one label's text -/
def lab (x : Lbl) : List UInt8 := x.key.data.toList ++ 61 :: x.val.data.toList
/-- labels' text -/
def textL : List Lbl → List UInt8
  | [] => []
  | [x] => lab x
  | x :: y :: l => lab x ++ 44 :: textL (y :: l)
/-- the label of a part -/
def cutL (p : List UInt8) : Option Lbl := if (cut p [61]).2.2 then some ⟨⟨(cut p [61]).1.toArray⟩, ⟨(cut p [61]).2.1.toArray⟩⟩ else none
def allL : List (List UInt8) → Option (List Lbl)
  | [] => some []
  | p :: r => match cutL p, allL r with
    | some x, some l => some (x :: l)
    | _, _ => none
def labelsOf (s : List UInt8) : Option (List Lbl) := if s = [] then some [] else allL (pieces 44 s)
def parseV (s : List UInt8) : List Lbl × Int := match labelsOf s with
  | none => ([], 3)
  | some l => if (labelsV ⟨#[]⟩ l).1 = 0 then (l, 0) else ([], (labelsV ⟨#[]⟩ l).1)
theorem from_code (n m : ByteArray) : ∀ (l : List Lbl) (i j : Nat) (p : Option Lbl), (labelsFrom n i p l).1 = (labelsFrom m j p l).1
  | [], _, _, _ => rfl
  | x :: l, i, j, p => by
    rw [labelsFrom_cons, labelsFrom_cons]
    split
    · rfl
    · split
      · rfl
      · split
        · rfl
        · exact from_code n m l _ _ _
theorem code_any (n m : ByteArray) (l : List Lbl) : (labelsV n l).1 = (labelsV m l).1 := by
  unfold labelsV
  split
  · rfl
  · exact from_code n m l _ _ _
theorem code_take (n m : ByteArray) (l : List Lbl) : (labelsV n (l.take 5)).1 = (labelsV m l).1 := by
  by_cases h : l.length ≤ 5
  · rw [List.take_of_length_le h]; exact code_any n m l
  · unfold labelsV
    rw [if_pos (by rw [List.length_take]; omega), if_pos (by omega)]
theorem cutL_lab {p : List UInt8} {x : Lbl} (h : cutL p = some x) : lab x = p := by
  unfold cutL at h
  split at h
  · rename_i hc
    injection h with h
    subst h
    exact (cut_join 61 p hc).symm
  · cases h
theorem lab_cut {x : Lbl} (h : ∀ b ∈ x.key.data.toList, b ≠ 61) : cutL (lab x) = some x := by
  unfold cutL lab
  rw [cut_hit 61 _ _ h]
  simp
theorem lab_ne (x : Lbl) : lab x ≠ [] := by unfold lab; simp
theorem textL_ne {l : List Lbl} (h : l ≠ []) : textL l ≠ [] := by
  match l, h with
  | [x], _ => exact lab_ne x
  | x :: y :: l, _ => simp [textL]
/-- pieces of a part that is free, and what stands behind -/
theorem pieces_cons (c : UInt8) (r : List UInt8) : ∀ p : List UInt8, (∀ b ∈ p, b ≠ c) → pieces c (p ++ c :: r) = p :: pieces c r := by
  intro p hp
  rw [cut_pieces, cut_hit c r p hp]
  rfl
theorem pieces_free (c : UInt8) (p : List UInt8) (hp : ∀ b ∈ p, b ≠ c) : pieces c p = [p] := by
  rw [cut_pieces, cut_miss c p hp]
  rfl
theorem pieces_text : ∀ l : List Lbl, l ≠ [] → (∀ x ∈ l, ∀ b ∈ lab x, b ≠ 44) → pieces 44 (textL l) = l.map lab
  | [x], _, h => by
    rw [textL, pieces_free 44 _ (h x (by simp))]; rfl
  | x :: y :: l, _, h => by
    rw [textL, pieces_cons 44 _ _ (h x (by simp)), pieces_text (y :: l) (by simp) (fun z hz => h z (by simp [hz]))]
    rfl
theorem allL_lab : ∀ l : List Lbl, (∀ x ∈ l, ∀ b ∈ x.key.data.toList, b ≠ 61) → allL (l.map lab) = some l
  | [], _ => rfl
  | x :: l, h => by
    rw [List.map_cons, allL, lab_cut (h x (by simp)), allL_lab l (fun z hz => h z (by simp [hz]))]
/-- the text of what was read is what was read -/
theorem allL_text : ∀ (ps : List (List UInt8)) (l : List Lbl), allL ps = some l → l.map lab = ps
  | [], l, h => by injection h with h; subst h; rfl
  | p :: r, l, h => by
    rw [allL] at h
    cases hp : cutL p with
    | none => rw [hp] at h; cases h
    | some x =>
      rw [hp] at h
      cases hr : allL r with
      | none => rw [hr] at h; cases h
      | some l' =>
        rw [hr] at h
        injection h with h
        subst h
        rw [List.map_cons, cutL_lab hp, allL_text r l' hr]
def joinC (c : UInt8) : List (List UInt8) → List UInt8
  | [] => []
  | [x] => x
  | x :: y :: l => x ++ c :: joinC c (y :: l)
theorem textL_join : ∀ l : List Lbl, textL l = joinC 44 (l.map lab)
  | [] => rfl
  | [x] => rfl
  | x :: y :: l => by rw [textL, textL_join (y :: l)]; rfl
theorem join_pieces (c : UInt8) : ∀ (n : Nat) (l : List UInt8), l.length ≤ n → joinC c (pieces c l) = l := by
  intro n
  induction n with
  | zero => intro l h; have : l = [] := List.length_eq_zero_iff.1 (by omega); subst this; rfl
  | succ n ih =>
    intro l h
    rw [cut_pieces]
    split
    · rename_i hc
      have hj := cut_join c l hc
      have hl : (cut l [c]).2.1.length ≤ n := by
        have := congrArg List.length hj
        simp at this
        omega
      have hi := ih _ hl
      cases hp : pieces c (cut l [c]).2.1 with
      | nil => exact absurd hp (pieces_ne c _)
      | cons q r =>
        rw [hp] at hi
        rw [joinC, hi]
        exact hj.symm
    · rename_i hc
      exact (cut_none c l (by simpa using hc)).1
theorem labels_text {s : List UInt8} {l : List Lbl} (h : labelsOf s = some l) : textL l = s := by
  unfold labelsOf at h
  split at h
  · rename_i e; injection h with h; subst h; exact e.symm
  · rw [textL_join, allL_text _ _ h, join_pieces 44 _ s (Nat.le_refl _)]
/-- no , and no = in a key, no , in a value -/
theorem keyL_free {l : List UInt8} (h : keyL l = true) (c : UInt8) (hc : nameB c.toNat = false) (h47 : c ≠ 47) : ∀ b ∈ l, b ≠ c := by
  intro b hb e
  subst e
  unfold keyL at h
  cases hx : (cut l [47]).2.2 with
  | true =>
    rw [hx] at h
    simp only [Bool.not_true, Bool.false_or, Bool.and_eq_true] at h
    rw [cut_join 47 l hx] at hb
    rcases List.mem_append.1 hb with hb | hb
    · exact nameL_free h.1 b hc b hb rfl
    · rcases List.mem_cons.1 hb with hb | hb
      · exact h47 hb
      · exact nameL_free h.2 b hc b hb rfl
  | false =>
    rw [hx] at h
    simp only [Bool.not_false, Bool.true_or, Bool.and_true] at h
    rw [(cut_none 47 l hx).1] at h
    exact nameL_free h b hc b hb rfl
theorem keyL_len {l : List UInt8} (h : keyL l = true) : l.length ≤ 33 := by
  unfold keyL at h
  cases hx : (cut l [47]).2.2 with
  | true =>
    rw [hx] at h
    simp only [Bool.not_true, Bool.false_or, Bool.and_eq_true] at h
    have h1 := (nameL_len h.1).2
    have h2 := (nameL_len h.2).2
    have := congrArg List.length (cut_join 47 l hx)
    simp at this
    omega
  | false =>
    rw [hx] at h
    simp only [Bool.not_false, Bool.true_or, Bool.and_true] at h
    rw [(cut_none 47 l hx).1] at h
    have := (nameL_len h).2
    omega
theorem valL_free {l : List UInt8} (h : valL l = true) (c : UInt8) (hc : valB c.toNat = false) : ∀ b ∈ l, b ≠ c := by
  intro b hb e
  subst e
  unfold valL at h
  simp only [Bool.and_eq_true, List.all_eq_true] at h
  have := h.2 b hb
  rw [hc] at this
  cases this
theorem valL_len {l : List UInt8} (h : valL l = true) : l.length ≤ 16 := by
  unfold valL at h
  simp only [Bool.and_eq_true, decide_eq_true_eq] at h
  exact h.1
/-! ### the order of texts -/
theorem less_iff : ∀ a b : List UInt8, Op.bytesLess a b = true ↔ a < b
  | [], [] => by simp [Op.bytesLess]
  | [], b :: y => by simp [Op.bytesLess]
  | a :: x, [] => by simp [Op.bytesLess]
  | a :: x, b :: y => by
    rw [Op.bytesLess, List.cons_lt_cons_iff]
    simp [less_iff x y]
theorem comp_lt : ∀ a b : List UInt8, Lib.compareBytes a b < 0 ↔ a < b
  | [], [] => by simp [Lib.compareBytes]
  | [], b :: y => by simp [Lib.compareBytes]
  | a :: x, [] => by simp [Lib.compareBytes]
  | a :: x, b :: y => by
    rw [Lib.compareBytes, List.cons_lt_cons_iff]
    by_cases h : a < b
    · simp [h]
    · rw [if_neg h]
      by_cases h' : b < a
      · rw [if_pos h']
        have hne : a ≠ b := fun e => by subst e; exact absurd h' h
        simp [h, hne]
      · rw [if_neg h']
        have e : a = b := UInt8.le_antisymm (UInt8.not_lt.1 h') (UInt8.not_lt.1 h)
        subst e
        simp [comp_lt x y, h]
theorem comp_eq : ∀ a b : List UInt8, Lib.compareBytes a b = 0 ↔ a = b
  | [], [] => by simp [Lib.compareBytes]
  | [], b :: y => by simp [Lib.compareBytes]
  | a :: x, [] => by simp [Lib.compareBytes]
  | a :: x, b :: y => by
    rw [Lib.compareBytes]
    by_cases h : a < b
    · have hne : a ≠ b := fun e => by subst e; exact absurd h (UInt8.lt_irrefl _)
      simp [h, hne]
    · rw [if_neg h]
      by_cases h' : b < a
      · rw [if_pos h']
        have hne : a ≠ b := fun e => by subst e; exact absurd h' h
        simp [hne]
      · rw [if_neg h']
        have e : a = b := UInt8.le_antisymm (UInt8.not_lt.1 h') (UInt8.not_lt.1 h)
        subst e
        simp [comp_eq x y]
/-- a key that is less than another one -/
def lessK (x y : Lbl) : Prop := x.key.toList < y.key.toList
theorem lessK_trans {x y z : Lbl} (h1 : lessK x y) (h2 : lessK y z) : lessK x z := List.lt_trans h1 h2
theorem lessK_irrefl (x : Lbl) : ¬ lessK x x := List.lt_irrefl _
theorem notMore_some (q x : Lbl) : notMore (some q) x = true ↔ ¬ lessK q x := by
  unfold notMore lessK
  rw [← less_iff]
  simp
theorem from_right (n : ByteArray) : ∀ (l : List Lbl) (i : Nat) (p : Option Lbl), (labelsFrom n i p l).1 = 0 → (∀ x ∈ l, keyL x.key.data.toList = true ∧ valL x.val.data.toList = true) ∧ (p.toList ++ l).Pairwise lessK
  | [], _, p, _ => ⟨by simp, by cases p <;> simp⟩
  | x :: l, i, p, h => by
    rw [labelsFrom_cons] at h
    split at h
    · simp at h
    · split at h
      · simp at h
      · split at h
        · simp at h
        · rename_i h1 h2 h3
          obtain ⟨ih1, ih2⟩ := from_right n l _ _ h
          refine ⟨fun y hy => ?_, ?_⟩
          · rcases List.mem_cons.1 hy with rfl | hy
            · exact ⟨by simpa [isKey] using h1, by simpa [isVal] using h3⟩
            · exact ih1 y hy
          · simp only [Option.toList_some, List.cons_append, List.nil_append] at ih2
            cases p with
            | none => simpa using ih2
            | some q =>
              have hq : lessK q x := Classical.byContradiction fun hn => h2 ((notMore_some q x).2 hn)
              simp only [Option.toList_some, List.cons_append, List.nil_append, List.pairwise_cons]
              rw [List.pairwise_cons] at ih2
              refine ⟨fun y hy => ?_, ih2⟩
              rcases List.mem_cons.1 hy with rfl | hy
              · exact hq
              · exact lessK_trans hq (ih2.1 y hy)
/-- what may be -/
structure Right (l : List Lbl) : Prop where
  few : l.length ≤ 4
  each : ∀ x ∈ l, keyL x.key.data.toList = true ∧ valL x.val.data.toList = true
  rise : l.Pairwise lessK
theorem right_of {n : ByteArray} {l : List Lbl} (h : (labelsV n l).1 = 0) : Right l := by
  unfold labelsV at h
  split at h
  · simp at h
  · rename_i h4
    obtain ⟨h1, h2⟩ := from_right n l _ _ h
    exact ⟨by omega, h1, by simpa using h2⟩
theorem Right.key_len {l : List Lbl} (h : Right l) {x : Lbl} (hx : x ∈ l) : x.key.size ≤ 33 := by
  have := keyL_len (h.each x hx).1
  rw [Array.length_toList] at this
  exact this
theorem Right.val_len {l : List Lbl} (h : Right l) {x : Lbl} (hx : x ∈ l) : x.val.size ≤ 16 := by
  have := valL_len (h.each x hx).2
  rw [Array.length_toList] at this
  exact this
/-- written and read -/
theorem lab_free {x : Lbl} (hk : keyL x.key.data.toList = true) (hv : valL x.val.data.toList = true) : ∀ b ∈ lab x, b ≠ 44 := by
  intro b hb
  unfold lab at hb
  rcases List.mem_append.1 hb with hb | hb
  · exact keyL_free hk 44 (by decide) (by decide) b hb
  · rcases List.mem_cons.1 hb with rfl | hb
    · decide
    · exact valL_free hv 44 (by decide) b hb
theorem text_labels {l : List Lbl} (h : Right l) : labelsOf (textL l) = some l := by
  unfold labelsOf
  by_cases hl : l = []
  · subst hl; rfl
  · rw [if_neg (textL_ne hl), pieces_text l hl (fun x hx => lab_free (h.each x hx).1 (h.each x hx).2)]
    exact allL_lab l fun x hx => keyL_free (h.each x hx).1 61 (by decide) (by decide)
theorem parse_text {n : ByteArray} {l : List Lbl} (h : (labelsV n l).1 = 0) : parseV (textL l) = (l, 0) := by
  unfold parseV
  rw [text_labels (right_of h)]
  simp only
  rw [if_pos (by rw [code_any ⟨#[]⟩ n]; exact h)]
theorem text_parse {s : List UInt8} (h : (parseV s).2 = 0) : textL (parseV s).1 = s ∧ ∀ n, (labelsV n (parseV s).1).1 = 0 := by
  unfold parseV at *
  cases hl : labelsOf s with
  | none => rw [hl] at h; simp at h
  | some l =>
    rw [hl] at h
    simp only at h ⊢
    by_cases h0 : (labelsV ⟨#[]⟩ l).1 = 0
    · rw [if_pos h0]
      exact ⟨labels_text hl, fun n => by rw [code_any n ⟨#[]⟩]; exact h0⟩
    · rw [if_neg h0] at h
      exact absurd h h0
theorem parse_none {s : List UInt8} (h : (parseV s).2 ≠ 0) : (parseV s).1 = [] := by
  unfold parseV at *
  cases hl : labelsOf s with
  | none => rfl
  | some l =>
    rw [hl] at h
    simp only at h ⊢
    by_cases h0 : (labelsV ⟨#[]⟩ l).1 = 0
    · rw [if_pos h0] at h; simp at h
    · rw [if_neg h0]
/-! ### labels that fit -/
instance : BEq Lbl := ⟨sameL⟩
instance : LawfulBEq Lbl where
  eq_of_beq h := (sameL_iff _ _).1 h
  rfl := (sameL_iff _ _).2 rfl
def hasL (l : List Lbl) (x : Lbl) : Bool := l.any fun y => sameL y x
theorem hasL_iff {l : List Lbl} {x : Lbl} : hasL l x = true ↔ x ∈ l := by
  unfold hasL
  rw [List.any_eq_true]
  constructor
  · rintro ⟨y, hy, h⟩; rw [← (sameL_iff _ _).1 h]; exact hy
  · intro h; exact ⟨x, h, (sameL_iff _ _).2 rfl⟩
def fitsL (s l : List Lbl) : Bool := s.all fun x => hasL l x
theorem fitsL_iff {s l : List Lbl} : fitsL s l = true ↔ ∀ x ∈ s, x ∈ l := by
  unfold fitsL
  rw [List.all_eq_true]
  exact ⟨fun h x hx => hasL_iff.1 (h x hx), fun h x hx => hasL_iff.2 (h x hx)⟩
def getL (l : List Lbl) (k : ByteArray) : Option ByteArray := (l.find? fun x => x.key.toList == k.toList).map (·.val)
/-! ### both -/
/-- the order of labels: keys first -/
def cfL (x y : Lbl) : Int := if Lib.compareBytes x.key.toList y.key.toList ≠ 0 then Lib.compareBytes x.key.toList y.key.toList else Lib.compareBytes x.val.toList y.val.toList
def ltL (x y : Lbl) : Bool := decide (cfL x y < 0)
theorem ltL_iff (x y : Lbl) : ltL x y = true ↔ x.key.toList < y.key.toList ∨ (x.key.toList = y.key.toList ∧ x.val.toList < y.val.toList) := by
  unfold ltL cfL
  rw [decide_eq_true_eq]
  by_cases h : Lib.compareBytes x.key.toList y.key.toList = 0
  · have e := (comp_eq _ _).1 h
    rw [if_neg (by simp [h]), comp_lt, e]
    simp [List.lt_irrefl]
  · have e : x.key.toList ≠ y.key.toList := fun e => h ((comp_eq _ _).2 e)
    rw [if_pos h, comp_lt]
    simp [e]
theorem ltL_not (x y : Lbl) : ltL x y = false ↔ ¬ (x.key.toList < y.key.toList ∨ (x.key.toList = y.key.toList ∧ x.val.toList < y.val.toList)) := by
  rw [← ltL_iff]; simp
theorem ltL_trans {x y z : Lbl} (h1 : ltL x y = true) (h2 : ltL y z = true) : ltL x z = true := by
  rw [ltL_iff] at *
  rcases h1 with h1 | ⟨e1, h1⟩ <;> rcases h2 with h2 | ⟨e2, h2⟩
  · exact .inl (List.lt_trans h1 h2)
  · exact .inl (e2 ▸ h1)
  · exact .inl (e1 ▸ h2)
  · exact .inr ⟨e1.trans e2, List.lt_trans h1 h2⟩
theorem ltL_irrefl (x : Lbl) : ltL x x = false := by rw [ltL_not]; simp [List.lt_irrefl]
theorem ltL_total {x y : Lbl} (h1 : ltL x y = false) (h2 : ltL y x = false) : x = y := by
  rw [ltL_not] at h1 h2
  have hk : x.key.toList = y.key.toList := List.le_antisymm (List.not_lt.1 fun h => h2 (.inl h)) (List.not_lt.1 fun h => h1 (.inl h))
  have hv : x.val.toList = y.val.toList := List.le_antisymm (List.not_lt.1 fun h => h2 (.inr ⟨hk.symm, h⟩)) (List.not_lt.1 fun h => h1 (.inr ⟨hk, h⟩))
  cases x; cases y
  simp only [text_eq] at hk hv
  subst hk hv
  rfl
theorem ltL_ntrans {x y z : Lbl} (h1 : ltL x y = false) (h2 : ltL y z = false) : ltL x z = false := by
  cases h : ltL x z with
  | false => rfl
  | true =>
    cases h3 : ltL y x with
    | true => rw [ltL_trans h3 h] at h2; cases h2
    | false => have e := ltL_total h1 h3; subst e; rw [h] at h2; cases h2
/-- runs of one label become one -/
def compactL : List Lbl → List Lbl
  | [] => []
  | [x] => [x]
  | x :: y :: l => if sameL y x then compactL (y :: l) else x :: compactL (y :: l)
theorem compactL_mem : ∀ (l : List Lbl) (z : Lbl), z ∈ compactL l ↔ z ∈ l
  | [], _ => by simp [compactL]
  | [x], _ => by simp [compactL]
  | x :: y :: l, z => by
    rw [compactL]
    split
    · rename_i h
      have e := (sameL_iff _ _).1 h
      subst e
      rw [compactL_mem (y :: l) z]
      simp
    · rw [List.mem_cons, compactL_mem (y :: l) z, List.mem_cons (a := z) (b := x)]
theorem compactL_rise : ∀ (l : List Lbl), l.Pairwise (fun x y => ltL y x = false) → (compactL l).Pairwise (fun x y => ltL x y = true)
  | [], _ => by simp [compactL]
  | [x], _ => by simp [compactL]
  | x :: y :: l, h => by
    rw [List.pairwise_cons] at h
    have ih := compactL_rise (y :: l) h.2
    rw [compactL]
    split
    · exact ih
    · rename_i hne
      rw [List.pairwise_cons]
      refine ⟨fun z hz => ?_, ih⟩
      rw [compactL_mem] at hz
      have hxy : ltL x y = true := by
        cases hh : ltL x y with
        | true => rfl
        | false =>
          have e := ltL_total (h.1 y (by simp)) hh
          subst e
          exact absurd ((sameL_iff _ _).2 rfl) hne
      rcases List.mem_cons.1 hz with rfl | hz
      · exact hxy
      · cases hh : ltL x z with
        | true => rfl
        | false =>
          have h2 := (List.pairwise_cons.1 h.2).1 z hz
          -- not z < y, not x < z: so not x < y
          have := ltL_ntrans hh h2
          rw [hxy] at this; cases this
def sortL (l : List Lbl) : List Lbl := l.mergeSort fun x y => !ltL y x
theorem sortL_mem (l : List Lbl) (z : Lbl) : z ∈ sortL l ↔ z ∈ l := (List.mergeSort_perm l _).mem_iff
theorem sortL_rise (l : List Lbl) : (sortL l).Pairwise (fun x y => ltL y x = false) := by
  have h := List.pairwise_mergeSort (le := fun x y => !ltL y x) (fun a b c h1 h2 => by
    simp only [Bool.not_eq_true'] at *
    exact ltL_ntrans h2 h1) (fun a b => by
    cases h : ltL b a with
    | false => simp
    | true =>
      cases h2 : ltL a b with
      | false => simp
      | true => have := ltL_trans h h2; rw [ltL_irrefl] at this; cases this) l
  exact h.imp fun h => by simpa using h
/-- two labels of one key side by side -/
def twins : List Lbl → Bool
  | [] => false
  | [_] => false
  | x :: y :: l => (y.key.toList == x.key.toList) || twins (y :: l)
theorem twins_no : ∀ {l : List Lbl}, l.Pairwise (fun x y => ltL x y = true) → twins l = false → l.Pairwise lessK
  | [], _, _ => List.Pairwise.nil
  | [x], _, _ => by simp
  | x :: y :: l, h, ht => by
    rw [twins, Bool.or_eq_false_iff] at ht
    rw [List.pairwise_cons] at h
    have ih := twins_no h.2 ht.2
    rw [List.pairwise_cons]
    refine ⟨fun z hz => ?_, ih⟩
    have hxy : lessK x y := by
      rcases (ltL_iff x y).1 (h.1 y (by simp)) with h1 | ⟨h1, _⟩
      · exact h1
      · have := ht.1; rw [h1] at this; simp at this
    rcases List.mem_cons.1 hz with rfl | hz
    · exact hxy
    · exact lessK_trans hxy ((List.pairwise_cons.1 ih).1 z hz)
theorem twins_yes : ∀ {l : List Lbl}, twins l = true → ¬ l.Pairwise lessK
  | [], h => by simp [twins] at h
  | [x], h => by simp [twins] at h
  | x :: y :: l, h => by
    intro hp
    rw [List.pairwise_cons] at hp
    rw [twins, Bool.or_eq_true] at h
    rcases h with h | h
    · have := hp.1 y (by simp)
      unfold lessK at this
      rw [beq_iff_eq.1 h] at this
      exact List.lt_irrefl _ this
    · exact twins_yes h hp.2
/-- the program's way: sorted, runs made one, no two of one key -/
def mergeV (a b : List Lbl) : List Lbl × Bool := if twins (compactL (sortL (a ++ b))) then ([], false) else (compactL (sortL (a ++ b)), true)
theorem merge_mem (a b : List Lbl) (z : Lbl) : z ∈ compactL (sortL (a ++ b)) ↔ z ∈ a ∨ z ∈ b := by rw [compactL_mem, sortL_mem, List.mem_append]
theorem merge_rise (a b : List Lbl) : (compactL (sortL (a ++ b))).Pairwise (fun x y => ltL x y = true) := compactL_rise _ (sortL_rise _)
theorem lessK_unique : ∀ {a b : List Lbl}, a.Pairwise lessK → b.Pairwise lessK → (∀ z, z ∈ a ↔ z ∈ b) → a = b
  | [], [], _, _, _ => rfl
  | [], y :: b, _, _, h => by have := (h y).2 (by simp); simp at this
  | x :: a, [], _, _, h => by have := (h x).1 (by simp); simp at this
  | x :: a, y :: b, ha, hb, h => by
    rw [List.pairwise_cons] at ha hb
    have e : x = y := by
      rcases List.mem_cons.1 ((h x).1 (by simp)) with e | hx
      · exact e
      · rcases List.mem_cons.1 ((h y).2 (by simp)) with e | hy
        · exact e.symm
        · exact absurd (lessK_trans (ha.1 y hy) (hb.1 x hx)) (lessK_irrefl _)
    subst e
    congr 1
    refine lessK_unique ha.2 hb.2 fun z => ⟨fun hz => ?_, fun hz => ?_⟩
    · rcases List.mem_cons.1 ((h z).1 (by simp [hz])) with e | hz'
      · subst e; exact absurd (ha.1 z hz) (lessK_irrefl _)
      · exact hz'
    · rcases List.mem_cons.1 ((h z).2 (by simp [hz])) with e | hz'
      · subst e; exact absurd (hb.1 z hz) (lessK_irrefl _)
      · exact hz'
/-- a list of both, by keys that rise -/
def Both (a b l : List Lbl) : Prop := l.Pairwise lessK ∧ ∀ z, z ∈ l ↔ z ∈ a ∨ z ∈ b
theorem Both.unique {a b l m : List Lbl} (h1 : Both a b l) (h2 : Both a b m) : l = m := lessK_unique h1.1 h2.1 fun z => by rw [h1.2, h2.2]
theorem merge_yes {a b l : List Lbl} (h : Both a b l) : mergeV a b = (l, true) := by
  have hm := merge_mem a b
  unfold mergeV
  split
  · rename_i ht
    refine absurd ?_ (twins_yes ht)
    have hr := merge_rise a b
    refine hr.imp_of_mem fun {x y} hx hy hxy => ?_
    rcases (ltL_iff x y).1 hxy with h1 | ⟨h1, h2⟩
    · exact h1
    · have hx' := (h.2 x).2 ((hm x).1 hx)
      have hy' := (h.2 y).2 ((hm y).1 hy)
      have e : x = y := by
        rcases Classical.em (x = y) with e | hne
        · exact e
        · exfalso
          obtain ⟨i, hi, ei⟩ := List.mem_iff_getElem.1 hx'
          obtain ⟨j, hj, ej⟩ := List.mem_iff_getElem.1 hy'
          have hp := List.pairwise_iff_getElem.1 h.1
          rcases Nat.lt_trichotomy i j with hl | hl | hl
          · have := hp i j hi hj hl
            rw [ei, ej] at this
            unfold lessK at this
            rw [h1] at this
            exact List.lt_irrefl _ this
          · subst hl; exact hne (ei.symm.trans ej)
          · have := hp j i hj hi hl
            rw [ei, ej] at this
            unfold lessK at this
            rw [h1] at this
            exact List.lt_irrefl _ this
      subst e
      exact absurd h2 (List.lt_irrefl _)
  · rename_i ht
    have : Both a b (compactL (sortL (a ++ b))) := ⟨twins_no (merge_rise a b) (by simpa using ht), hm⟩
    rw [this.unique h]
theorem merge_no {a b : List Lbl} (h : ∀ l, ¬ Both a b l) : mergeV a b = ([], false) := by
  unfold mergeV
  split
  · rfl
  · rename_i ht
    exact absurd ⟨twins_no (merge_rise a b) (by simpa using ht), merge_mem a b⟩ (h _)
/-- the document's way: one by one put in where it belongs -/
def insK (y : Lbl) : List Lbl → List Lbl
  | [] => [y]
  | x :: l => if Op.bytesLess x.key.toList y.key.toList then x :: insK y l else y :: x :: l
def mergeR (a : List Lbl) : List Lbl → List Lbl → List Lbl × Bool
  | [], out => (out, true)
  | y :: r, out => match getL a y.key with
    | some v => if v.toList != y.val.toList then ([], false) else mergeR a r out
    | none => mergeR a r (insK y out)
theorem insK_mem (y z : Lbl) : ∀ l, z ∈ insK y l ↔ z = y ∨ z ∈ l
  | [] => by simp [insK]
  | x :: l => by
    rw [insK]
    split
    · rw [List.mem_cons, insK_mem y z l, List.mem_cons]
      constructor
      · rintro (h | h | h)
        · exact .inr (.inl h)
        · exact .inl h
        · exact .inr (.inr h)
      · rintro (h | h | h)
        · exact .inr (.inl h)
        · exact .inl h
        · exact .inr (.inr h)
    · rw [List.mem_cons]
theorem insK_rise (y : Lbl) : ∀ l, l.Pairwise lessK → (∀ x ∈ l, x.key.toList ≠ y.key.toList) → (insK y l).Pairwise lessK
  | [], _, _ => by simp [insK]
  | x :: l, h, hn => by
    rw [List.pairwise_cons] at h
    rw [insK]
    split
    · rename_i hl
      rw [List.pairwise_cons]
      refine ⟨fun z hz => ?_, insK_rise y l h.2 fun z hz => hn z (by simp [hz])⟩
      rcases (insK_mem y z l).1 hz with rfl | hz
      · exact (less_iff _ _).1 hl
      · exact h.1 z hz
    · rename_i hl
      have hyx : lessK y x := by
        have h1 : ¬ x.key.toList < y.key.toList := fun h => hl ((less_iff _ _).2 h)
        rcases Decidable.em (y.key.toList < x.key.toList) with h2 | h2
        · exact h2
        · exact absurd (List.le_antisymm (List.not_lt.1 h2) (List.not_lt.1 h1)) (hn x (by simp))
      rw [List.pairwise_cons, List.pairwise_cons]
      refine ⟨fun z hz => ?_, h⟩
      rcases List.mem_cons.1 hz with rfl | hz
      · exact hyx
      · exact lessK_trans hyx (h.1 z hz)
theorem getL_none {l : List Lbl} {k : ByteArray} (h : getL l k = none) : ∀ x ∈ l, x.key.toList ≠ k.toList := by
  unfold getL at h
  rw [Option.map_eq_none_iff, List.find?_eq_none] at h
  intro x hx
  have := h x hx
  simpa using this
theorem getL_some {l : List Lbl} {k v : ByteArray} (h : getL l k = some v) : ∃ x ∈ l, x.key.toList = k.toList ∧ x.val = v := by
  unfold getL at h
  rw [Option.map_eq_some_iff] at h
  obtain ⟨x, hx, rfl⟩ := h
  have h1 := List.find?_some hx
  exact ⟨x, List.mem_of_find?_eq_some hx, by simpa using h1, rfl⟩
theorem same_key {l : List Lbl} (h : l.Pairwise lessK) {x y : Lbl} (hx : x ∈ l) (hy : y ∈ l) (hk : x.key.toList = y.key.toList) : x = y := by
  obtain ⟨i, hi, ei⟩ := List.mem_iff_getElem.1 hx
  obtain ⟨j, hj, ej⟩ := List.mem_iff_getElem.1 hy
  have hp := List.pairwise_iff_getElem.1 h
  rcases Nat.lt_trichotomy i j with hl | hl | hl
  · have := hp i j hi hj hl
    rw [ei, ej] at this
    unfold lessK at this
    rw [hk] at this
    exact absurd this (List.lt_irrefl _)
  · subst hl; exact ei.symm.trans ej
  · have := hp j i hj hi hl
    rw [ei, ej] at this
    unfold lessK at this
    rw [hk] at this
    exact absurd this (List.lt_irrefl _)
theorem mergeR_spec (a : List Lbl) : ∀ (r d out : List Lbl), (d ++ r).Pairwise lessK → Both a d out → mergeR a r out = mergeV a (d ++ r)
  | [], d, out, _, hb => by rw [mergeR, List.append_nil]; exact (merge_yes hb).symm
  | y :: r, d, out, hp, hb => by
    have hp' : ((d ++ [y]) ++ r).Pairwise lessK := by simpa using hp
    have hd : ∀ z ∈ d, lessK z y := by
      intro z hz
      exact (List.pairwise_append.1 hp).2.2 z hz y (by simp)
    rw [mergeR]
    cases hg : getL a y.key with
    | none =>
      have hn := getL_none hg
      simp only
      rw [show d ++ y :: r = (d ++ [y]) ++ r by simp]
      refine mergeR_spec a r (d ++ [y]) (insK y out) hp' ⟨insK_rise y out hb.1 fun x hx => ?_, fun z => ?_⟩
      · rcases (hb.2 x).1 hx with hx | hx
        · exact hn x hx
        · intro e
          have := hd x hx
          unfold lessK at this
          rw [e] at this
          exact List.lt_irrefl _ this
      · rw [insK_mem, hb.2, List.mem_append, List.mem_singleton]
        constructor
        · rintro (h | h | h)
          · exact .inr (.inr h)
          · exact .inl h
          · exact .inr (.inl h)
        · rintro (h | h | h)
          · exact .inr (.inl h)
          · exact .inr (.inr h)
          · exact .inl h
    | some v =>
      obtain ⟨x, hx, hk, rfl⟩ := getL_some hg
      simp only
      split
      · rename_i hne
        refine (merge_no fun l hl => ?_).symm
        have e := same_key hl.1 ((hl.2 x).2 (.inl hx)) ((hl.2 y).2 (.inr (by simp))) hk
        subst e
        simp at hne
      · rename_i he
        have e : x = y := by
          have hv : x.val.toList = y.val.toList := by simpa using he
          rw [text_eq] at hv hk
          cases x; cases y; simp_all
        subst e
        rw [show d ++ x :: r = (d ++ [x]) ++ r by simp]
        refine mergeR_spec a r (d ++ [x]) out hp' ⟨hb.1, fun z => ?_⟩
        rw [hb.2, List.mem_append, List.mem_singleton]
        constructor
        · rintro (h | h)
          · exact .inl h
          · exact .inr (.inl h)
        · rintro (h | h | h)
          · exact .inl h
          · exact .inr h
          · subst h; exact .inl hx
theorem mergeR_eq {a b : List Lbl} (ha : a.Pairwise lessK) (hb : b.Pairwise lessK) : mergeR a b a = mergeV a b :=
  mergeR_spec a b [] a (by simpa using hb) ⟨ha, fun z => by simp⟩
/-- BOTH -/
theorem both_fits {a b m l : List Lbl} (h : mergeV a b = (m, true)) : (fitsL m l = (fitsL a l && fitsL b l)) ∧ fitsL a m = true ∧ fitsL b m = true := by
  have hm : ∀ z, z ∈ m ↔ z ∈ a ∨ z ∈ b := by
    unfold mergeV at h
    split at h
    · injection h with _ h; cases h
    · injection h with h _; subst h; exact merge_mem a b
  refine ⟨?_, fitsL_iff.2 fun x hx => (hm x).2 (.inl hx), fitsL_iff.2 fun x hx => (hm x).2 (.inr hx)⟩
  rw [Bool.eq_iff_iff, Bool.and_eq_true, fitsL_iff, fitsL_iff, fitsL_iff]
  exact ⟨fun h => ⟨fun x hx => h x ((hm x).2 (.inl hx)), fun x hx => h x ((hm x).2 (.inr hx))⟩, fun h x hx => ((hm x).1 hx).elim (h.1 x) (h.2 x)⟩
theorem both_none {a b m l : List Lbl} (h : mergeV a b = (m, false)) (hl : l.Pairwise lessK) : m = [] ∧ (fitsL a l && fitsL b l) = false := by
  unfold mergeV at h
  split at h
  · rename_i ht
    injection h with h _
    refine ⟨h.symm, ?_⟩
    rw [Bool.eq_false_iff, ne_eq, Bool.and_eq_true, fitsL_iff, fitsL_iff]
    rintro ⟨h1, h2⟩
    refine twins_yes ht ?_
    refine (merge_rise a b).imp_of_mem fun {x y} hx hy hxy => ?_
    have hx' : x ∈ l := ((merge_mem a b x).1 hx).elim (h1 x) (h2 x)
    have hy' : y ∈ l := ((merge_mem a b y).1 hy).elim (h1 y) (h2 y)
    rcases (ltL_iff x y).1 hxy with h3 | ⟨h3, h4⟩
    · exact h3
    · have e := same_key hl hx' hy' h3
      subst e
      exact absurd h4 (List.lt_irrefl _)
  · injection h with _ h; cases h
end Sl
end Go.Proofs.YtaegknpijgjioaaGreatDoor
