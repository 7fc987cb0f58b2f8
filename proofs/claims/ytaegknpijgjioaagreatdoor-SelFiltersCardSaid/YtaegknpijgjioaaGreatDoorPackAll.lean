/-
  What chapter 7 says of reading and writing, as plain functions: a code for each kind of value (how it is read of an error and the bytes left, how it is written), put together of smaller ones; there and back, just the bytes, none begins another. No condition. And what follows of it, part by part, each with its conditions.
-/
import Derived.Test.YtaegknpijgjioaaGreatDoorLebAll
import Derived.Test.YtaegknpijgjioaaGreatDoorSpecDataAll
import Derived.Test.YtaegknpijgjioaaGreatDoorSpecEachAll
import Derived.Test.YtaegknpijgjioaaGreatDoorTextMore
import Derived.Test.YtaegknpijgjioaaGreatDoorSpecSameG
import Derived.Test.YtaegknpijgjioaaGreatDoorAppendAny
import Derived.Test.YtaegknpijgjioaaGreatDoorSpecCheck
import Derived.Test.YtaegknpijgjioaaGreatDoorWireAll
import Derived.Test.YtaegknpijgjioaaGreatDoorSpecRowAll
import Derived.Test.YtaegknpijgjioaaGreatDoorSpecStepAll
import Derived.Test.YtaegknpijgjioaaGreatDoorSpecMine
import Derived.Test.YtaegknpijgjioaaGreatDoorBookSameSpec
import Derived.StillTailTactics
import Derived.Lib.SliceRun
import Derived.Maps.AppendAt
/- What chapter 7 says of reading and writing, as plain functions: a code for each kind of value (how it is read of an error and the bytes left, how it is written), put together of smaller ones; there and back, just the bytes, none begins another. No condition. -/
set_option linter.unusedVariables false
set_option linter.unusedSimpArgs false
namespace Go.Proofs.YtaegknpijgjioaaGreatDoor.Pk
open WirePure LebMath Sd

/-- a reading: of the first error and the bytes left: the value, the error, the bytes left -/
abbrev Rdr (α : Type) := Int → List UInt8 → α × Int × List UInt8
def Rdr.bind {α β : Type} (f : Rdr α) (g : α → Rdr β) : Rdr β := fun c l => g (f c l).1 (f c l).2.1 (f c l).2.2
def Rdr.ret {α : Type} (x : α) : Rdr α := fun c l => (x, c, l)
/-- how a kind of value is read and written; ok: what may be -/
structure Codec (α : Type) where
  rd : Rdr α
  put : α → List UInt8
  ok : α → Prop
  keeps : ∀ c l, c ≠ 0 → (rd c l).2 = (c, l)
  len : ∀ c l, (rd c l).2.2.length ≤ l.length
  canon : ∀ l, (rd 0 l).2.1 = 0 → ok (rd 0 l).1 ∧ l = put (rd 0 l).1 ++ (rd 0 l).2.2
  back : ∀ x r, ok x → rd 0 (put x ++ r) = (x, 0, r)
  cut : ∀ x p q, ok x → q ≠ [] → put x = p ++ q → (rd 0 p).2.1 = 40
  okay : ∀ c l, ok (rd c l).1
theorem three {α : Type} {t : α × Int × List UInt8} {a : α} {b : Int} {c : List UInt8} (h1 : t.1 = a) (h2 : t.2.1 = b) (h3 : t.2.2 = c) : t = (a, b, c) := by
  obtain ⟨x, y, z⟩ := t
  simp only at h1 h2 h3
  subst h1 h2 h3
  rfl
/-! ## numbers -/
def numR (m : Nat) : Rdr Nat := fun c l => (numV m c l, numE m c l, numL m c l)
theorem leb_front (n : Nat) : ∀ p q : List UInt8, q ≠ [] → leb n = p ++ q → (∀ b ∈ p, 128 ≤ b.toNat) ∧ p.length < (leb n).length := by
  induction n using Nat.strongRecOn with
  | _ n ih =>
    intro p q hq h
    refine ⟨?_, by rw [h, List.length_append]; have := List.length_pos_iff.2 hq; omega⟩
    by_cases hn : n < 128
    · rw [leb_small hn] at h
      cases p with
      | nil => intro b hb; cases hb
      | cons b p =>
        simp only [List.cons_append, List.cons.injEq] at h
        have := h.2.symm
        rw [List.append_eq_nil_iff] at this
        exact absurd this.2 hq
    · rw [leb_big (by omega)] at h
      cases p with
      | nil => intro b hb; cases hb
      | cons b p =>
        simp only [List.cons_append, List.cons.injEq] at h
        intro x hx
        rcases List.mem_cons.1 hx with rfl | hx
        · rw [← h.1, toNat_ofNat (by omega)]; omega
        · exact (ih (n / 128) (by omega) p q hq h.2).1 x hx
theorem lead_all : ∀ p : List UInt8, (∀ b ∈ p, 128 ≤ b.toNat) → lead p = p.length
  | [], _ => rfl
  | b :: p, h => by rw [lead, if_pos (h b (by simp)), lead_all p (fun x hx => h x (by simp [hx]))]; simp
theorem isLeb_all : ∀ p : List UInt8, (∀ b ∈ p, 128 ≤ b.toNat) → isLeb p = false
  | [], _ => rfl
  | [b], h => by have := h b (by simp); simp [isLeb]; omega
  | b :: c :: p, h => by
    rw [isLeb, isLeb_all (c :: p) (fun x hx => h x (by simp [hx]))]; simp
theorem num_cut {n m : Nat} (hn : n < 18446744073709551616) {p q : List UInt8} (hq : q ≠ []) (h : leb n = p ++ q) : numE m 0 p = 40 := by
  obtain ⟨h1, h2⟩ := leb_front n p q hq h
  have h3 := leb_le_ten hn
  have ht : takeV p = (0, 0) := by
    unfold takeV
    rw [lead_all p h1, List.take_of_length_le (by omega), isLeb_all p h1]; simp
  have hw : why p = 40 := by
    unfold why
    rw [if_neg (by omega), if_neg]
    intro hany
    rw [List.any_eq_true] at hany
    obtain ⟨b, hb, hlt⟩ := hany
    have := h1 b hb
    simp at hlt
    omega
  unfold numE
  rw [ht, if_pos rfl, hw]; rfl
def numC (m : Nat) (hm : m < 18446744073709551616) : Codec Nat where
  rd := numR m
  put := leb
  ok := fun n => n ≤ m
  keeps := fun c l h => by simp [numR, numE_err h, numL_err h]
  len := fun c l => numL_len m c l
  canon := fun l h => ⟨numV_le m 0 l, num_canon h⟩
  back := fun n r h => three (numV_put (by omega) h r) (numE_put (by omega) h r) (numL_put (by omega) h r)
  cut := fun n p q h hq e => num_cut (by omega) hq e
  okay := fun c l => numV_le m c l
/-! ## texts -/
def textR (m : Nat) : Rdr ByteArray := fun c l => (⟨(textS m c l).toArray⟩, textE m c l, textL m c l)
def txP (s : ByteArray) : List UInt8 := leb s.size ++ s.data.toList
theorem textS_len (m : Nat) (c : Int) (l : List UInt8) : (textS m c l).length ≤ m := by
  unfold textS takeS
  split
  · rw [List.length_take]
    exact Nat.le_trans (Nat.min_le_left _ _) (numV_le m c l)
  · simp
theorem textR_size (m : Nat) (c : Int) (l : List UInt8) : (textR m c l).1.size ≤ m := by
  have := textS_len m c l
  show (textS m c l).toArray.size ≤ m
  simpa using this
theorem text_cut {m : Nat} {s : List UInt8} (hn : s.length < 18446744073709551616) (hs : s.length ≤ m) {p q : List UInt8} (hq : q ≠ []) (h : leb s.length ++ s = p ++ q) : textE m 0 p = 40 := by
  unfold textE
  rcases List.append_eq_append_iff.1 h with ⟨a, h1, h2⟩ | ⟨a, h1, h2⟩
  · -- the length is whole
    rw [h1, numE_put hn hs, numV_put hn hs, numL_put hn hs]
    unfold takeE
    rw [if_pos]
    · rfl
    · rw [h2, List.length_append]
      have := List.length_pos_iff.2 hq
      omega
  · by_cases ha : a = []
    · subst ha
      have hp : p = leb s.length := by simpa using h1.symm
      rw [hp]
      have e : leb s.length = leb s.length ++ ([] : List UInt8) := by simp
      rw [e, numE_put hn hs, numV_put hn hs, numL_put hn hs]
      unfold takeE
      rw [if_pos]
      · rfl
      · simp at h2
        rw [h2] at hq
        exact List.length_pos_iff.2 hq
    · rw [num_cut hn ha h1]
      exact takeE_err (by decide) _ _
def textC (m : Nat) (hm : m < 18446744073709551616) : Codec ByteArray where
  rd := textR m
  put := txP
  ok := fun s => s.size ≤ m
  keeps := fun c l h => by simp [textR, textE_err h, textL_err h]
  len := fun c l => textL_len m c l
  canon := fun l h => ⟨textR_size m 0 l, by
    have := text_canon h
    have e : txP (textR m 0 l).1 = leb (textS m 0 l).length ++ textS m 0 l := by
      show leb (textS m 0 l).toArray.size ++ (textS m 0 l).toArray.toList = _
      simp
    rw [e, List.append_assoc]
    exact this⟩
  back := fun s r h => by
    have e : s.data.toList.length = s.size := Array.length_toList
    have hp := text_put (a := s.data.toList) (m := m) (by omega) (by omega) r
    rw [e] at hp
    unfold txP
    rw [List.append_assoc]
    exact three (by show (⟨(textS m 0 _).toArray⟩ : ByteArray) = s; rw [hp.2.1]) hp.1 hp.2.2
  cut := fun s p q h hq e => by
    have e1 : s.data.toList.length = s.size := Array.length_toList
    unfold txP at e
    rw [← e1] at e
    exact text_cut (by omega) (by omega) hq e
  okay := fun c l => textR_size m c l
/-! ## one behind the other -/
theorem bind_zero {α β : Type} {f : Rdr α} {g : α → Rdr β} (hg : ∀ x c l, c ≠ 0 → (g x c l).2 = (c, l)) {c : Int} {l : List UInt8} (h : ((f.bind g) c l).2.1 = 0) : (f c l).2.1 = 0 := by
  by_cases h0 : (f c l).2.1 = 0
  · exact h0
  · have := hg (f c l).1 (f c l).2.1 (f c l).2.2 h0
    unfold Rdr.bind at h
    rw [this] at h
    exact absurd h h0
def pairR {α β : Type} (f : Rdr α) (g : Rdr β) : Rdr (α × β) := fun c l => (((f c l).1, (g (f c l).2.1 (f c l).2.2).1), (g (f c l).2.1 (f c l).2.2).2)
theorem pair_zero {α β : Type} {f : Rdr α} {g : Rdr β} (hg : ∀ c l, c ≠ 0 → (g c l).2 = (c, l)) {c : Int} {l : List UInt8} (h : ((pairR f g) c l).2.1 = 0) : (f c l).2.1 = 0 := by
  by_cases h0 : (f c l).2.1 = 0
  · exact h0
  · have := hg (f c l).2.1 (f c l).2.2 h0
    unfold pairR at h
    rw [this] at h
    exact absurd h h0
def pairC {α β : Type} (A : Codec α) (B : Codec β) : Codec (α × β) where
  rd := pairR A.rd B.rd
  put := fun x => A.put x.1 ++ B.put x.2
  ok := fun x => A.ok x.1 ∧ B.ok x.2
  keeps := fun c l h => by
    have h1 := A.keeps c l h
    show (B.rd (A.rd c l).2.1 (A.rd c l).2.2).2 = _
    rw [h1]
    exact B.keeps c l h
  len := fun c l => Nat.le_trans (B.len _ _) (A.len c l)
  canon := fun l h => by
    have h0 := pair_zero B.keeps h
    have h1 := A.canon l h0
    have h2 : (B.rd (A.rd 0 l).2.1 (A.rd 0 l).2.2).2.1 = 0 := h
    rw [h0] at h2
    have h3 := B.canon _ h2
    refine ⟨⟨h1.1, ?_⟩, ?_⟩
    · show B.ok (B.rd (A.rd 0 l).2.1 (A.rd 0 l).2.2).1
      rw [h0]; exact h3.1
    · show l = (A.put (A.rd 0 l).1 ++ B.put (B.rd (A.rd 0 l).2.1 (A.rd 0 l).2.2).1) ++ (B.rd (A.rd 0 l).2.1 (A.rd 0 l).2.2).2.2
      rw [h0, List.append_assoc, ← h3.2]; exact h1.2
  back := fun x r h => by
    have h1 := A.back x.1 (B.put x.2 ++ r) h.1
    have h2 := B.back x.2 r h.2
    show pairR A.rd B.rd 0 (A.put x.1 ++ B.put x.2 ++ r) = _
    rw [List.append_assoc]
    unfold pairR
    rw [h1]
    show ((x.1, (B.rd 0 (B.put x.2 ++ r)).1), (B.rd 0 (B.put x.2 ++ r)).2) = _
    rw [h2]
  cut := fun x p q h hq e => by
    rcases List.append_eq_append_iff.1 e with ⟨a, h1, h2⟩ | ⟨a, h1, h2⟩
    · have e1 := A.back x.1 a h.1
      show (B.rd (A.rd 0 p).2.1 (A.rd 0 p).2.2).2.1 = 40
      rw [h1, e1]
      exact B.cut x.2 a q h.2 hq h2
    · show (B.rd (A.rd 0 p).2.1 (A.rd 0 p).2.2).2.1 = 40
      by_cases ha : a = []
      · subst ha
        have hp : p = A.put x.1 := by simpa using h1.symm
        have e1 := A.back x.1 [] h.1
        rw [List.append_nil] at e1
        rw [hp, e1]
        exact B.cut x.2 [] (B.put x.2) h.2 (by simp at h2; rw [← h2]; exact hq) (by simp)
      · have h3 := A.cut x.1 p a h.1 ha h1
        have h4 := B.keeps (A.rd 0 p).2.1 (A.rd 0 p).2.2 (by rw [h3]; decide)
        rw [h4]
        exact h3
  okay := fun c l => ⟨A.okay c l, B.okay _ _⟩
/-- the same bytes, told as another kind -/
def mapC {α β : Type} (A : Codec α) (f : α → β) (g : β → α) (hf : ∀ x, g (f x) = x) : Codec β where
  rd := fun c l => (f (A.rd c l).1, (A.rd c l).2)
  put := fun y => A.put (g y)
  ok := fun y => A.ok (g y) ∧ f (g y) = y
  keeps := fun c l h => A.keeps c l h
  len := fun c l => A.len c l
  canon := fun l h => by
    have := A.canon l h
    simp only [hf]
    exact ⟨⟨this.1, trivial⟩, this.2⟩
  back := fun y r h => by
    have := A.back (g y) r h.1
    simp only [this, h.2]
  cut := fun y p q h hq e => A.cut (g y) p q h.1 hq e
  okay := fun c l => by
    show A.ok (g (f (A.rd c l).1)) ∧ f (g (f (A.rd c l).1)) = f (A.rd c l).1
    rw [hf]
    exact ⟨A.okay c l, rfl⟩
/-- a number of Go's int -/
def intC (m : Nat) (hm : m < 18446744073709551616) : Codec Int := mapC (numC m hm) (fun n => (n : Int)) Int.toNat (fun n => by simp)
/-! ## lists -/
/-- the state behind k of them -/
def repS {α : Type} (f : Rdr α) (c : Int) (l : List UInt8) : Nat → Int × List UInt8
  | 0 => (c, l)
  | k + 1 => (f (repS f c l k).1 (repS f c l k).2).2
/-- and these -/
def repX {α : Type} (f : Rdr α) (c : Int) (l : List UInt8) : Nat → List α
  | 0 => []
  | k + 1 => repX f c l k ++ [(f (repS f c l k).1 (repS f c l k).2).1]
theorem repX_len {α : Type} (f : Rdr α) (c : Int) (l : List UInt8) : ∀ k, (repX f c l k).length = k
  | 0 => rfl
  | k + 1 => by rw [repX, List.length_append, repX_len f c l k]; rfl
section
variable {α : Type} (C : Codec α)
theorem repS_err {c : Int} (h : c ≠ 0) (l : List UInt8) : ∀ k, repS C.rd c l k = (c, l)
  | 0 => rfl
  | k + 1 => by rw [repS, repS_err h l k]; exact C.keeps c l h
theorem repS_len (c : Int) (l : List UInt8) : ∀ k, (repS C.rd c l k).2.length ≤ l.length
  | 0 => Nat.le_refl _
  | k + 1 => Nat.le_trans (C.len _ _) (repS_len c l k)
/-- an error stays from then on -/
theorem repS_stay {c : Int} {l : List UInt8} {k : Nat} (h : (repS C.rd c l k).1 ≠ 0) : ∀ j, repS C.rd c l (k + j) = repS C.rd c l k
  | 0 => rfl
  | j + 1 => by rw [← Nat.add_assoc, repS, repS_stay h j]; exact C.keeps _ _ h
theorem repS_less {c : Int} {l : List UInt8} {k : Nat} (h : (repS C.rd c l (k + 1)).1 = 0) : (repS C.rd c l k).1 = 0 := by
  by_cases h0 : (repS C.rd c l k).1 = 0
  · exact h0
  · rw [repS_stay C h0 1] at h; exact absurd h h0
theorem repX_ok (c : Int) (l : List UInt8) : ∀ n, ∀ x ∈ repX C.rd c l n, C.ok x
  | 0, x, hx => by cases hx
  | n + 1, x, hx => by
    rw [repX] at hx
    rcases List.mem_append.1 hx with hx | hx
    · exact repX_ok c l n x hx
    · rw [List.mem_singleton.1 hx]; exact C.okay _ _
theorem rep_canon {l : List UInt8} : ∀ k, (repS C.rd 0 l k).1 = 0 → (∀ x ∈ repX C.rd 0 l k, C.ok x) ∧ l = (repX C.rd 0 l k).flatMap C.put ++ (repS C.rd 0 l k).2
  | 0, _ => ⟨fun x hx => (by cases hx), rfl⟩
  | k + 1, h => by
    have h0 := repS_less C h
    obtain ⟨i1, i2⟩ := rep_canon k h0
    have h2 : (C.rd (repS C.rd 0 l k).1 (repS C.rd 0 l k).2).2.1 = 0 := h
    rw [h0] at h2
    obtain ⟨j1, j2⟩ := C.canon _ h2
    rw [repX, repS, h0]
    refine ⟨fun x hx => ?_, ?_⟩
    · rcases List.mem_append.1 hx with hx | hx
      · exact i1 x hx
      · rw [List.mem_singleton.1 hx]; exact j1
    · rw [List.flatMap_append, List.append_assoc]
      show l = _ ++ (([(C.rd 0 (repS C.rd 0 l k).2).1].flatMap C.put) ++ _)
      rw [show [(C.rd 0 (repS C.rd 0 l k).2).1].flatMap C.put = C.put (C.rd 0 (repS C.rd 0 l k).2).1 by simp, ← j2]
      exact i2
theorem rep_back (r : List UInt8) (xs : List α) (hx : ∀ x ∈ xs, C.ok x) : ∀ k, k ≤ xs.length → repS C.rd 0 (xs.flatMap C.put ++ r) k = (0, (xs.drop k).flatMap C.put ++ r) ∧ repX C.rd 0 (xs.flatMap C.put ++ r) k = xs.take k
  | 0, _ => ⟨rfl, rfl⟩
  | k + 1, hk => by
    obtain ⟨i1, i2⟩ := rep_back r xs hx k (by omega)
    have hd : xs.drop k = xs[k] :: xs.drop (k + 1) := List.drop_eq_getElem_cons (by omega)
    have hb := C.back xs[k] ((xs.drop (k + 1)).flatMap C.put ++ r) (hx _ (List.getElem_mem _))
    rw [hd, List.flatMap_cons, List.append_assoc] at i1
    rw [repS, repX, i1, i2]
    show (C.rd 0 (C.put xs[k] ++ _)).2 = _ ∧ _ ++ [(C.rd 0 (C.put xs[k] ++ _)).1] = _
    rw [hb]
    exact ⟨rfl, by rw [List.take_succ_eq_append_getElem (by omega)]⟩
theorem rep_cut : ∀ (xs : List α) (p q : List UInt8), (∀ x ∈ xs, C.ok x) → q ≠ [] → xs.flatMap C.put = p ++ q → ∀ k, k = xs.length → (repS C.rd 0 p k).1 = 40
  | [], p, q, _, hq, e, _, _ => by
    have h := (List.append_eq_nil_iff.1 (e.symm.trans rfl)).2
    exact absurd h hq
  | x :: xs, p, q, hx, hq, e, k, hk => by
    have hfront : ∀ (c : Int) (l : List UInt8) (j : Nat), repS C.rd c l (j + 1) = repS C.rd (C.rd c l).2.1 (C.rd c l).2.2 j := by
      intro c l j
      induction j with
      | zero => rfl
      | succ j ih => rw [repS, ih]; rfl
    subst hk
    rw [List.length_cons, hfront]
    rw [List.flatMap_cons] at e
    have hox := hx x (by simp)
    rcases List.append_eq_append_iff.1 e with ⟨a, h1, h2⟩ | ⟨a, h1, h2⟩
    · have e1 := C.back x a hox
      rw [h1, e1]
      exact rep_cut xs a q (fun y hy => hx y (by simp [hy])) hq h2 _ rfl
    · by_cases ha : a = []
      · subst ha
        have hp : p = C.put x := by simpa using h1.symm
        have e1 := C.back x [] hox
        rw [List.append_nil] at e1
        rw [hp, e1]
        exact rep_cut xs [] q (fun y hy => hx y (by simp [hy])) hq (by simpa using h2.symm) _ rfl
      · have h3 := C.cut x p a hox ha h1
        rw [h3, repS_err C (by decide)]
end
/-- a list of up to m -/
def listR {α : Type} (m : Nat) (f : Rdr α) : Rdr (List α) := fun c l =>
  (if (repS f (numE m c l) (numL m c l) (numV m c l)).1 = 0 then repX f (numE m c l) (numL m c l) (numV m c l) else [], repS f (numE m c l) (numL m c l) (numV m c l))
theorem list_len {α : Type} (m : Nat) (f : Rdr α) (c : Int) (l : List UInt8) : (listR m f c l).1.length ≤ m := by
  show (if _ then _ else _ : List α).length ≤ m
  split
  · rw [repX_len]; exact numV_le m c l
  · exact Nat.zero_le _
def listP {α : Type} (put : α → List UInt8) (xs : List α) : List UInt8 := leb xs.length ++ xs.flatMap put
def listC {α : Type} (m : Nat) (hm : m < 18446744073709551616) (C : Codec α) : Codec (List α) where
  rd := listR m C.rd
  put := listP C.put
  ok := fun xs => xs.length ≤ m ∧ ∀ x ∈ xs, C.ok x
  keeps := fun c l h => by
    show repS C.rd (numE m c l) (numL m c l) (numV m c l) = _
    rw [numE_err h, numL_err h, numV_err h]; rfl
  len := fun c l => Nat.le_trans (repS_len C _ _ _) (numL_len m c l)
  canon := fun l h => by
    have hz : (repS C.rd (numE m 0 l) (numL m 0 l) (numV m 0 l)).1 = 0 := h
    have h0 : numE m 0 l = 0 := by
      by_cases h0 : numE m 0 l = 0
      · exact h0
      · rw [repS_err C h0] at hz; exact hz
    have hx : (listR m C.rd 0 l).1 = repX C.rd 0 (numL m 0 l) (numV m 0 l) := by
      show (if _ then _ else _) = _
      rw [if_pos hz, h0]
    have hs : (listR m C.rd 0 l).2.2 = (repS C.rd 0 (numL m 0 l) (numV m 0 l)).2 := by
      show (repS C.rd (numE m 0 l) (numL m 0 l) (numV m 0 l)).2 = _
      rw [h0]
    rw [h0] at hz
    obtain ⟨i1, i2⟩ := rep_canon C _ hz
    rw [hx, hs]
    refine ⟨⟨by rw [repX_len]; exact numV_le m 0 l, i1⟩, ?_⟩
    unfold listP
    rw [repX_len, List.append_assoc, ← i2]
    exact num_canon h0
  back := fun xs r h => by
    have hn : xs.length < 18446744073709551616 := by omega
    show listR m C.rd 0 (leb xs.length ++ xs.flatMap C.put ++ r) = _
    rw [List.append_assoc]
    unfold listR
    rw [numE_put hn h.1, numL_put hn h.1, numV_put hn h.1]
    obtain ⟨i1, i2⟩ := rep_back C r xs h.2 xs.length (Nat.le_refl _)
    rw [i1, i2]
    simp
  cut := fun xs p q h hq e => by
    have hn : xs.length < 18446744073709551616 := by omega
    show (repS C.rd (numE m 0 p) (numL m 0 p) (numV m 0 p)).1 = 40
    unfold listP at e
    rcases List.append_eq_append_iff.1 e with ⟨a, h1, h2⟩ | ⟨a, h1, h2⟩
    · rw [h1, numE_put hn h.1, numL_put hn h.1, numV_put hn h.1]
      exact rep_cut C xs a q h.2 hq h2 _ rfl
    · by_cases ha : a = []
      · subst ha
        have hp : p = leb xs.length ++ ([] : List UInt8) := by simpa using h1.symm
        rw [hp, numE_put hn h.1, numL_put hn h.1, numV_put hn h.1]
        exact rep_cut C xs [] q h.2 hq (by simpa using h2.symm) _ rfl
      · rw [num_cut hn ha h1, repS_err C (by decide)]
  okay := fun c l => ⟨list_len m C.rd c l, fun x hx => by
    have hx' : x ∈ (if (repS C.rd (numE m c l) (numL m c l) (numV m c l)).1 = 0 then repX C.rd (numE m c l) (numL m c l) (numV m c l) else []) := hx
    split at hx'
    · exact repX_ok C _ _ _ x hx'
    · cases hx'⟩
theorem int_rng {m : Nat} {hm : m < 18446744073709551616} {z : Int} (h : (intC m hm).ok z) : 0 ≤ z ∧ z ≤ m := by
  obtain ⟨h1, h2⟩ := h
  have h1' : z.toNat ≤ m := h1
  have h2' : ((z.toNat : Nat) : Int) = z := h2
  omega
end Go.Proofs.YtaegknpijgjioaaGreatDoor.Pk

/- A spec's bytes, and how they are read, in plain functions: labels, containers, specs; what may be a spec is read as it was; what is read is light. No condition. -/
set_option linter.unusedVariables false
set_option linter.unusedSimpArgs false
namespace Go.Proofs.YtaegknpijgjioaaGreatDoor.Pk
open WirePure LebMath Sd TextPure

def labelC : Codec Lbl := mapC (pairC (textC 33 (by decide)) (textC 16 (by decide))) (fun x => ⟨x.1, x.2⟩) (fun y => (y.key, y.val)) (fun _ => rfl)
def portC : Codec Int := intC 65535 (by decide)
def bigC : Codec Int := intC 1099511627776 (by decide)
def resC : Codec (Int × Int × Int) := pairC bigC (pairC bigC bigC)
def portsC : Codec (List Int) := listC 3 (by decide) portC
def probeC : Codec (Int × Int) := pairC (intC 1000 (by decide)) (intC 10 (by decide))
def ctrC : Codec Ctr := mapC (pairC (textC 16 (by decide)) (pairC (textC 33 (by decide)) (pairC resC (pairC resC (pairC portsC probeC)))))
  (fun x => ⟨x.1, x.2.1, x.2.2.1.1, x.2.2.1.2.1, x.2.2.1.2.2, x.2.2.2.1.1, x.2.2.2.1.2.1, x.2.2.2.1.2.2, x.2.2.2.2.1, x.2.2.2.2.2.1, x.2.2.2.2.2.2⟩)
  (fun y => (y.name, y.image, (y.rc, y.rm, y.rp), (y.lc, y.lm, y.lp), y.ports, (y.ev, y.fl))) (fun _ => rfl)
def labelsC : Codec (List Lbl) := listC 4 (by decide) labelC
def initC : Codec (List Ctr) := listC 3 (by decide) ctrC
def mainC : Codec (List Ctr) := listC 4 (by decide) ctrC
def specC : Codec Spc := mapC (pairC (textC 16 (by decide)) (pairC labelsC (pairC initC (pairC mainC (pairC (intC 3 (by decide)) (pairC (intC 1000 (by decide)) (intC 10 (by decide))))))))
  (fun x => ⟨x.1, x.2.1, x.2.2.1, x.2.2.2.1, x.2.2.2.2.1, x.2.2.2.2.2.1, x.2.2.2.2.2.2⟩)
  (fun S => (S.name, S.labels, S.init, S.main, S.restart, S.grace, S.prio)) (fun _ => rfl)
/-! ## what may be a spec may be written -/
theorem int_ok {m : Nat} {hm : m < 18446744073709551616} {z : Int} (h0 : 0 ≤ z) (h1 : z ≤ m) : (intC m hm).ok z := ⟨by show z.toNat ≤ m; omega, by show ((z.toNat : Nat) : Int) = z; omega⟩
theorem name_len {s : ByteArray} (h : isName s = true) : s.size ≤ 16 := by
  have := (nameL_len h).2
  simpa using this
theorem image_len {s : ByteArray} (h : isImage s = true) : s.size ≤ 33 := by
  have := imageL_len h
  simpa using this
theorem ports_each {a : List Ctr} : ∀ (l : List Int) (k : Nat) (seen : List Int), (portsFrom a k seen l).1 = 0 → ∀ z ∈ l, 1 ≤ z ∧ z ≤ 65535
  | [], _, _, _, z, hz => by cases hz
  | p :: l, k, seen, h, z, hz => by
    rw [portsFrom] at h
    split at h
    · simp at h
    · rename_i h1
      split at h
      · simp at h
      · rcases List.mem_cons.1 hz with rfl | hz
        · omega
        · exact ports_each l (k + 1) _ h z hz
theorem nums_each {f : Bool} {n0 n1 n2 l0 l1 l2 : Int} (h : ¬ 0 ≤ numsV f n0 n1 n2 l0 l1 l2) (g0 : 0 ≤ l0) (g1 : 0 ≤ l1) (g2 : 0 ≤ l2) : (0 ≤ n0 ∧ n0 ≤ 1099511627776) ∧ (0 ≤ n1 ∧ n1 ≤ 1099511627776) ∧ (0 ≤ n2 ∧ n2 ≤ 1099511627776) := by
  have key : ∀ n l : Int, 0 ≤ l → numV f n l = false → 0 ≤ n ∧ n ≤ 1099511627776 := by
    intro n l hl hn
    unfold Sd.numV big at hn
    by_cases hz : n = 0
    · subst hz; omega
    · have : (n != 0) = true := by simpa using hz
      rw [this] at hn
      simp at hn
      omega
  unfold numsV at h
  by_cases h0 : Sd.numV f n0 l0 = true
  · rw [if_pos h0] at h; omega
  · rw [if_neg h0] at h
    by_cases h1 : Sd.numV f n1 l1 = true
    · rw [if_pos h1] at h; omega
    · rw [if_neg h1] at h
      by_cases h2 : Sd.numV f n2 l2 = true
      · rw [if_pos h2] at h; omega
      · exact ⟨key n0 l0 g0 (by simpa using h0), key n1 l1 g1 (by simpa using h1), key n2 l2 g2 (by simpa using h2)⟩
theorem probe_each {ev fl : Int} {init : Bool} (h : (probeV ev fl init).1 = 0) : (0 ≤ ev ∧ ev ≤ 1000) ∧ (0 ≤ fl ∧ fl ≤ 10) := by
  unfold probeV at h
  split at h
  · simp at h
  · rename_i h1
    split at h
    · simp at h
    · rename_i h2
      omega
theorem ctr_ok {x : Ctr} {a : List Ctr} {init : Bool} (h : (oneV x a init).1 = 0) : ctrC.ok x := by
  rw [oneV_ok] at h
  obtain ⟨e1, e2, e3, e4, e5, e6, e7, e8⟩ := h
  obtain ⟨n0, n1, n2⟩ := nums_each e4 (by omega) (by omega) (by omega)
  obtain ⟨m0, m1, m2⟩ := nums_each e5 n0.1 n1.1 n2.1
  obtain ⟨p0, p1⟩ := probe_each e8
  have hp := ports_each _ _ _ e7
  refine ⟨⟨name_len e1, image_len e3, ⟨int_ok n0.1 n0.2, int_ok n1.1 n1.2, int_ok n2.1 n2.2⟩, ⟨int_ok m0.1 m0.2, int_ok m1.1 m1.2, int_ok m2.1 m2.2⟩, ⟨?_, fun z hz => int_ok (by have := hp z hz; omega) (by have := hp z hz; omega)⟩, int_ok p0.1 p0.2, int_ok p1.1 p1.2⟩, rfl⟩
  show x.ports.length ≤ 3
  omega
theorem keyL_len {l : List UInt8} (h : keyL l = true) : l.length ≤ 33 := by
  unfold keyL at h
  have h' : nameL (Lib.cut l [47]).1 = true ∧ (!(Lib.cut l [47]).2.2 || nameL (Lib.cut l [47]).2.1) = true := by
    rw [← Bool.and_eq_true]; exact h
  have h1 := (nameL_len h'.1).2
  cases hq : (Lib.cut l [47]).2.2 with
  | false =>
    obtain ⟨e1, _⟩ := cut_none 47 l hq
    rw [e1] at h1; omega
  | true =>
    have h2 := h'.2
    rw [hq] at h2
    have h3 := (nameL_len (by simpa using h2)).2
    have := congrArg List.length (cut_join 47 l hq)
    simp at this
    omega
theorem key_len {s : ByteArray} (h : isKey s = true) : s.size ≤ 33 := by
  have := keyL_len h
  simpa using this
theorem val_len {s : ByteArray} (h : isVal s = true) : s.size ≤ 16 := by
  unfold isVal valL at h
  rw [Bool.and_eq_true] at h
  have := of_decide_eq_true h.1
  simpa using this
theorem label_each {name : ByteArray} : ∀ (l : List Lbl) (i : Nat) (p : Option Lbl), (labelsFrom name i p l).1 = 0 → ∀ x ∈ l, labelC.ok x
  | [], _, _, _, x, hx => by cases hx
  | y :: l, i, p, h, x, hx => by
    rw [labelsFrom_cons] at h
    split at h
    · simp at h
    · rename_i h1
      split at h
      · simp at h
      · split at h
        · simp at h
        · rename_i h3
          rcases List.mem_cons.1 hx with rfl | hx
          · exact ⟨⟨key_len (by simpa using h1), val_len (by simpa using h3)⟩, rfl⟩
          · exact label_each l (i + 1) (some y) h x hx
theorem spec_ok {S : Spc} (h : (checkV S).1 = 0) : specC.ok S := by
  rw [check_ok] at h
  obtain ⟨e1, e2, e3, e4, e5, e6, e7⟩ := h
  unfold labelsV at e2
  split at e2
  · simp at e2
  · rename_i h2
    have ht : (1 ≤ S.restart ∧ S.restart ≤ 3) ∧ (0 ≤ S.grace ∧ S.grace ≤ 1000) ∧ (0 ≤ S.prio ∧ S.prio ≤ 10) := by
      unfold tailV at e7
      split at e7
      · simp at e7
      · split at e7
        · simp at e7
        · split at e7
          · simp at e7
          · omega
    obtain ⟨t1, t2, t3⟩ := ht
    refine ⟨⟨name_len e1, ⟨by show S.labels.length ≤ 4; omega, label_each _ _ _ e2⟩, ⟨e3, fun x hx => ?_⟩, ⟨e5.2, fun x hx => ?_⟩, int_ok (z := S.restart) (by omega) t1.2, int_ok (z := S.grace) t2.1 t2.2, int_ok (z := S.prio) t3.1 t3.2⟩, rfl⟩
    · obtain ⟨a, ha⟩ := SpecOwn.ctrs_each _ _ e4 x hx
      exact ctr_ok ha
    · obtain ⟨a, ha⟩ := SpecOwn.ctrs_each _ _ e6 x hx
      exact ctr_ok ha
end Go.Proofs.YtaegknpijgjioaaGreatDoor.Pk

/- The contracts of pack's takePort, takeRes, takeLabel: each reads what the plain codes say, and leaves all but its reader as it was. Condition: the bytes that are left are no more than 2^48. -/
set_option linter.unusedVariables false
set_option linter.unusedSimpArgs false
namespace Go.Proofs.YtaegknpijgjioaaGreatDoor
open Go.ChangeShapes Go.WideShapes Go.ChangeAt Go.RowKit Go.Lib
open LebMath WirePure Sd Wire
namespace Pk

/-- so many bytes may be left -/
abbrev Few (l : List UInt8) : Prop := l.length ≤ 281474976710656
theorem few_num {k : Nat} {hk : k < 18446744073709551616} {c : Int} {l : List UInt8} {x c' : Int} {l' : List UInt8} (hq : (intC k hk).rd c l = (x, c', l')) (h : Few l) : Few l' := by
  have := (intC k hk).len c l
  rw [hq] at this
  exact Nat.le_trans this h
theorem few {α : Type} {C : Codec α} {c : Int} {l : List UInt8} {x : α} {c' : Int} {l' : List UInt8} (hq : C.rd c l = (x, c', l')) (h : Few l) : Few l' := by
  have := C.len c l
  rw [hq] at this
  exact Nat.le_trans this h
end Pk
end Go.Proofs.YtaegknpijgjioaaGreatDoor

/- The contracts of pack.takeList at labels and numbers: a list in memory of the call's own, nil with an error; all but the reader is left as it was. Condition: the bytes that are left are no more than 2^48. -/
set_option linter.unusedVariables false
set_option linter.unusedSimpArgs false
namespace Go.Proofs.YtaegknpijgjioaaGreatDoor
open Go.ChangeShapes Go.WideShapes Go.ChangeAt Go.RowKit Go.Lib
open LebMath WirePure Sd Wire SpecOwn
namespace Pk

theorem flatL_snoc : ∀ (l : List Lbl) (x : Lbl), flatL (l ++ [x]) = flatL l ++ [.string x.key, .string x.val]
  | [], x => rfl
  | y :: l, x => by rw [List.cons_append, flatL, flatL_snoc l x, flatL]; rfl
def flatI (l : List Int) : List Value := l.map (Value.int .i64)
theorem flatI_snoc (l : List Int) (x : Int) : flatI (l ++ [x]) = flatI l ++ [.int .i64 x] := by simp [flatI]
theorem flatI_length (l : List Int) : (flatI l).length = l.length * 1 := by simp [flatI]
theorem nums_own {w : World} {B : Nat} {A : Option Addr} {c : Nat} {l : List Int} (h : w.ownsRow B 3 1 (.slice A l.length c) l.length (flatI l)) (hI : ∀ z ∈ l, (Lit.int IntKind.i64 z).wf = true) : Lists.Nums .i64 w A l ∧ From B A := by
  refine ⟨fun k z hz => ?_, fun x hx => (h.lt x.block (by rw [hx]; rfl)).1⟩
  obtain ⟨a', ha', hc⟩ := nums_of_own h k z hz
  exact ⟨hI z (List.mem_of_getElem? hz), a', ha', by have := World.block_lt_of_cell? w _ hc; rwa [Lists.add_block] at this, hc⟩
theorem port_fits (c : Int) (l : List UInt8) : ∀ n, ∀ z ∈ repX portC.rd c l n, (Lit.int IntKind.i64 z).wf = true
  | 0, z, hz => by cases hz
  | n + 1, z, hz => by
    rw [repX] at hz
    rcases List.mem_append.1 hz with hz | hz
    · exact port_fits c l n z hz
    · rw [List.mem_singleton.1 hz]
      have h := numV_le 65535 (repS portC.rd c l n).1 (repS portC.rd c l n).2
      have e : (portC.rd (repS portC.rd c l n).1 (repS portC.rd c l n).2).1 = ((numV 65535 (repS portC.rd c l n).1 (repS portC.rd c l n).2 : Nat) : Int) := rfl
      rw [e]
      generalize numV 65535 (repS portC.rd c l n).1 (repS portC.rd c l n).2 = q at *
      simp only [Lit.wf, IntKind.min, IntKind.max, Bool.and_eq_true]
      simp [IntKind.signed, IntKind.bits]
      omega
/-- what comes behind a reader's call, in new memory -/
theorem _root_.Go.Proofs.YtaegknpijgjioaaGreatDoor.Wire.Aside.trans2 {g : Nat} {w w2 w7 : World} (h : Wire.Aside g w w2) (hb : Below w.heap.size w2 w7) : Wire.Aside g w w7 :=
  ⟨hb.os.trans h.os, hb.tape.trans h.tape, hb.output.trans h.output, Nat.le_trans h.size hb.size, fun k hk => (hb.block k hk.1).trans (h.block k hk)⟩
theorem info_labels : (Tryz.prog.info? 49).map (fun i => (i.zero, i.size, i.bytes)) = some (some (.agg #[.string ⟨#[]⟩, .string ⟨#[]⟩]), 2, 32) := by kernel_rfl
theorem info_ports : (Tryz.prog.info? 3).map (fun i => (i.zero, i.size, i.bytes)) = some (some (.int .i64 0), 1, 8) := by kernel_rfl
end Pk
end Go.Proofs.YtaegknpijgjioaaGreatDoor

/- The contracts of pack's takeRes, takeContainer, takeList (at containers), TakeLabels, Raw: each reads what the plain codes say, in memory of the call's own; all but the reader is left as it was. Condition: the bytes that are left are no more than 2^48. -/
set_option linter.unusedVariables false
set_option linter.unusedSimpArgs false
namespace Go.Proofs.YtaegknpijgjioaaGreatDoor
open Go.ChangeShapes Go.WideShapes Go.ChangeAt Go.RowKit Go.Lib
open LebMath WirePure Sd Wire SpecOwn
namespace Pk

/-- all but block b is as it was -/
structure Only (b : Nat) (w v : World) : Prop where
  os : v.os = w.os
  tape : v.tape = w.tape
  output : v.output = w.output
  size : w.heap.size ≤ v.heap.size
  block : ∀ i, i ≠ b → v.heap[i]? = w.heap[i]?
theorem Only.refl (b : Nat) (w : World) : Only b w w := ⟨rfl, rfl, rfl, Nat.le_refl _, fun _ _ => rfl⟩
theorem Only.set {b : Nat} {w v : World} (h : Only b w v) (j : Nat) (u : Value) : Only b w (v.setCell ⟨b, j, none⟩ u) :=
  ⟨h.os, h.tape, h.output, by simpa using h.size, fun i hi => (Below.heap_setCell v ⟨b, j, none⟩ u i hi).trans (h.block i hi)⟩
theorem Only.aside {b g : Nat} {a w v : World} (h : Only b w v) (hk : Wire.Aside g a w) (hb : a.heap.size ≤ b) : Wire.Aside g a v :=
  ⟨h.os.trans hk.os, h.tape.trans hk.tape, h.output.trans hk.output, Nat.le_trans hk.size h.size, fun i hi => (h.block i (by have := hi.1; omega)).trans (hk.block i hi)⟩
theorem nums_move {w v : World} {P : Option Addr} {l : List Int} (h : Lists.Nums .i64 w P l) (hs : w.heap.size ≤ v.heap.size) (hb : ∀ a, P = some a → l ≠ [] → a.block < w.heap.size → v.heap[a.block]? = w.heap[a.block]?) : Lists.Nums .i64 v P l := by
  intro j z hj
  obtain ⟨hw, a, ha, hla, hca⟩ := h j z hj
  refine ⟨hw, a, ha, Nat.lt_of_lt_of_le hla hs, ?_⟩
  rw [World.cell?_of_block (w := w) (by rw [Lists.add_block]; exact hb a ha (fun e => by rw [e] at hj; simp at hj) hla)]
  exact hca
theorem Only.nums {b : Nat} {w v : World} {P : Option Addr} {l : List Int} (h : Only b w v) (hn : Lists.Nums .i64 w P l) (hne : ∀ a, P = some a → a.block ≠ b) : Lists.Nums .i64 v P l :=
  nums_move hn h.size (fun a ha _ _ => h.block _ (hne a ha))
theorem nums_aside {B g : Nat} {w v : World} {P : Option Addr} {l : List Int} (hn : Lists.Nums .i64 w P l) (hF : From B P) (hg : g < B) (h : Wire.Aside g w v) : Lists.Nums .i64 v P l :=
  nums_move hn h.size (fun a ha _ hl => h.block _ ⟨hl, by have := hF a ha; omega⟩)
theorem lbls_move {w v : World} {P : Option Addr} {l : List Lbl} (h : Lbls w P l) (hs : w.heap.size ≤ v.heap.size) (hb : ∀ a, P = some a → a.block < w.heap.size → v.heap[a.block]? = w.heap[a.block]?) : Lbls v P l := by
  intro j z hj
  obtain ⟨a, ha, hla, hca⟩ := h j z hj
  exact ⟨a, ha, Nat.lt_of_lt_of_le hla hs, hca.keep (by rw [Lists.add_block]; exact hb a ha hla)⟩
theorem lbls_aside {B g : Nat} {w v : World} {P : Option Addr} {l : List Lbl} (hn : Lbls w P l) (hF : From B P) (hg : g < B) (h : Wire.Aside g w v) : Lbls v P l :=
  lbls_move hn h.size (fun a ha hl => h.block _ ⟨hl, by have := hF a ha; omega⟩)
theorem Only.lbls {b : Nat} {w v : World} {P : Option Addr} {l : List Lbl} (h : Only b w v) (hn : Lbls w P l) (hne : ∀ a, P = some a → a.block ≠ b) : Lbls v P l :=
  lbls_move hn h.size (fun a ha _ => h.block _ (hne a ha))
/-- containers in blocks from B on, their ports too -/
def CtrsUp (B : Nat) (w : World) (A : Option Addr) (l : List Ctr) : Prop := ∀ (k : Nat) (x : Ctr), l[k]? = some x → x.Fits ∧ ∃ a P c, A = some a ∧ B ≤ a.block ∧ a.block < w.heap.size ∧ x.cellsAt P c w (a.add (k * 11)) ∧ Lists.Nums .i64 w P x.ports ∧ From B P
theorem CtrsUp.ctrs {B : Nat} {w : World} {A : Option Addr} {l : List Ctr} (h : CtrsUp B w A l) : Ctrs w A l := by
  intro j x hj
  obtain ⟨hf, a, P, c, hA, h1, h2, hc, hn, hP⟩ := h j x hj
  exact ⟨hf, a, P, c, hA, h2, hc, hn⟩
theorem CtrsUp.less {B B' : Nat} {w : World} {A : Option Addr} {l : List Ctr} (h : CtrsUp B w A l) (hB : B' ≤ B) : CtrsUp B' w A l := by
  intro j x hj
  obtain ⟨hf, a, P, c, hA, h1, h2, hc, hn, hP⟩ := h j x hj
  exact ⟨hf, a, P, c, hA, Nat.le_trans hB h1, h2, hc, hn, fun p hp => Nat.le_trans hB (hP p hp)⟩
theorem CtrsUp.move {B : Nat} {w v : World} {A : Option Addr} {l : List Ctr} (h : CtrsUp B w A l) (hs : w.heap.size ≤ v.heap.size) (hb : ∀ i, B ≤ i → i < w.heap.size → v.heap[i]? = w.heap[i]?) : CtrsUp B v A l := by
  intro j x hj
  obtain ⟨hf, a, P, c, hA, h1, h2, hc, hn, hP⟩ := h j x hj
  exact ⟨hf, a, P, c, hA, h1, Nat.lt_of_lt_of_le h2 hs, hc.keep (by rw [Lists.add_block]; exact hb _ h1 h2), nums_move hn hs (fun a ha _ hl => hb _ (hP a ha) hl), hP⟩
theorem CtrsUp.aside {B g : Nat} {w v : World} {A : Option Addr} {l : List Ctr} (h : CtrsUp B w A l) (hg : g < B) (hk : Wire.Aside g w v) : CtrsUp B v A l :=
  h.move hk.size (fun i h1 h2 => hk.block i ⟨h2, by omega⟩)
theorem CtrsUp.below {B : Nat} {w v : World} {A : Option Addr} {l : List Ctr} (h : CtrsUp B w A l) (hk : Below w.heap.size w v) : CtrsUp B v A l :=
  h.move hk.size (fun i h1 h2 => hk.block i h2)
theorem Only.up {b B : Nat} {w v : World} {A : Option Addr} {l : List Ctr} (h : Only b w v) (hn : CtrsUp B w A l) (hb : b < B) : CtrsUp B v A l :=
  hn.move h.size (fun i h1 _ => h.block i (by omega))
/-- a spec's lists in blocks from B on -/
structure SpcUp (B : Nat) (S : Spc) (w : World) (LA IA MA : Option Addr) : Prop where
  labels : Lbls w LA S.labels
  lfrom : From B LA
  init : CtrsUp B w IA S.init
  main : CtrsUp B w MA S.main
  nums : (S.labels.length ≤ 9223372036854775807 ∧ S.init.length ≤ 9223372036854775807 ∧ S.main.length ≤ 9223372036854775807) ∧ I64 S.restart ∧ I64 S.grace ∧ I64 S.prio
theorem SpcUp.in {B : Nat} {S : Spc} {w : World} {LA IA MA : Option Addr} {lc ic mc : Nat} (h : SpcUp B S w LA IA MA) : S.In w LA lc IA ic MA mc :=
  ⟨h.labels, h.init.ctrs, h.main.ctrs, h.nums.1.1, h.nums.1.2.1, h.nums.1.2.2, h.nums.2.1, h.nums.2.2.1, h.nums.2.2.2⟩
theorem SpcUp.aside {B g : Nat} {S : Spc} {w v : World} {LA IA MA : Option Addr} (h : SpcUp B S w LA IA MA) (hg : g < B) (hk : Wire.Aside g w v) : SpcUp B S v LA IA MA :=
  ⟨lbls_aside h.labels h.lfrom hg hk, h.lfrom, h.init.aside hg hk, h.main.aside hg hk, h.nums⟩
theorem SpcUp.below {B : Nat} {S : Spc} {w v : World} {LA IA MA : Option Addr} (h : SpcUp B S w LA IA MA) (hk : Below w.heap.size w v) : SpcUp B S v LA IA MA :=
  ⟨h.labels.below hk, h.lfrom, h.init.below hk, h.main.below hk, h.nums⟩
/-- what a row of containers under way holds -/
def Gat (B : Nat) (w : World) (v : Value) (L : List Held) : Prop := ∀ t ∈ L, t.x.Fits ∧ Lists.Nums .i64 w t.P t.x.ports ∧ From B t.P ∧ t.x.ports.length ≤ t.c ∧ (t.x.ports ≠ [] → ∀ p, t.P = some p → v.ownBlock ≠ some p.block)
theorem Gat.aside {B g : Nat} {w v : World} {u : Value} {L : List Held} (h : Gat B w u L) (hk : Wire.Aside g w v) (hg : g < B) : Gat B v u L := fun t ht => by
  obtain ⟨h1, h2, h3, h4, h5⟩ := h t ht
  exact ⟨h1, nums_aside h2 h3 hg hk, h3, h4, h5⟩
theorem Gat.grown {B : Nat} {w w7 : World} {u v' : Value} {L : List Held} {o : Obj} (h : Gat B w u L) (hg : (w.alloc o).grownBy w7 u.ownBlock) (hat : v'.ownBlock = u.ownBlock ∨ v'.ownBlock = some (w.heap.size + 1)) : Gat B w7 v' L := fun t ht => by
  obtain ⟨h1, h2, h3, h4, h5⟩ := h t ht
  have hsz : (w.alloc o).heap.size = w.heap.size + 1 := by simp
  refine ⟨h1, nums_move h2 (by have := hg.size; omega) (fun a ha hne hl => ?_), h3, h4, fun hne p hp => ?_⟩
  · exact (hg.block a.block (by omega) (fun e => h5 hne a ha e.symm)).trans (Below.heap_alloc w o a.block hl)
  · rcases hat with e | e
    · rw [e]; exact h5 hne p hp
    · rw [e]
      intro e2
      injection e2 with e2
      cases hq : t.x.ports with
      | nil => exact hne hq
      | cons z zs =>
        obtain ⟨_, a, ha, hla, _⟩ := h2 0 z (by rw [hq]; rfl)
        rw [hp] at ha
        injection ha with ha
        subst ha
        omega
theorem Gat.up {B : Nat} {w : World} {A : Option Addr} {n cap : Nat} {L : List Held} (h : Gat B w (.slice A n cap) L) (ho : w.ownsRow B 76 11 (.slice A n cap) n (flat L)) : CtrsUp B w A (L.map (·.x)) := by
  intro k x hk
  rw [List.getElem?_map, Option.map_eq_some_iff] at hk
  obtain ⟨t, ht, rfl⟩ := hk
  obtain ⟨h1, h2, h3, h4, h5⟩ := h t (List.mem_of_getElem? ht)
  have hkl : k < L.length := (List.getElem?_eq_some_iff.1 ht).1
  have hln := ho.1
  rw [flat_length] at hln
  rcases ho.2 with ⟨e1, h0⟩ | ⟨g, cap', cur, e1, e2, e3, e4⟩
  · omega
  · injection e1 with e1 e5 e6
    subst e1
    have hc : ∀ j, j < 11 → w.cell? ⟨g, k * 11 + j, none⟩ = t.cells[j]? := fun j hj => by
      rw [ho.cellAt (k * 11 + j) (by omega), flat_at ht j hj]
    have e0 : (⟨g, 0, none⟩ : Addr).add (k * 11) = ⟨g, k * 11, none⟩ := by unfold Addr.add; split <;> simp_all
    refine ⟨h1, _, t.P, t.c, rfl, e2, lt_of_block e3, ?_, h2, h3⟩
    rw [e0]
    exact ⟨hc 0 (by omega), hc 1 (by omega), hc 2 (by omega), hc 3 (by omega), hc 4 (by omega), hc 5 (by omega), hc 6 (by omega), hc 7 (by omega), hc 8 (by omega), hc 9 (by omega), hc 10 (by omega), h4⟩
theorem i64_rng {z : Int} {m : Nat} (h : 0 ≤ z ∧ z ≤ m) (hm : m ≤ 1099511627776) : I64 z := by
  unfold I64
  have : (m : Int) ≤ 1099511627776 := by omega
  omega
theorem ctr_fits_ok {x : Ctr} (h : ctrC.ok x) : x.Fits := by
  obtain ⟨⟨_, _, ⟨r1, r2, r3⟩, ⟨l1, l2, l3⟩, ⟨p1, _⟩, v1, v2⟩, _⟩ := h
  have hp : x.ports.length ≤ 3 := p1
  exact ⟨i64_rng (int_rng r1) (by omega), i64_rng (int_rng r2) (by omega), i64_rng (int_rng r3) (by omega), i64_rng (int_rng l1) (by omega), i64_rng (int_rng l2) (by omega), i64_rng (int_rng l3) (by omega), i64_rng (int_rng v1) (by omega), i64_rng (int_rng v2) (by omega), by omega⟩
theorem ctr_fits {c : Int} {l : List UInt8} {x : Ctr} {c' : Int} {l' : List UInt8} (hq : ctrC.rd c l = (x, c', l')) : x.Fits := by
  have h := ctrC.okay c l
  rw [hq] at h
  exact ctr_fits_ok h
theorem spec_nums {c : Int} {l : List UInt8} {S : Spc} {c' : Int} {l' : List UInt8} (hq : specC.rd c l = (S, c', l')) : (S.labels.length ≤ 9223372036854775807 ∧ S.init.length ≤ 9223372036854775807 ∧ S.main.length ≤ 9223372036854775807) ∧ I64 S.restart ∧ I64 S.grace ∧ I64 S.prio := by
  have h := specC.okay c l
  rw [hq] at h
  obtain ⟨⟨_, ⟨h1, _⟩, ⟨h2, _⟩, ⟨h3, _⟩, h4, h5, h6⟩, _⟩ := h
  have g1 : S.labels.length ≤ 4 := h1
  have g2 : S.init.length ≤ 3 := h2
  have g3 : S.main.length ≤ 4 := h3
  exact ⟨⟨by omega, by omega, by omega⟩, i64_rng (int_rng h4) (by omega), i64_rng (int_rng h5) (by omega), i64_rng (int_rng h6) (by omega)⟩
theorem info_ctrU : (Tryz.prog.info? 76).map (fun i => (i.zero, i.size, i.bytes)) = some (some (.agg #[.string ⟨#[]⟩, .string ⟨#[]⟩, .int .i64 0, .int .i64 0, .int .i64 0, .int .i64 0, .int .i64 0, .int .i64 0, .slice none 0 0, .int .i64 0, .int .i64 0]), 11, 120) := by kernel_rfl
end Pk
end Go.Proofs.YtaegknpijgjioaaGreatDoor

/- What package pack's Of, and what comes behind it, live of: boxes and lists carried over what a reader turns. No condition. -/
set_option linter.unusedVariables false
set_option linter.unusedSimpArgs false
namespace Go.Proofs.YtaegknpijgjioaaGreatDoor
open Go.ChangeShapes Go.WideShapes Go.ChangeAt Go.RowKit Go.Lib
open LebMath WirePure Sd Wire SpecOwn SpecRef
namespace Pk

def t_wire : ByteArray := ⟨#[119, 105, 114, 101]⟩
/-- what Of tells of bytes: a code and a path -/
def ofY (l : List UInt8) : Say := firstV [newV (endE (specC.rd 0 l).2.1 (specC.rd 0 l).2.2) t_wire, checkV (specC.rd 0 l).1]
theorem spec_light {S : Spc} (h : specC.ok S) : Book.Light S := by
  obtain ⟨⟨h0, ⟨h1, g1⟩, ⟨h2, g2⟩, ⟨h3, g3⟩, _⟩, _⟩ := h
  have e0 : S.name.size ≤ 16 := h0
  have e1 : S.labels.length ≤ 4 := h1
  have e2 : S.init.length ≤ 3 := h2
  have e3 : S.main.length ≤ 4 := h3
  have lc : ∀ x : Ctr, ctrC.ok x → Book.lightC x := fun x hx => by
    obtain ⟨⟨o1, o2, _, _, ⟨o5, _⟩, _⟩, _⟩ := hx
    have n1 : x.name.size ≤ 16 := o1
    have n2 : x.image.size ≤ 33 := o2
    have n5 : x.ports.length ≤ 3 := o5
    exact ⟨by omega, by omega, by omega⟩
  refine ⟨⟨by omega, by omega, by omega, by omega⟩, fun x hx => ?_, fun x hx => lc x (g2 x hx), fun x hx => lc x (g3 x hx)⟩
  obtain ⟨⟨o1, o2⟩, _⟩ := g1 x hx
  have n1 : x.key.size ≤ 33 := o1
  have n2 : x.val.size ≤ 16 := o2
  exact ⟨by omega, by omega⟩
theorem Only.below {b B : Nat} {a w v : World} (h : Only b w v) (hb : Below B a w) (hB : B ≤ b) : Below B a v :=
  hb.trans ⟨h.os, h.tape, h.output, h.size, fun i hi => h.block i (by omega)⟩
theorem SpcUp.less {B B' : Nat} {S : Spc} {w : World} {LA IA MA : Option Addr} (h : SpcUp B S w LA IA MA) (hB : B' ≤ B) : SpcUp B' S w LA IA MA :=
  ⟨h.labels, fun a ha => Nat.le_trans hB (h.lfrom a ha), h.init.less hB, h.main.less hB, h.nums⟩
theorem Only.spc {b B B' : Nat} {S : Spc} {w v : World} {LA IA MA : Option Addr} (h : Only b w v) (hn : SpcUp B S w LA IA MA) (hb : b < B) (hB : B' ≤ B) : SpcUp B' S v LA IA MA :=
  SpcUp.less ⟨h.lbls hn.labels (fun a ha => by have := hn.lfrom a ha; omega), hn.lfrom, h.up hn.init hb, h.up hn.main hb, hn.nums⟩ hB
theorem isin_box {D : Nat → Prop} {w v : World} {E : Value} {c : Int} {p : List ByteArray} {b : Nat} {s : ByteArray} {A : Option Addr} {n m : Nat} (h : IsIn D w E c p) (ho : Only b w v) (h0 : w.cell? ⟨b, 1, none⟩ = some (.slice A n m)) : IsIn (KB 0 v) v E c p := by
  induction h with
  | code c => exact .code c
  | step b' E s c p hd h2 h3 hr ih =>
    by_cases e : b' = b
    · subst e
      rw [h0] at h3
      obtain rfl := Option.some.inj h3
      cases hr
    · have hk := ho.block b' e
      exact .step b' E s c p (Nat.zero_le _) ((World.cell?_of_block (w := w) (a := ⟨b', 0, none⟩) hk).trans h2) ((World.cell?_of_block (w := w) (a := ⟨b', 1, none⟩) hk).trans h3) ih
theorem Only.says {D : Nat → Prop} {w v : World} {E : Value} {y : Say} {b : Nat} {x0 : Value} {A : Option Addr} {n m : Nat} {xs : List Value} {t : TypeId} (ho : Only b w v) (h : Says D w E y) (hz : w.heap[b]? = some (.cells (x0 :: .slice A n m :: xs).toArray t (0, 0))) : Says (KB 0 v) v E y := by
  rcases h with h | ⟨h0, hs, p, h1, h2, h4⟩
  · exact .inl h
  · exact .inr ⟨h0, hs, p, isin_box (s := ⟨#[]⟩) h1 ho (A := A) (n := n) (m := m) (by simp [World.cell?, hz]), h2, h4⟩
/-- all blocks but the reader's -/
def KR (g : Nat) (_ : World) (b : Nat) : Prop := b ≠ g
theorem isin_off {D : Nat → Prop} {w : World} {E : Value} {c : Int} {p : List ByteArray} {g : Nat} {z : Int} (h : IsIn D w E c p) (hg : w.cell? ⟨g, 0, none⟩ = some (.int .i64 z)) : IsIn (KR g w) w E c p := by
  induction h with
  | code c => exact .code c
  | step b E s c p hd h0 h1 _ ih =>
    refine .step b E s c p (fun e => ?_) h0 h1 ih
    subst e
    rw [hg] at h0
    cases h0
theorem says_off {D : Nat → Prop} {w : World} {E : Value} {y : Say} {g : Nat} {z : Int} (h : Says D w E y) (hg : w.cell? ⟨g, 0, none⟩ = some (.int .i64 z)) : SaysK (KR g) y E w := by
  rcases h with h | ⟨h0, hs, p, h1, h2, h4⟩
  · exact .inl h
  · exact .inr ⟨h0, hs, p, isin_off h1 hg, h2, h4⟩
theorem kr_keep {g : Nat} {w w' : World} (h : Wire.Aside g w w') : ∀ b, KR g w b → b < w.heap.size → KR g w' b ∧ w'.heap[b]? = w.heap[b]? := fun b hb hl => ⟨hb, h.block b ⟨hl, hb⟩⟩
/-- a reader stays a reader, all else as it was -/
def AR (g : Nat) (w w' : World) : Prop := Wire.Aside g w w' ∧ ((∃ z, w.cell? ⟨g, 0, none⟩ = some (.int .i64 z)) → ∃ z, w'.cell? ⟨g, 0, none⟩ = some (.int .i64 z))
end Pk
end Go.Proofs.YtaegknpijgjioaaGreatDoor

/- The contracts of pack's putPort, putRes, putLabel, putContainer, putList: each writes what the plain codes say, and leaves what the writer does not own as it was. Condition: what is written has at most 2^47 bytes. -/
set_option linter.unusedVariables false
set_option linter.unusedSimpArgs false
namespace Go.Proofs.YtaegknpijgjioaaGreatDoor
open Go.ChangeShapes Go.WideShapes Go.ChangeAt Go.RowKit Go.Lib
open LebMath WirePure Sd Wire
namespace Pk

theorem txB_le {s : ByteArray} {n : Nat} (h : s.size ≤ n) (hn : n ≤ 1000000 := by omega) : (txB s).length ≤ 10 + n := by
  unfold txB
  have h1 := leb_le_ten (n := s.size) (by omega)
  have h2 : s.data.toList.length = s.size := Array.length_toList
  rw [List.length_append]
  omega
theorem int_put_len {m : Nat} {hm : m < 18446744073709551616} {z : Int} (h : (intC m hm).ok z) : ((intC m hm).put z).length ≤ 10 := by
  have := int_rng h
  show (leb z.toNat).length ≤ 10
  exact leb_le_ten (by omega)
theorem flat_put_len {α : Type} (put : α → List UInt8) (n : Nat) : ∀ (l : List α), (∀ x ∈ l, (put x).length ≤ n) → (l.flatMap put).length ≤ l.length * n
  | [], _ => by simp
  | x :: l, h => by
    have h1 := h x (by simp)
    have h2 := flat_put_len put n l (fun y hy => h y (by simp [hy]))
    rw [List.flatMap_cons, List.length_append, List.length_cons, Nat.add_mul]
    omega
theorem res_put_len {x : Int × Int × Int} (h : resC.ok x) : (resC.put x).length ≤ 30 := by
  obtain ⟨a, b, d⟩ := x
  obtain ⟨h1, h2, h3⟩ := h
  have l1 := int_put_len h1
  have l2 := int_put_len h2
  have l3 := int_put_len h3
  show (bigC.put a ++ (bigC.put b ++ bigC.put d)).length ≤ 30
  rw [List.length_append, List.length_append]
  show (bigC.put a).length + ((bigC.put b).length + (bigC.put d).length) ≤ 30
  have e1 : (bigC.put a).length ≤ 10 := l1
  have e2 : (bigC.put b).length ≤ 10 := l2
  have e3 : (bigC.put d).length ≤ 10 := l3
  omega
theorem port_put_len {x : Int} (h : portC.ok x) : (portC.put x).length ≤ 10 := int_put_len h
theorem ports_put_len {l : List Int} (hn : l.length ≤ 3) (h : ∀ x ∈ l, portC.ok x) : (portsC.put l).length ≤ 40 := by
  have h1 := flat_put_len portC.put 10 l (fun x hx => port_put_len (h x hx))
  have h2 := leb_le_ten (n := l.length) (by omega)
  show (leb l.length ++ l.flatMap portC.put).length ≤ 40
  rw [List.length_append]
  omega
theorem label_put_eq (x : Lbl) : labelC.put x = txB x.key ++ txB x.val := rfl
theorem label_put_len {x : Lbl} (h : x.key.size ≤ 1000 ∧ x.val.size ≤ 1000) : (labelC.put x).length ≤ 2020 := by
  have h1 := txB_le h.1
  have h2 := txB_le h.2
  rw [label_put_eq, List.length_append]
  omega
theorem ctr_put_eq (x : Ctr) : ctrC.put x = txB x.name ++ (txB x.image ++ (resC.put (x.rc, x.rm, x.rp) ++ (resC.put (x.lc, x.lm, x.lp) ++ (portsC.put x.ports ++ ((intC 1000 (by decide)).put x.ev ++ (intC 10 (by decide)).put x.fl))))) := rfl
theorem ctr_put_len {x : Ctr} (h : ctrC.ok x) : (ctrC.put x).length ≤ 300 := by
  obtain ⟨⟨o1, o2, o3, o4, ⟨o5a, o5⟩, o6, o7⟩, _⟩ := h
  have l1 : (txB x.name).length ≤ 10 + 16 := txB_le o1
  have l2 : (txB x.image).length ≤ 10 + 33 := txB_le o2
  have l3 : (resC.put (x.rc, x.rm, x.rp)).length ≤ 30 := res_put_len o3
  have l4 : (resC.put (x.lc, x.lm, x.lp)).length ≤ 30 := res_put_len o4
  have l5 : (portsC.put x.ports).length ≤ 40 := ports_put_len o5a o5
  have l6 : ((intC 1000 (by decide)).put x.ev).length ≤ 10 := int_put_len o6
  have l7 : ((intC 10 (by decide)).put x.fl).length ≤ 10 := int_put_len o7
  rw [ctr_put_eq]
  simp only [List.length_append]
  omega
end Pk
end Go.Proofs.YtaegknpijgjioaaGreatDoor

/- The contracts of pack.PutLabels, Put, Bytes: the code of Check, or the bytes that the plain codes say; what the writer does not own is left as it was. Conditions: as SpecStep; specs are light; what is written has at most 2^47 bytes. -/
set_option linter.unusedVariables false
set_option linter.unusedSimpArgs false
namespace Go.Proofs.YtaegknpijgjioaaGreatDoor
open Go.ChangeShapes Go.WideShapes Go.ChangeAt Go.RowKit Go.Lib
open LebMath WirePure Sd Wire SpecOwn SpecRef
namespace Pk

theorem spec_put_eq (S : Spc) : specC.put S = txB S.name ++ (labelsC.put S.labels ++ (initC.put S.init ++ (mainC.put S.main ++ ((intC 3 (by decide)).put S.restart ++ ((intC 1000 (by decide)).put S.grace ++ (intC 10 (by decide)).put S.prio))))) := rfl
theorem labels_put_len {l : List Lbl} (hn : l.length ≤ 1000) (h : ∀ x ∈ l, x.key.size ≤ 1000 ∧ x.val.size ≤ 1000) : (labelsC.put l).length ≤ 10 + 1000 * 2020 := by
  have h1 := flat_put_len labelC.put 2020 l (fun x hx => label_put_len (h x hx))
  have h2 := leb_le_ten (n := l.length) (by omega)
  have h3 := Nat.mul_le_mul_right 2020 hn
  show (leb l.length ++ l.flatMap labelC.put).length ≤ _
  rw [List.length_append]
  omega
theorem ctrs_put_len {l : List Ctr} (hn : l.length ≤ 4) (h : ∀ x ∈ l, ctrC.ok x) : (listP ctrC.put l).length ≤ 2000 := by
  have h1 := flat_put_len ctrC.put 300 l (fun x hx => ctr_put_len (h x hx))
  have h2 := leb_le_ten (n := l.length) (by omega)
  show (leb l.length ++ l.flatMap ctrC.put).length ≤ _
  rw [List.length_append]
  omega
end Pk
end Go.Proofs.YtaegknpijgjioaaGreatDoor

/- Of specs' bytes: there and back, how many they are. No condition. -/
set_option linter.unusedVariables false
set_option linter.unusedSimpArgs false
namespace Go.Proofs.YtaegknpijgjioaaGreatDoor
open Go.ChangeShapes Go.WideShapes Go.ChangeAt Go.RowKit Go.Lib
open LebMath WirePure Sd Wire SpecOwn SpecRef Book
namespace Pk

/-- the zero value -/
def Z0 : Spc := ⟨⟨#[]⟩, [], [], [], 0, 0, 0⟩
theorem z0_in (w : World) : Z0.In w none 0 none 0 none 0 :=
  ⟨fun k x hk => (by simp [Z0] at hk), fun k x hk => (by simp [Z0] at hk), fun k x hk => (by simp [Z0] at hk), by simp [Z0], by simp [Z0], by simp [Z0], by unfold I64 Z0; decide, by unfold I64 Z0; decide, by unfold I64 Z0; decide⟩
theorem z0_cells {w : World} {b : Nat} (h : SBox Z0 none 0 none 0 none 0 w b) : w.cell? ⟨b, 0, none⟩ = some (.string ⟨#[]⟩) ∧ w.cell? ⟨b, 1, none⟩ = some (.slice none 0 0) ∧ w.cell? ⟨b, 2, none⟩ = some (.slice none 0 0) ∧ w.cell? ⟨b, 3, none⟩ = some (.slice none 0 0) ∧ w.cell? ⟨b, 4, none⟩ = some (.int .i64 0) ∧ w.cell? ⟨b, 5, none⟩ = some (.int .i64 0) ∧ w.cell? ⟨b, 6, none⟩ = some (.int .i64 0) := by
  obtain ⟨c0, c1, c2, c3, c4, c5, c6⟩ := h.cells
  exact ⟨c0, c1, c2, c3, c4, c5, c6⟩
theorem spec_back {S : Spc} (h : (checkV S).1 = 0) : specC.rd 0 (⟨(specC.put S).toArray⟩ : ByteArray).data.toList = (S, 0, []) := by
  have := specC.back S [] (spec_ok h)
  rw [List.append_nil] at this
  exact this
theorem spec_put_len {S : Spc} (h : specC.ok S) : (specC.put S).length ≤ 3000000 := by
  obtain ⟨⟨o1, ⟨o2a, o2⟩, ⟨o3a, o3⟩, ⟨o4a, o4⟩, o5, o6, o7⟩, _⟩ := h
  have n1 : S.name.size ≤ 16 := o1
  have n2 : S.labels.length ≤ 4 := o2a
  have n3 : S.init.length ≤ 3 := o3a
  have n4 : S.main.length ≤ 4 := o4a
  have l1 : (txB S.name).length ≤ 10 + 16 := txB_le n1
  have l2 := labels_put_len (l := S.labels) (by omega) (fun x hx => by
      obtain ⟨⟨p1, p2⟩, _⟩ := o2 x hx
      have q1 : x.key.size ≤ 33 := p1
      have q2 : x.val.size ≤ 16 := p2
      omega)
  have l3 : (initC.put S.init).length ≤ 2000 := ctrs_put_len (by omega) o3
  have l4 : (mainC.put S.main).length ≤ 2000 := ctrs_put_len n4 o4
  have l5 : ((intC 3 (by decide)).put S.restart).length ≤ 10 := int_put_len o5
  have l6 : ((intC 1000 (by decide)).put S.grace).length ≤ 10 := int_put_len o6
  have l7 : ((intC 10 (by decide)).put S.prio).length ≤ 10 := int_put_len o7
  rw [spec_put_eq]
  simp only [List.length_append]
  omega
theorem spec_few {S : Spc} (h : (checkV S).1 = 0) : Few (⟨(specC.put S).toArray⟩ : ByteArray).data.toList := by
  have := spec_put_len (spec_ok h)
  show (specC.put S).length ≤ _
  omega
theorem endE_zero {c : Int} {l : List UInt8} (h : endE c l = 0) : c = 0 ∧ l = [] := by
  unfold endE at h
  split at h
  · exact ⟨h, by assumption⟩
  · exact absurd h (fst_ne (by decide))
theorem of_fine {S : Spc} (h : (checkV S).1 = 0) : firstV [newV (endE 0 []) t_wire, checkV S] = fine := by
  simp [firstV, newV, endE, h, fine]
theorem of_right {l : List UInt8} {S : Spc} {c : Int} {r : List UInt8} (hq : specC.rd 0 l = (S, c, r)) (h : (firstV [newV (endE c r) t_wire, checkV S]).1 = 0) : (checkV S).1 = 0 ∧ specC.put S = l := by
  have h1 : endE c r = 0 := by
    by_cases h1 : endE c r = 0
    · exact h1
    · simp [firstV, newV, h1] at h
  obtain ⟨rfl, rfl⟩ := endE_zero h1
  have h2 : (checkV S).1 = 0 := by
    by_cases h2 : (checkV S).1 = 0
    · exact h2
    · simp [firstV, newV, h1, fine, h2] at h
  have hc := (specC.canon l (by rw [hq])).2
  rw [hq] at hc
  simp only [List.append_nil] at hc
  exact ⟨h2, hc.symm⟩
theorem bytes_back {t : ByteArray} {l : List UInt8} (h : l = t.data.toList) : (⟨l.toArray⟩ : ByteArray) = t := by
  subst h
  apply ByteArray.ext
  simp
end Pk
end Go.Proofs.YtaegknpijgjioaaGreatDoor
