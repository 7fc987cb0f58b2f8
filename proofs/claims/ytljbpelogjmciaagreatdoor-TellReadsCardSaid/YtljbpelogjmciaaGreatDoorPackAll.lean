/-
 What chapter 7 says of reading and writing, as plain functions: a code for each kind of value (how it is read of an error and the bytes left, how it is written), put together of smaller ones; there and back, just the bytes, none begins another. No condition. And what follows of it, part by part, each with its conditions.
-/
import Derived.Test.YtljbpelogjmciaaGreatDoorLebAll
import Derived.Test.YtljbpelogjmciaaGreatDoorSpecDataAll
import Derived.Test.YtljbpelogjmciaaGreatDoorSpecEachAll
import Derived.Test.YtljbpelogjmciaaGreatDoorTextMore
import Derived.Test.YtljbpelogjmciaaGreatDoorSpecSameG
import Derived.Test.YtljbpelogjmciaaGreatDoorAppendAny
import Derived.Test.YtljbpelogjmciaaGreatDoorSpecCheck
import Derived.Test.YtljbpelogjmciaaGreatDoorWireAll
import Derived.Test.YtljbpelogjmciaaGreatDoorSpecFlat
import Derived.Test.YtljbpelogjmciaaGreatDoorSpecStepAll
import Derived.Test.YtljbpelogjmciaaGreatDoorSpecMine
import Derived.StillTailTactics
import Derived.Lib.SliceRun
import Derived.Maps.AppendAt
set_option maxRecDepth 100000
set_option linter.unusedVariables false
set_option linter.unusedSimpArgs false
namespace Go.Proofs.YtljbpelogjmciaaGreatDoor.Pk
open WirePure LebMath Sd
abbrev Rdr (α : Type) := Int → List UInt8 → α × Int × List UInt8
structure Codec (α : Type) where
 rd : Rdr α
 put : α → List UInt8
 ok : α → Prop
 keeps : ∀ c l, c ≠ 0 → (rd c l).2 = (c, l)
 len : ∀ c l, (rd c l).2.2.length ≤ l.length
 canon : ∀ l, (rd 0 l).2.1 = 0 → ok (rd 0 l).1 ∧ l = put (rd 0 l).1 ++ (rd 0 l).2.2
 back : ∀ x r, ok x → rd 0 (put x ++ r) = (x, 0, r)
 cut : ∀ x p q, ok x → q ≠ [] → put x = p ++ q → (rd 0 p).2.1 = 40
 okay : ∀ c l, ok (rd c l).1
theorem three {α : Type} {t : α × Int × List UInt8} {a : α} {b : Int} {c : List UInt8} (h1 : t.1 = a) (h2 : t.2.1 = b) (h3 : t.2.2 = c) : t = (a, b, c) := by
 obtain ⟨x, y, z⟩ := t
 simp only at h1 h2 h3
 subst h1 h2 h3
 rfl
def numR (m : Nat) : Rdr Nat := fun c l => (numV m c l, numE m c l, numL m c l)
theorem leb_front (n : Nat) : ∀ p q : List UInt8, q ≠ [] → leb n = p ++ q → (∀ b ∈ p, 128 ≤ b.toNat) ∧ p.length < (leb n).length := by
 induction n using Nat.strongRecOn with
 | _ n ih =>
  intro p q hq h
  refine ⟨?_, by rw [h, List.length_append]; have := List.length_pos_iff.2 hq; omega⟩
  by_cases hn : n < 128
  · rw [leb_small hn] at h
    cases p with
    | nil => intro b hb; cases hb
    | cons b p =>
     simp only [List.cons_append, List.cons.injEq] at h
     have := h.2.symm
     rw [List.append_eq_nil_iff] at this
     exact absurd this.2 hq
  · rw [leb_big (by omega)] at h
    cases p with
    | nil => intro b hb; cases hb
    | cons b p =>
     simp only [List.cons_append, List.cons.injEq] at h
     intro x hx
     rcases List.mem_cons.1 hx with rfl | hx
     · rw [← h.1, toNat_ofNat (by omega)]; omega
     · exact (ih (n / 128) (by omega) p q hq h.2).1 x hx
theorem lead_all : ∀ p : List UInt8, (∀ b ∈ p, 128 ≤ b.toNat) → lead p = p.length
 | [], _ => rfl
 | b :: p, h => by rw [lead, if_pos (h b (by simp)), lead_all p (fun x hx => h x (by simp [hx]))]; simp
theorem isLeb_all : ∀ p : List UInt8, (∀ b ∈ p, 128 ≤ b.toNat) → isLeb p = false
 | [], _ => rfl
 | [b], h => by have := h b (by simp); simp [isLeb]; omega
 | b :: c :: p, h => by
  rw [isLeb, isLeb_all (c :: p) (fun x hx => h x (by simp [hx]))]; simp
theorem num_cut {n m : Nat} (hn : n < 18446744073709551616) {p q : List UInt8} (hq : q ≠ []) (h : leb n = p ++ q) : numE m 0 p = 40 := by
 obtain ⟨h1, h2⟩ := leb_front n p q hq h
 have h3 := leb_le_ten hn
 have ht : takeV p = (0, 0) := by
  unfold takeV
  rw [lead_all p h1, List.take_of_length_le (by omega), isLeb_all p h1]; simp
 have hw : why p = 40 := by
  unfold why
  rw [if_neg (by omega), if_neg]
  intro hany
  rw [List.any_eq_true] at hany
  obtain ⟨b, hb, hlt⟩ := hany
  have := h1 b hb
  simp at hlt
  omega
 unfold numE
 rw [ht, if_pos rfl, hw]; rfl
def numC (m : Nat) (hm : m < 18446744073709551616) : Codec Nat where
 rd := numR m
 put := leb
 ok := fun n => n ≤ m
 keeps := fun c l h => by simp [numR, numE_err h, numL_err h]
 len := fun c l => numL_len m c l
 canon := fun l h => ⟨numV_le m 0 l, num_canon h⟩
 back := fun n r h => three (numV_put (by omega) h r) (numE_put (by omega) h r) (numL_put (by omega) h r)
 cut := fun n p q h hq e => num_cut (by omega) hq e
 okay := fun c l => numV_le m c l
def textR (m : Nat) : Rdr ByteArray := fun c l => (⟨(textS m c l).toArray⟩, textE m c l, textL m c l)
def txP (s : ByteArray) : List UInt8 := leb s.size ++ s.data.toList
theorem textS_len (m : Nat) (c : Int) (l : List UInt8) : (textS m c l).length ≤ m := by
 unfold textS takeS
 split
 · rw [List.length_take]
   exact Nat.le_trans (Nat.min_le_left _ _) (numV_le m c l)
 · simp
theorem textR_size (m : Nat) (c : Int) (l : List UInt8) : (textR m c l).1.size ≤ m := by
 have := textS_len m c l
 show (textS m c l).toArray.size ≤ m
 simpa using this
theorem text_cut {m : Nat} {s : List UInt8} (hn : s.length < 18446744073709551616) (hs : s.length ≤ m) {p q : List UInt8} (hq : q ≠ []) (h : leb s.length ++ s = p ++ q) : textE m 0 p = 40 := by
 unfold textE
 rcases List.append_eq_append_iff.1 h with ⟨a, h1, h2⟩ | ⟨a, h1, h2⟩
 · -- the length is whole
   rw [h1, numE_put hn hs, numV_put hn hs, numL_put hn hs]
   unfold takeE
   rw [if_pos]
   · rfl
   · rw [h2, List.length_append]
     have := List.length_pos_iff.2 hq
     omega
 · by_cases ha : a = []
   · subst ha
     have hp : p = leb s.length := by simpa using h1.symm
     rw [hp]
     have e : leb s.length = leb s.length ++ ([] : List UInt8) := by simp
     rw [e, numE_put hn hs, numV_put hn hs, numL_put hn hs]
     unfold takeE
     rw [if_pos]
     · rfl
     · simp at h2
       rw [h2] at hq
       exact List.length_pos_iff.2 hq
   · rw [num_cut hn ha h1]
     exact takeE_err (by decide) _ _
def textC (m : Nat) (hm : m < 18446744073709551616) : Codec ByteArray where
 rd := textR m
 put := txP
 ok := fun s => s.size ≤ m
 keeps := fun c l h => by simp [textR, textE_err h, textL_err h]
 len := fun c l => textL_len m c l
 canon := fun l h => ⟨textR_size m 0 l, by
  have := text_canon h
  have e : txP (textR m 0 l).1 = leb (textS m 0 l).length ++ textS m 0 l := by
   show leb (textS m 0 l).toArray.size ++ (textS m 0 l).toArray.toList = _
   simp
  rw [e, List.append_assoc]
  exact this⟩
 back := fun s r h => by
  have e : s.data.toList.length = s.size := Array.length_toList
  have hp := text_put (a := s.data.toList) (m := m) (by omega) (by omega) r
  rw [e] at hp
  unfold txP
  rw [List.append_assoc]
  exact three (by show (⟨(textS m 0 _).toArray⟩ : ByteArray) = s; rw [hp.2.1]) hp.1 hp.2.2
 cut := fun s p q h hq e => by
  have e1 : s.data.toList.length = s.size := Array.length_toList
  unfold txP at e
  rw [← e1] at e
  exact text_cut (by omega) (by omega) hq e
 okay := fun c l => textR_size m c l
def pairR {α β : Type} (f : Rdr α) (g : Rdr β) : Rdr (α × β) := fun c l => (((f c l).1, (g (f c l).2.1 (f c l).2.2).1), (g (f c l).2.1 (f c l).2.2).2)
theorem pair_zero {α β : Type} {f : Rdr α} {g : Rdr β} (hg : ∀ c l, c ≠ 0 → (g c l).2 = (c, l)) {c : Int} {l : List UInt8} (h : ((pairR f g) c l).2.1 = 0) : (f c l).2.1 = 0 := by
 by_cases h0 : (f c l).2.1 = 0
 · exact h0
 · have := hg (f c l).2.1 (f c l).2.2 h0
   unfold pairR at h
   rw [this] at h
   exact absurd h h0
def pairC {α β : Type} (A : Codec α) (B : Codec β) : Codec (α × β) where
 rd := pairR A.rd B.rd
 put := fun x => A.put x.1 ++ B.put x.2
 ok := fun x => A.ok x.1 ∧ B.ok x.2
 keeps := fun c l h => by
  have h1 := A.keeps c l h
  show (B.rd (A.rd c l).2.1 (A.rd c l).2.2).2 = _
  rw [h1]
  exact B.keeps c l h
 len := fun c l => Nat.le_trans (B.len _ _) (A.len c l)
 canon := fun l h => by
  have h0 := pair_zero B.keeps h
  have h1 := A.canon l h0
  have h2 : (B.rd (A.rd 0 l).2.1 (A.rd 0 l).2.2).2.1 = 0 := h
  rw [h0] at h2
  have h3 := B.canon _ h2
  refine ⟨⟨h1.1, ?_⟩, ?_⟩
  · show B.ok (B.rd (A.rd 0 l).2.1 (A.rd 0 l).2.2).1
    rw [h0]; exact h3.1
  · show l = (A.put (A.rd 0 l).1 ++ B.put (B.rd (A.rd 0 l).2.1 (A.rd 0 l).2.2).1) ++ (B.rd (A.rd 0 l).2.1 (A.rd 0 l).2.2).2.2
    rw [h0, List.append_assoc, ← h3.2]; exact h1.2
 back := fun x r h => by
  have h1 := A.back x.1 (B.put x.2 ++ r) h.1
  have h2 := B.back x.2 r h.2
  show pairR A.rd B.rd 0 (A.put x.1 ++ B.put x.2 ++ r) = _
  rw [List.append_assoc]
  unfold pairR
  rw [h1]
  show ((x.1, (B.rd 0 (B.put x.2 ++ r)).1), (B.rd 0 (B.put x.2 ++ r)).2) = _
  rw [h2]
 cut := fun x p q h hq e => by
  rcases List.append_eq_append_iff.1 e with ⟨a, h1, h2⟩ | ⟨a, h1, h2⟩
  · have e1 := A.back x.1 a h.1
    show (B.rd (A.rd 0 p).2.1 (A.rd 0 p).2.2).2.1 = 40
    rw [h1, e1]
    exact B.cut x.2 a q h.2 hq h2
  · show (B.rd (A.rd 0 p).2.1 (A.rd 0 p).2.2).2.1 = 40
    by_cases ha : a = []
    · subst ha
      have hp : p = A.put x.1 := by simpa using h1.symm
      have e1 := A.back x.1 [] h.1
      rw [List.append_nil] at e1
      rw [hp, e1]
      exact B.cut x.2 [] (B.put x.2) h.2 (by simp at h2; rw [← h2]; exact hq) (by simp)
    · have h3 := A.cut x.1 p a h.1 ha h1
      have h4 := B.keeps (A.rd 0 p).2.1 (A.rd 0 p).2.2 (by rw [h3]; decide)
      rw [h4]
      exact h3
 okay := fun c l => ⟨A.okay c l, B.okay _ _⟩
def mapC {α β : Type} (A : Codec α) (f : α → β) (g : β → α) (hf : ∀ x, g (f x) = x) : Codec β where
 rd := fun c l => (f (A.rd c l).1, (A.rd c l).2)
 put := fun y => A.put (g y)
 ok := fun y => A.ok (g y) ∧ f (g y) = y
 keeps := fun c l h => A.keeps c l h
 len := fun c l => A.len c l
 canon := fun l h => by
  have := A.canon l h
  simp only [hf]
  exact ⟨⟨this.1, trivial⟩, this.2⟩
 back := fun y r h => by
  have := A.back (g y) r h.1
  simp only [this, h.2]
 cut := fun y p q h hq e => A.cut (g y) p q h.1 hq e
 okay := fun c l => by
  show A.ok (g (f (A.rd c l).1)) ∧ f (g (f (A.rd c l).1)) = f (A.rd c l).1
  rw [hf]
  exact ⟨A.okay c l, rfl⟩
def intC (m : Nat) (hm : m < 18446744073709551616) : Codec Int := mapC (numC m hm) (fun n => (n : Int)) Int.toNat (fun n => by simp)
def repS {α : Type} (f : Rdr α) (c : Int) (l : List UInt8) : Nat → Int × List UInt8
 | 0 => (c, l)
 | k + 1 => (f (repS f c l k).1 (repS f c l k).2).2
def repX {α : Type} (f : Rdr α) (c : Int) (l : List UInt8) : Nat → List α
 | 0 => []
 | k + 1 => repX f c l k ++ [(f (repS f c l k).1 (repS f c l k).2).1]
theorem repX_len {α : Type} (f : Rdr α) (c : Int) (l : List UInt8) : ∀ k, (repX f c l k).length = k
 | 0 => rfl
 | k + 1 => by rw [repX, List.length_append, repX_len f c l k]; rfl
section
variable {α : Type} (C : Codec α)
theorem repS_err {c : Int} (h : c ≠ 0) (l : List UInt8) : ∀ k, repS C.rd c l k = (c, l)
 | 0 => rfl
 | k + 1 => by rw [repS, repS_err h l k]; exact C.keeps c l h
theorem repS_len (c : Int) (l : List UInt8) : ∀ k, (repS C.rd c l k).2.length ≤ l.length
 | 0 => Nat.le_refl _
 | k + 1 => Nat.le_trans (C.len _ _) (repS_len c l k)
theorem repS_stay {c : Int} {l : List UInt8} {k : Nat} (h : (repS C.rd c l k).1 ≠ 0) : ∀ j, repS C.rd c l (k + j) = repS C.rd c l k
 | 0 => rfl
 | j + 1 => by rw [← Nat.add_assoc, repS, repS_stay h j]; exact C.keeps _ _ h
theorem repS_less {c : Int} {l : List UInt8} {k : Nat} (h : (repS C.rd c l (k + 1)).1 = 0) : (repS C.rd c l k).1 = 0 := by
 by_cases h0 : (repS C.rd c l k).1 = 0
 · exact h0
 · rw [repS_stay C h0 1] at h; exact absurd h h0
theorem repX_ok (c : Int) (l : List UInt8) : ∀ n, ∀ x ∈ repX C.rd c l n, C.ok x
 | 0, x, hx => by cases hx
 | n + 1, x, hx => by
  rw [repX] at hx
  rcases List.mem_append.1 hx with hx | hx
  · exact repX_ok c l n x hx
  · rw [List.mem_singleton.1 hx]; exact C.okay _ _
theorem rep_canon {l : List UInt8} : ∀ k, (repS C.rd 0 l k).1 = 0 → (∀ x ∈ repX C.rd 0 l k, C.ok x) ∧ l = (repX C.rd 0 l k).flatMap C.put ++ (repS C.rd 0 l k).2
 | 0, _ => ⟨fun x hx => (by cases hx), rfl⟩
 | k + 1, h => by
  have h0 := repS_less C h
  obtain ⟨i1, i2⟩ := rep_canon k h0
  have h2 : (C.rd (repS C.rd 0 l k).1 (repS C.rd 0 l k).2).2.1 = 0 := h
  rw [h0] at h2
  obtain ⟨j1, j2⟩ := C.canon _ h2
  rw [repX, repS, h0]
  refine ⟨fun x hx => ?_, ?_⟩
  · rcases List.mem_append.1 hx with hx | hx
    · exact i1 x hx
    · rw [List.mem_singleton.1 hx]; exact j1
  · rw [List.flatMap_append, List.append_assoc]
    show l = _ ++ (([(C.rd 0 (repS C.rd 0 l k).2).1].flatMap C.put) ++ _)
    rw [show [(C.rd 0 (repS C.rd 0 l k).2).1].flatMap C.put = C.put (C.rd 0 (repS C.rd 0 l k).2).1 by simp, ← j2]
    exact i2
theorem rep_back (r : List UInt8) (xs : List α) (hx : ∀ x ∈ xs, C.ok x) : ∀ k, k ≤ xs.length → repS C.rd 0 (xs.flatMap C.put ++ r) k = (0, (xs.drop k).flatMap C.put ++ r) ∧ repX C.rd 0 (xs.flatMap C.put ++ r) k = xs.take k
 | 0, _ => ⟨rfl, rfl⟩
 | k + 1, hk => by
  obtain ⟨i1, i2⟩ := rep_back r xs hx k (by omega)
  have hd : xs.drop k = xs[k] :: xs.drop (k + 1) := List.drop_eq_getElem_cons (by omega)
  have hb := C.back xs[k] ((xs.drop (k + 1)).flatMap C.put ++ r) (hx _ (List.getElem_mem _))
  rw [hd, List.flatMap_cons, List.append_assoc] at i1
  rw [repS, repX, i1, i2]
  show (C.rd 0 (C.put xs[k] ++ _)).2 = _ ∧ _ ++ [(C.rd 0 (C.put xs[k] ++ _)).1] = _
  rw [hb]
  exact ⟨rfl, by rw [List.take_succ_eq_append_getElem (by omega)]⟩
theorem rep_cut : ∀ (xs : List α) (p q : List UInt8), (∀ x ∈ xs, C.ok x) → q ≠ [] → xs.flatMap C.put = p ++ q → ∀ k, k = xs.length → (repS C.rd 0 p k).1 = 40
 | [], p, q, _, hq, e, _, _ => by
  have h := (List.append_eq_nil_iff.1 (e.symm.trans rfl)).2
  exact absurd h hq
 | x :: xs, p, q, hx, hq, e, k, hk => by
  have hfront : ∀ (c : Int) (l : List UInt8) (j : Nat), repS C.rd c l (j + 1) = repS C.rd (C.rd c l).2.1 (C.rd c l).2.2 j := by
   intro c l j
   induction j with
   | zero => rfl
   | succ j ih => rw [repS, ih]; rfl
  subst hk; rw [List.length_cons, hfront]
  rw [List.flatMap_cons] at e
  have hox := hx x (by simp)
  rcases List.append_eq_append_iff.1 e with ⟨a, h1, h2⟩ | ⟨a, h1, h2⟩
  · have e1 := C.back x a hox
    rw [h1, e1]
    exact rep_cut xs a q (fun y hy => hx y (by simp [hy])) hq h2 _ rfl
  · by_cases ha : a = []
    · subst ha
      have hp : p = C.put x := by simpa using h1.symm
      have e1 := C.back x [] hox
      rw [List.append_nil] at e1
      rw [hp, e1]
      exact rep_cut xs [] q (fun y hy => hx y (by simp [hy])) hq (by simpa using h2.symm) _ rfl
    · have h3 := C.cut x p a hox ha h1
      rw [h3, repS_err C (by decide)]
end
def listR {α : Type} (m : Nat) (f : Rdr α) : Rdr (List α) := fun c l =>
 (if (repS f (numE m c l) (numL m c l) (numV m c l)).1 = 0 then repX f (numE m c l) (numL m c l) (numV m c l) else [], repS f (numE m c l) (numL m c l) (numV m c l))
theorem list_len {α : Type} (m : Nat) (f : Rdr α) (c : Int) (l : List UInt8) : (listR m f c l).1.length ≤ m := by
 show (if _ then _ else _ : List α).length ≤ m
 split
 · rw [repX_len]; exact numV_le m c l
 · exact Nat.zero_le _
def listP {α : Type} (put : α → List UInt8) (xs : List α) : List UInt8 := leb xs.length ++ xs.flatMap put
def listC {α : Type} (m : Nat) (hm : m < 18446744073709551616) (C : Codec α) : Codec (List α) where
 rd := listR m C.rd
 put := listP C.put
 ok := fun xs => xs.length ≤ m ∧ ∀ x ∈ xs, C.ok x
 keeps := fun c l h => by
  show repS C.rd (numE m c l) (numL m c l) (numV m c l) = _
  rw [numE_err h, numL_err h, numV_err h]; rfl
 len := fun c l => Nat.le_trans (repS_len C _ _ _) (numL_len m c l)
 canon := fun l h => by
  have hz : (repS C.rd (numE m 0 l) (numL m 0 l) (numV m 0 l)).1 = 0 := h
  have h0 : numE m 0 l = 0 := by
   by_cases h0 : numE m 0 l = 0
   · exact h0
   · rw [repS_err C h0] at hz; exact hz
  have hx : (listR m C.rd 0 l).1 = repX C.rd 0 (numL m 0 l) (numV m 0 l) := by
   show (if _ then _ else _) = _
   rw [if_pos hz, h0]
  have hs : (listR m C.rd 0 l).2.2 = (repS C.rd 0 (numL m 0 l) (numV m 0 l)).2 := by
   show (repS C.rd (numE m 0 l) (numL m 0 l) (numV m 0 l)).2 = _
   rw [h0]
  rw [h0] at hz
  obtain ⟨i1, i2⟩ := rep_canon C _ hz
  rw [hx, hs]
  refine ⟨⟨by rw [repX_len]; exact numV_le m 0 l, i1⟩, ?_⟩
  unfold listP
  rw [repX_len, List.append_assoc, ← i2]
  exact num_canon h0
 back := fun xs r h => by
  have hn : xs.length < 18446744073709551616 := by omega
  show listR m C.rd 0 (leb xs.length ++ xs.flatMap C.put ++ r) = _
  rw [List.append_assoc]
  unfold listR
  rw [numE_put hn h.1, numL_put hn h.1, numV_put hn h.1]; obtain ⟨i1, i2⟩ := rep_back C r xs h.2 xs.length (Nat.le_refl _); rw [i1, i2]
  simp
 cut := fun xs p q h hq e => by
  have hn : xs.length < 18446744073709551616 := by omega
  show (repS C.rd (numE m 0 p) (numL m 0 p) (numV m 0 p)).1 = 40
  unfold listP at e
  rcases List.append_eq_append_iff.1 e with ⟨a, h1, h2⟩ | ⟨a, h1, h2⟩
  · rw [h1, numE_put hn h.1, numL_put hn h.1, numV_put hn h.1]
    exact rep_cut C xs a q h.2 hq h2 _ rfl
  · by_cases ha : a = []
    · subst ha
      have hp : p = leb xs.length ++ ([] : List UInt8) := by simpa using h1.symm
      rw [hp, numE_put hn h.1, numL_put hn h.1, numV_put hn h.1]
      exact rep_cut C xs [] q h.2 hq (by simpa using h2.symm) _ rfl
    · rw [num_cut hn ha h1, repS_err C (by decide)]
 okay := fun c l => ⟨list_len m C.rd c l, fun x hx => by
  have hx' : x ∈ (if (repS C.rd (numE m c l) (numL m c l) (numV m c l)).1 = 0 then repX C.rd (numE m c l) (numL m c l) (numV m c l) else []) := hx
  split at hx'
  · exact repX_ok C _ _ _ x hx'
  · cases hx'⟩
theorem int_rng {m : Nat} {hm : m < 18446744073709551616} {z : Int} (h : (intC m hm).ok z) : 0 ≤ z ∧ z ≤ m := by
 obtain ⟨h1, h2⟩ := h
 have h1' : z.toNat ≤ m := h1
 have h2' : ((z.toNat : Nat) : Int) = z := h2
 omega
end Go.Proofs.YtljbpelogjmciaaGreatDoor.Pk
namespace Go.Proofs.YtljbpelogjmciaaGreatDoor.Pk
open WirePure LebMath Sd TextPure
def labelC : Codec Lbl := mapC (pairC (textC 33 (by decide)) (textC 16 (by decide))) (fun x => ⟨x.1, x.2⟩) (fun y => (y.key, y.val)) (fun _ => rfl)
def portC : Codec Int := intC 65535 (by decide)
def bigC : Codec Int := intC 1099511627776 (by decide)
def resC : Codec (Int × Int × Int) := pairC bigC (pairC bigC bigC)
def portsC : Codec (List Int) := listC 3 (by decide) portC
def probeC : Codec (Int × Int) := pairC (intC 1000 (by decide)) (intC 10 (by decide))
def ctrC : Codec Ctr := mapC (pairC (textC 16 (by decide)) (pairC (textC 33 (by decide)) (pairC resC (pairC resC (pairC portsC probeC)))))
 (fun x => ⟨x.1, x.2.1, x.2.2.1.1, x.2.2.1.2.1, x.2.2.1.2.2, x.2.2.2.1.1, x.2.2.2.1.2.1, x.2.2.2.1.2.2, x.2.2.2.2.1, x.2.2.2.2.2.1, x.2.2.2.2.2.2⟩)
 (fun y => (y.name, y.image, (y.rc, y.rm, y.rp), (y.lc, y.lm, y.lp), y.ports, (y.ev, y.fl))) (fun _ => rfl)
def labelsC : Codec (List Lbl) := listC 4 (by decide) labelC
def initC : Codec (List Ctr) := listC 3 (by decide) ctrC
def mainC : Codec (List Ctr) := listC 4 (by decide) ctrC
def specC : Codec Spc := mapC (pairC (textC 16 (by decide)) (pairC labelsC (pairC initC (pairC mainC (pairC (intC 3 (by decide)) (pairC (intC 1000 (by decide)) (intC 10 (by decide))))))))
 (fun x => ⟨x.1, x.2.1, x.2.2.1, x.2.2.2.1, x.2.2.2.2.1, x.2.2.2.2.2.1, x.2.2.2.2.2.2⟩)
 (fun S => (S.name, S.labels, S.init, S.main, S.restart, S.grace, S.prio)) (fun _ => rfl)
theorem int_ok {m : Nat} {hm : m < 18446744073709551616} {z : Int} (h0 : 0 ≤ z) (h1 : z ≤ m) : (intC m hm).ok z := ⟨by show z.toNat ≤ m; omega, by show ((z.toNat : Nat) : Int) = z; omega⟩
theorem name_len {s : ByteArray} (h : isName s = true) : s.size ≤ 16 := by
 have := (nameL_len h).2
 simpa using this
theorem image_len {s : ByteArray} (h : isImage s = true) : s.size ≤ 33 := by
 have := imageL_len h
 simpa using this
theorem ports_each {a : List Ctr} : ∀ (l : List Int) (k : Nat) (seen : List Int), (portsFrom a k seen l).1 = 0 → ∀ z ∈ l, 1 ≤ z ∧ z ≤ 65535
 | [], _, _, _, z, hz => by cases hz
 | p :: l, k, seen, h, z, hz => by
  rw [portsFrom] at h
  split at h
  · simp at h
  · rename_i h1
    split at h
    · simp at h
    · rcases List.mem_cons.1 hz with rfl | hz
      · omega
      · exact ports_each l (k + 1) _ h z hz
theorem nums_each {f : Bool} {n0 n1 n2 l0 l1 l2 : Int} (h : ¬ 0 ≤ numsV f n0 n1 n2 l0 l1 l2) (g0 : 0 ≤ l0) (g1 : 0 ≤ l1) (g2 : 0 ≤ l2) : (0 ≤ n0 ∧ n0 ≤ 1099511627776) ∧ (0 ≤ n1 ∧ n1 ≤ 1099511627776) ∧ (0 ≤ n2 ∧ n2 ≤ 1099511627776) := by
 have key : ∀ n l : Int, 0 ≤ l → numV f n l = false → 0 ≤ n ∧ n ≤ 1099511627776 := by
  intro n l hl hn
  unfold Sd.numV big at hn
  by_cases hz : n = 0
  · subst hz; omega
  · have : (n != 0) = true := by simpa using hz
    rw [this] at hn
    simp at hn
    omega
 unfold numsV at h
 by_cases h0 : Sd.numV f n0 l0 = true
 · rw [if_pos h0] at h; omega
 · rw [if_neg h0] at h
   by_cases h1 : Sd.numV f n1 l1 = true
   · rw [if_pos h1] at h; omega
   · rw [if_neg h1] at h
     by_cases h2 : Sd.numV f n2 l2 = true
     · rw [if_pos h2] at h; omega
     · exact ⟨key n0 l0 g0 (by simpa using h0), key n1 l1 g1 (by simpa using h1), key n2 l2 g2 (by simpa using h2)⟩
theorem probe_each {ev fl : Int} {init : Bool} (h : (probeV ev fl init).1 = 0) : (0 ≤ ev ∧ ev ≤ 1000) ∧ (0 ≤ fl ∧ fl ≤ 10) := by
 unfold probeV at h
 split at h
 · simp at h
 · rename_i h1
   split at h
   · simp at h
   · rename_i h2
     omega
theorem ctr_ok {x : Ctr} {a : List Ctr} {init : Bool} (h : (oneV x a init).1 = 0) : ctrC.ok x := by
 rw [oneV_ok] at h
 obtain ⟨e1, e2, e3, e4, e5, e6, e7, e8⟩ := h
 obtain ⟨n0, n1, n2⟩ := nums_each e4 (by omega) (by omega) (by omega)
 obtain ⟨m0, m1, m2⟩ := nums_each e5 n0.1 n1.1 n2.1
 obtain ⟨p0, p1⟩ := probe_each e8
 have hp := ports_each _ _ _ e7
 refine ⟨⟨name_len e1, image_len e3, ⟨int_ok n0.1 n0.2, int_ok n1.1 n1.2, int_ok n2.1 n2.2⟩, ⟨int_ok m0.1 m0.2, int_ok m1.1 m1.2, int_ok m2.1 m2.2⟩, ⟨?_, fun z hz => int_ok (by have := hp z hz; omega) (by have := hp z hz; omega)⟩, int_ok p0.1 p0.2, int_ok p1.1 p1.2⟩, rfl⟩
 show x.ports.length ≤ 3
 omega
theorem keyL_len {l : List UInt8} (h : keyL l = true) : l.length ≤ 33 := by
 unfold keyL at h
 have h' : nameL (Lib.cut l [47]).1 = true ∧ (!(Lib.cut l [47]).2.2 || nameL (Lib.cut l [47]).2.1) = true := by
  rw [← Bool.and_eq_true]; exact h
 have h1 := (nameL_len h'.1).2
 cases hq : (Lib.cut l [47]).2.2 with
 | false =>
  obtain ⟨e1, _⟩ := cut_none 47 l hq
  rw [e1] at h1; omega
 | true =>
  have h2 := h'.2
  rw [hq] at h2
  have h3 := (nameL_len (by simpa using h2)).2
  have := congrArg List.length (cut_join 47 l hq)
  simp at this
  omega
theorem key_len {s : ByteArray} (h : isKey s = true) : s.size ≤ 33 := by
 have := keyL_len h
 simpa using this
theorem val_len {s : ByteArray} (h : isVal s = true) : s.size ≤ 16 := by
 unfold isVal valL at h
 rw [Bool.and_eq_true] at h
 have := of_decide_eq_true h.1
 simpa using this
theorem label_each {name : ByteArray} : ∀ (l : List Lbl) (i : Nat) (p : Option Lbl), (labelsFrom name i p l).1 = 0 → ∀ x ∈ l, labelC.ok x
 | [], _, _, _, x, hx => by cases hx
 | y :: l, i, p, h, x, hx => by
  rw [labelsFrom_cons] at h
  split at h
  · simp at h
  · rename_i h1
    split at h
    · simp at h
    · split at h
      · simp at h
      · rename_i h3
        rcases List.mem_cons.1 hx with rfl | hx
        · exact ⟨⟨key_len (by simpa using h1), val_len (by simpa using h3)⟩, rfl⟩
        · exact label_each l (i + 1) (some y) h x hx
theorem spec_ok {S : Spc} (h : (checkV S).1 = 0) : specC.ok S := by
 rw [check_ok] at h
 obtain ⟨e1, e2, e3, e4, e5, e6, e7⟩ := h
 unfold labelsV at e2
 split at e2
 · simp at e2
 · rename_i h2
   have ht : (1 ≤ S.restart ∧ S.restart ≤ 3) ∧ (0 ≤ S.grace ∧ S.grace ≤ 1000) ∧ (0 ≤ S.prio ∧ S.prio ≤ 10) := by
    unfold tailV at e7
    split at e7
    · simp at e7
    · split at e7
      · simp at e7
      · split at e7
        · simp at e7
        · omega
   obtain ⟨t1, t2, t3⟩ := ht
   refine ⟨⟨name_len e1, ⟨by show S.labels.length ≤ 4; omega, label_each _ _ _ e2⟩, ⟨e3, fun x hx => ?_⟩, ⟨e5.2, fun x hx => ?_⟩, int_ok (z := S.restart) (by omega) t1.2, int_ok (z := S.grace) t2.1 t2.2, int_ok (z := S.prio) t3.1 t3.2⟩, rfl⟩
   · obtain ⟨a, ha⟩ := SpecOwn.ctrs_each _ _ e4 x hx
     exact ctr_ok ha
   · obtain ⟨a, ha⟩ := SpecOwn.ctrs_each _ _ e6 x hx
     exact ctr_ok ha
end Go.Proofs.YtljbpelogjmciaaGreatDoor.Pk
namespace Go.Proofs.YtljbpelogjmciaaGreatDoor
open Go.ChangeShapes Go.WideShapes Go.ChangeAt Go.RowKit Go.Lib
open LebMath WirePure Sd Wire
namespace Pk
abbrev Few (l : List UInt8) : Prop := l.length ≤ 281474976710656
theorem few {α : Type} {C : Codec α} {c : Int} {l : List UInt8} {x : α} {c' : Int} {l' : List UInt8} (hq : C.rd c l = (x, c', l')) (h : Few l) : Few l' := by
 have := C.len c l
 rw [hq] at this
 exact Nat.le_trans this h
theorem num_rd (g : Nat) (m : Int) (k : Nat) (hk : k < 18446744073709551616) (hm : m ≤ 9223372036854775807) (hmk : mostN m = k) (c : Int) (l : List UInt8) (hl : Few l) (x c' : Int) (l' : List UInt8) (hq : (intC k hk).rd c l = (x, c', l')) (w : World) (h : Rd w g c l) :
 Calls Tryz.prog 41 #[.pointer (some ⟨g, 0, none⟩), .int .i64 m] w fun e w' => e = .returned (.int .i64 x) ∧ Rd w' g c' l' ∧ Wire.Aside g w w' := by
 subst hmk
 have e : (((numV (mostN m) c l : Nat) : Int), numE (mostN m) c l, numL (mostN m) c l) = (x, c', l') := hq
 injection e with e1 e2
 injection e2 with e2 e3
 rw [← e1, ← e2, ← e3]
 exact rnum_any g m hm c l (Nat.le_trans hl (by decide)) w h
theorem text_rd (g : Nat) (m : Int) (k : Nat) (hk : k < 18446744073709551616) (hm : m ≤ 9223372036854775807) (hmk : mostN m = k) (c : Int) (l : List UInt8) (hl : Few l) (x : ByteArray) (c' : Int) (l' : List UInt8) (hq : (textC k hk).rd c l = (x, c', l')) (w : World) (h : Rd w g c l) :
 Calls Tryz.prog 37 #[.pointer (some ⟨g, 0, none⟩), .int .i64 m] w fun e w' => e = .returned (.string x) ∧ Rd w' g c' l' ∧ Wire.Aside g w w' := by
 subst hmk
 have e : ((⟨(textS (mostN m) c l).toArray⟩ : ByteArray), textE (mostN m) c l, textL (mostN m) c l) = (x, c', l') := hq
 injection e with e1 e2
 injection e2 with e2 e3
 rw [← e1, ← e2, ← e3]
 exact rtext_any g m hm c l hl w h
set_option maxRecDepth 20000 in
theorem port_rd (g : Nat) (c : Int) (l : List UInt8) (hl : Few l) (x c' : Int) (l' : List UInt8) (hq : portC.rd c l = (x, c', l')) (w : World) (h : Rd w g c l) :
 Calls Tryz.prog 94 #[.pointer (some ⟨g, 0, none⟩)] w fun e w' => e = .returned (.int .i64 x) ∧ Rd w' g c' l' ∧ Wire.Aside g w w' := by
 have H := hid h
 have HQ := hid hq
 have HL := hid hl
 clear h hq hl
 go_enter Tryz.func94, Tryz.ntmps94
 go_wp2_with fail
 refine (num_rd g 65535 65535 (by decide) (by decide) (by decide) c l HL.out x c' l' HQ.out w H.out).mono ?_
 rintro e w1 ⟨rfl, h1, k1⟩
 have H1 := hid h1
 have K1 := hid k1
 clear h1 k1
 go_wp2
 go_ret
 exact ⟨rfl, H1.out, K1.out⟩
set_option maxRecDepth 20000 in
theorem label_rd (g : Nat) (c : Int) (l : List UInt8) (hl : Few l) (x : Lbl) (c' : Int) (l' : List UInt8) (hq : labelC.rd c l = (x, c', l')) (w : World) (h : Rd w g c l) :
 Calls Tryz.prog 91 #[.pointer (some ⟨g, 0, none⟩)] w fun e w' => e = .returned (.agg #[.string x.key, .string x.val]) ∧ Rd w' g c' l' ∧ Wire.Aside g w w' := by
 have H := hid h
 have HL := hid hl
 have hgl := h.lt
 obtain ⟨⟨x1, c1, l1⟩, q1⟩ : ∃ t, (textC 33 (by decide)).rd c l = t := ⟨_, rfl⟩
 obtain ⟨⟨x2, c2, l2⟩, q2⟩ : ∃ t, (textC 16 (by decide)).rd c1 l1 = t := ⟨_, rfl⟩
 have hr : labelC.rd c l = (⟨x1, x2⟩, c2, l2) := by
  show ((⟨(pairR (textC 33 _).rd (textC 16 _).rd c l).1.1, (pairR (textC 33 _).rd (textC 16 _).rd c l).1.2⟩ : Lbl), (pairR (textC 33 _).rd (textC 16 _).rd c l).2) = _
  simp only [pairR, q1, q2]
 rw [hr] at hq
 injection hq with hq1 hq2
 injection hq2 with hq2 hq3
 subst hq1 hq2 hq3
 have Q1 := hid q1
 have Q2 := hid q2
 clear h hl hr q1 q2
 have hal := fun o => (Below.refl w.heap.size w).alloc (Nat.le_refl _) o
 have HAL := hid hal
 clear hal
 go_enter Tryz.func91, Tryz.ntmps91
 go_wp2_with fail
 refine (text_rd g 33 33 (by decide) (by decide) (by decide) c l HL.out x1 c1 l1 Q1.out _ (H.out.below (HAL.out _))).mono ?_
 rintro e w1 ⟨rfl, h1, k1⟩
 have H1 := hid h1
 have K1 := hid ((Wire.Aside.of_below (HAL.out _)).trans k1)
 have z1 := (k1.block w.heap.size ⟨by simp, by omega⟩).trans (heap_alloc_new w _)
 have Z1 := hid z1
 clear h1 k1 z1
 go_wp2_with fail
 refine (text_rd g 16 16 (by decide) (by decide) (by decide) c1 l1 (few Q1.out HL.out) x2 c2 l2 Q2.out w1 H1.out).mono ?_
 rintro e w2 ⟨rfl, h2, k2⟩
 have z2 := (k2.block w.heap.size ⟨lt_of_block Z1.out, by omega⟩).trans Z1.out
 obtain ⟨d0, d1, f0, f1⟩ := two_cells z2
 have y1 := two_set0 z2 (.string x1)
 have hk1 : Wire.Aside g w w2 := K1.out.trans k2
 obtain ⟨v1, hv1⟩ : ∃ v, w2.setCell ⟨w.heap.size, 0, none⟩ (.string x1) = v := ⟨_, rfl⟩
 rw [hv1] at y1
 obtain ⟨d2, d3, f2, f3⟩ := two_cells y1
 have y2 := two_set1 y1 (.string x2)
 obtain ⟨v2, hv2⟩ : ∃ v, v1.setCell ⟨w.heap.size, 1, none⟩ (.string x2) = v := ⟨_, rfl⟩
 rw [hv2] at y2
 obtain ⟨d4, d5, f4, f5⟩ := two_cells y2
 have HR := hid (show Rd v2 g c2 l2 by
  rw [← hv2, ← hv1]
  exact (Below.heap_setCell _ _ _ _ (by show g ≠ w.heap.size; omega)).trans ((Below.heap_setCell _ _ _ _ (by show g ≠ w.heap.size; omega)).trans h2))
 have HK := hid (show Wire.Aside g w v2 by
  rw [← hv2, ← hv1]
  exact Kept.setCell (Kept.setCell hk1 (p := ⟨w.heap.size, 0, none⟩) (fun hd => Nat.lt_irrefl _ hd.1) _) (p := ⟨w.heap.size, 1, none⟩) (fun hd => Nat.lt_irrefl _ hd.1) _)
 clear h2 k2 z2 y1 y2 hk1
 go_wp2_with fail
 refine bodyPost_ret (v := .agg #[.string x1, .string x2]) ?hres rfl ?_
 case hres => simp [results, Tryz.results91, go_sem, d4, d5]
 exact ⟨rfl, HR.out, HK.out⟩
end Pk
end Go.Proofs.YtljbpelogjmciaaGreatDoor
namespace Go.Proofs.YtljbpelogjmciaaGreatDoor
open Go.ChangeShapes Go.WideShapes Go.ChangeAt Go.RowKit Go.Lib
open LebMath WirePure Sd Wire SpecOwn
namespace Pk
theorem flatL_snoc : ∀ (l : List Lbl) (x : Lbl), flatL (l ++ [x]) = flatL l ++ [.string x.key, .string x.val]
 | [], x => rfl
 | y :: l, x => by rw [List.cons_append, flatL, flatL_snoc l x, flatL]; rfl
def flatI (l : List Int) : List Value := l.map (Value.int .i64)
theorem flatI_snoc (l : List Int) (x : Int) : flatI (l ++ [x]) = flatI l ++ [.int .i64 x] := by simp [flatI]
theorem flatI_length (l : List Int) : (flatI l).length = l.length * 1 := by simp [flatI]
theorem nums_own {w : World} {B : Nat} {A : Option Addr} {c : Nat} {l : List Int} (h : w.ownsRow B 3 1 (.slice A l.length c) l.length (flatI l)) (hI : ∀ z ∈ l, (Lit.int IntKind.i64 z).wf = true) : Lists.Nums .i64 w A l ∧ From B A := by
 refine ⟨fun k z hz => ?_, fun x hx => (h.lt x.block (by rw [hx]; rfl)).1⟩
 obtain ⟨a', ha', hc⟩ := nums_of_own h k z hz
 exact ⟨hI z (List.mem_of_getElem? hz), a', ha', by have := World.block_lt_of_cell? w _ hc; rwa [Lists.add_block] at this, hc⟩
theorem port_fits (c : Int) (l : List UInt8) : ∀ n, ∀ z ∈ repX portC.rd c l n, (Lit.int IntKind.i64 z).wf = true
 | 0, z, hz => by cases hz
 | n + 1, z, hz => by
  rw [repX] at hz
  rcases List.mem_append.1 hz with hz | hz
  · exact port_fits c l n z hz
  · rw [List.mem_singleton.1 hz]
    have h := numV_le 65535 (repS portC.rd c l n).1 (repS portC.rd c l n).2
    have e : (portC.rd (repS portC.rd c l n).1 (repS portC.rd c l n).2).1 = ((numV 65535 (repS portC.rd c l n).1 (repS portC.rd c l n).2 : Nat) : Int) := rfl
    rw [e]
    generalize numV 65535 (repS portC.rd c l n).1 (repS portC.rd c l n).2 = q at *
    simp only [Lit.wf, IntKind.min, IntKind.max, Bool.and_eq_true]
    simp [IntKind.signed, IntKind.bits]
    omega
theorem _root_.Go.Proofs.YtljbpelogjmciaaGreatDoor.Wire.Aside.trans2 {g : Nat} {w w2 w7 : World} (h : Wire.Aside g w w2) (hb : Below w.heap.size w2 w7) : Wire.Aside g w w7 :=
 ⟨hb.os.trans h.os, hb.tape.trans h.tape, hb.output.trans h.output, Nat.le_trans h.size hb.size, fun k hk => (hb.block k hk.1).trans (h.block k hk)⟩
theorem info_labels : (Tryz.prog.info? 140).map (fun i => (i.zero, i.size, i.bytes)) = some (some (.agg #[.string ⟨#[]⟩, .string ⟨#[]⟩]), 2, 32) := by kernel_rfl
set_option maxHeartbeats 1000000 in
theorem labels_rd (g : Nat) (m : Int) (k : Nat) (hk : k < 18446744073709551616) (hk1 : k ≤ 1000) (hm : m ≤ 9223372036854775807) (hmk : mostN m = k) (c : Int) (l : List UInt8) (hl : Few l) (xs : List Lbl) (c' : Int) (l' : List UInt8) (hq : (listC k hk labelC).rd c l = (xs, c', l')) (w : World) (h : Rd w g c l) :
 Calls Tryz.prog 90 #[.pointer (some ⟨g, 0, none⟩), .int .i64 m, .func (.func 91) #[] #[]] w fun e w' => ∃ A cap, e = .returned (.slice A xs.length cap) ∧ Lbls w' A xs ∧ From w.heap.size A ∧ xs.length ≤ cap ∧ Rd w' g c' l' ∧ Wire.Aside g w w' := by
 have H := hid h
 have HL := hid hl
 have hgl := h.lt
 obtain ⟨n, hn⟩ : ∃ n, numV k c l = n := ⟨_, rfl⟩
 obtain ⟨c1, hc1⟩ : ∃ d, numE k c l = d := ⟨_, rfl⟩
 obtain ⟨l1, hl1⟩ : ∃ d, numL k c l = d := ⟨_, rfl⟩
 have q0 : (intC k hk).rd c l = ((n : Int), c1, l1) := by rw [← hn, ← hc1, ← hl1]; rfl
 have hnk : n ≤ k := by rw [← hn]; exact numV_le k c l
 have hq' : ((if (repS labelC.rd c1 l1 n).1 = 0 then repX labelC.rd c1 l1 n else []), repS labelC.rd c1 l1 n) = (xs, c', l') := by rw [← hn, ← hc1, ← hl1]; exact hq
 injection hq' with hq1 hq2
 have few1 : Few l1 := few q0 hl
 have HQ1 := hid hq1
 have HQ2 := hid hq2
 have Q0 := hid q0
 obtain ⟨i0, hi0, hz0, hz1, hz2⟩ := info_parts info_labels
 have HF1 := hid few1
 clear h hl hq hq1 hq2 q0 few1 hn hc1 hl1
 go_enter Tryz.func90, Tryz.ntmps90
 go_wp2_with fail
 refine (num_rd g m k hk hm hmk c l HL.out n c1 l1 Q0.out w H.out).mono ?_
 rintro e w1 ⟨rfl, h1, k1⟩
 have H1 := hid h1
 have K1 := hid k1
 clear h1 k1
 go_wp2_with fail
 go_loopw [7, 11] (fun v i wr => ∃ j : Nat, j ≤ n ∧ i = .int .i64 j ∧ Hid (wr.ownsRow w.heap.size 140 2 v j (flatL (repX labelC.rd c1 l1 j))) ∧ Hid (Rd wr g (repS labelC.rd c1 l1 j).1 (repS labelC.rd c1 l1 j).2) ∧ Hid (Wire.Aside g w wr)) (fun _ i _ => n - (RowKit.intOf i).toNat)
 case atStart => exact ⟨0, Nat.zero_le _, rfl, World.ownsRow_nil _ _ _ _, H1.out, K1.out⟩
 case round =>
  obtain ⟨j, hj, rfl, HO, HR, HK⟩ := hrel
  have hjk : (j : Int) ≤ 1000 := by omega
  by_cases hlt : j < n
  · have hlt' : (j : Int) < (n : Int) := by omega
    have fewj : Few (repS labelC.rd c1 l1 j).2 := Nat.le_trans (repS_len labelC c1 l1 j) HF1.out
    obtain ⟨⟨x, c2, l2⟩, q⟩ : ∃ t, labelC.rd (repS labelC.rd c1 l1 j).1 (repS labelC.rd c1 l1 j).2 = t := ⟨_, rfl⟩; have HSJ := hid (show repS labelC.rd c1 l1 (j + 1) = (c2, l2) by show (labelC.rd _ _).2 = _; rw [q])
    have HXJ := hid (show flatL (repX labelC.rd c1 l1 (j + 1)) = flatL (repX labelC.rd c1 l1 j) ++ [.string x.key, .string x.val] by
     show flatL (repX labelC.rd c1 l1 j ++ [(labelC.rd _ _).1]) = _
     rw [q, flatL_snoc])
    have HXL := hid (show (flatL (repX labelC.rd c1 l1 j)).length = j * 2 by rw [flatL_length, repX_len])
    obtain ⟨A, cap, rfl⟩ := own_form HO.out
    have HRUN := hid (label_rd g _ _ fewj x c2 l2 q wr HR.out); clear q fewj; go_wp2_with fail
    refine HRUN.out.mono ?_
    rintro e w2 ⟨rfl, h2, k2⟩
    have hgr := HR.out.lt
    have o2 := Wire.owns_of HO.out (w' := w2) (fun r hr => k2.block r (by have := Wire.owns_lt HO.out hr; exact ⟨this.2, by omega⟩))
    have HOWN := hid (o2.alloc (.cells #[.string x.key, .string x.val] 140))
    have HR2 := hid h2
    have HK2 := hid (HK.out.trans k2); have HSZ := hid (show w.heap.size ≤ w2.heap.size from Nat.le_trans HK.out.size k2.size); clear HRUN h2 k2 o2 hgr
    go_wp2_with (at_builtin; refine wpList_append_own _ rfl _ _ 25 rfl w.heap.size 140 i0 _ 2 32 Tryz.underlying25 hi0 hz0 hz1 hz2 rfl (by decide) _ j (flatL (repX labelC.rd c1 l1 j)) rfl HOWN.out ⟨w2.heap.size, 0, none⟩ 1 1 [.string x.key, .string x.val] rfl rfl ?c1 ?c2 ?c3 ?c4 ?c5 ?_)
    case c1 => exact (World.ownsRow_lit (base := 0) (size := 2) (e := 140) w2 ([.string x.key, .string x.val] : List Value).toArray 1 (Nat.zero_le _) (by decide) rfl).cells rfl
    case c2 =>
     intro u hu
     simp only [List.mem_cons, List.not_mem_nil, or_false] at hu
     rcases hu with rfl | rfl <;> rfl
    case c3 => unfold maxLen; omega
    case c4 => omega
    case c5 => have := HSZ.out; simp; omega
    intro v' w7 hown' hgrow _
    have HO7 := hid (show w7.ownsRow w.heap.size 140 2 v' (j + 1) (flatL (repX labelC.rd c1 l1 (j + 1))) by rw [HXJ.out]; exact hown')
    have hbw : Below w.heap.size w2 w7 := ((Below.refl w.heap.size w2).alloc HSZ.out _).grown hgrow (by have := HSZ.out; simp; omega) (fun b hb => (HOWN.out.lt b hb).1)
    have HR7 := hid (show Rd w7 g (repS labelC.rd c1 l1 (j + 1)).1 (repS labelC.rd c1 l1 (j + 1)).2 by rw [HSJ.out]; exact (hbw.block g hgl).trans HR2.out); have HK7 := hid (show Wire.Aside g w w7 from HK2.out.trans2 hbw); clear hown' hgrow hbw HOWN; go_wp2
    go_roundw
    case rel => exact ⟨j + 1, by omega, by go_num, HO7.out, HR7.out, HK7.out⟩
    case measure => simp [RowKit.intOf]; omega
  · obtain rfl : j = n := by omega
    have hlt' : ¬ (j : Int) < (j : Int) := by omega
    obtain ⟨A, cap, rfl⟩ := own_form HO.out
    have hrr := HR.out
    obtain ⟨cz, hcz⟩ : ∃ d, (repS labelC.rd c1 l1 j).1 = d := ⟨_, rfl⟩; have HRUN := hid (code_any g _ _ wr HR.out); have HR2 := hid (show Rd wr g c' l' by rw [HQ2.out] at hrr; exact hrr)
    have hc' : cz = c' := by rw [← hcz, HQ2.out]
    have hcap : j ≤ cap := by
     rcases HO.out.2 with ⟨e1, e2⟩ | ⟨gg, cap', cur, e1, _, _, e4, _⟩
     · injection e1 with _ e5 e6; omega
     · injection e1 with _ e5 e6; omega
    clear hrr
    by_cases hz : cz = 0
    · have hz' : (cz != 0) = false := by simpa using hz
      have hxs : xs = repX labelC.rd c1 l1 j := by rw [← HQ1.out, if_pos (by rw [hcz]; exact hz)]
      have hxl : xs.length = j := by rw [hxs, repX_len]
      have HOX := hid (show wr.ownsRow w.heap.size 140 2 (.slice A xs.length cap) xs.length (flatL xs) by rw [hxl, hxs]; exact HO.out)
      have HXL := hid hxl
      rw [hcz] at HRUN
      clear hz hxs hxl hcz hc'; go_wp2_with fail
      refine HRUN.out.mono ?_
      rintro e w2 ⟨rfl, rfl⟩; go_wp2
      go_ret
      exact ⟨A, cap, (by rw [HXL.out]; rfl), (lbls_own HOX.out).1, (lbls_own HOX.out).2, (by rw [HXL.out]; exact hcap), HR2.out, HK.out⟩
    · have hz' : (cz != 0) = true := by simpa using hz
      have hxs : xs = [] := by rw [← HQ1.out, if_neg (by rw [hcz]; exact hz)]
      have HXS := hid hxs
      rw [hcz] at HRUN
      clear hz hxs hcz hc'; go_wp2_with fail
      refine HRUN.out.mono ?_
      rintro e w2 ⟨rfl, rfl⟩; go_wp2
      go_ret
      rw [HXS.out]
      exact ⟨none, 0, rfl, (fun k x hk => (by simp at hk)), (fun a ha => (by cases ha)), Nat.le_refl _, HR2.out, HK.out⟩
theorem info_ports : (Tryz.prog.info? 3).map (fun i => (i.zero, i.size, i.bytes)) = some (some (.int .i64 0), 1, 8) := by kernel_rfl
set_option maxHeartbeats 1000000 in
theorem ports_rd (g : Nat) (m : Int) (k : Nat) (hk : k < 18446744073709551616) (hk1 : k ≤ 1000) (hm : m ≤ 9223372036854775807) (hmk : mostN m = k) (c : Int) (l : List UInt8) (hl : Few l) (xs : List Int) (c' : Int) (l' : List UInt8) (hq : (listC k hk portC).rd c l = (xs, c', l')) (w : World) (h : Rd w g c l) :
 Calls Tryz.prog 93 #[.pointer (some ⟨g, 0, none⟩), .int .i64 m, .func (.func 94) #[] #[]] w fun e w' => ∃ A cap, e = .returned (.slice A xs.length cap) ∧ Lists.Nums .i64 w' A xs ∧ From w.heap.size A ∧ xs.length ≤ cap ∧ Rd w' g c' l' ∧ Wire.Aside g w w' := by
 have H := hid h
 have HL := hid hl
 have hgl := h.lt
 obtain ⟨n, hn⟩ : ∃ n, numV k c l = n := ⟨_, rfl⟩
 obtain ⟨c1, hc1⟩ : ∃ d, numE k c l = d := ⟨_, rfl⟩
 obtain ⟨l1, hl1⟩ : ∃ d, numL k c l = d := ⟨_, rfl⟩
 have q0 : (intC k hk).rd c l = ((n : Int), c1, l1) := by rw [← hn, ← hc1, ← hl1]; rfl
 have hnk : n ≤ k := by rw [← hn]; exact numV_le k c l
 have hq' : ((if (repS portC.rd c1 l1 n).1 = 0 then repX portC.rd c1 l1 n else []), repS portC.rd c1 l1 n) = (xs, c', l') := by rw [← hn, ← hc1, ← hl1]; exact hq
 injection hq' with hq1 hq2
 have few1 : Few l1 := few q0 hl
 have hpi : ∀ z ∈ xs, (Lit.int IntKind.i64 z).wf = true := by
  intro z hz
  rw [← hq1] at hz
  split at hz
  · exact port_fits _ _ _ z hz
  · cases hz
 have HPI := hid hpi
 clear hpi
 have HQ1 := hid hq1
 have HQ2 := hid hq2
 have Q0 := hid q0
 obtain ⟨i0, hi0, hz0, hz1, hz2⟩ := info_parts info_ports
 have HF1 := hid few1
 clear h hl hq hq1 hq2 q0 few1 hn hc1 hl1
 go_enter Tryz.func93, Tryz.ntmps93
 go_wp2_with fail
 refine (num_rd g m k hk hm hmk c l HL.out n c1 l1 Q0.out w H.out).mono ?_
 rintro e w1 ⟨rfl, h1, k1⟩
 have H1 := hid h1
 have K1 := hid k1
 clear h1 k1
 go_wp2_with fail
 go_loopw [7, 11] (fun v i wr => ∃ j : Nat, j ≤ n ∧ i = .int .i64 j ∧ Hid (wr.ownsRow w.heap.size 3 1 v j (flatI (repX portC.rd c1 l1 j))) ∧ Hid (Rd wr g (repS portC.rd c1 l1 j).1 (repS portC.rd c1 l1 j).2) ∧ Hid (Wire.Aside g w wr)) (fun _ i _ => n - (RowKit.intOf i).toNat)
 case atStart => exact ⟨0, Nat.zero_le _, rfl, World.ownsRow_nil _ _ _ _, H1.out, K1.out⟩
 case round =>
  obtain ⟨j, hj, rfl, HO, HR, HK⟩ := hrel
  have hjk : (j : Int) ≤ 1000 := by omega
  by_cases hlt : j < n
  · have hlt' : (j : Int) < (n : Int) := by omega
    have fewj : Few (repS portC.rd c1 l1 j).2 := Nat.le_trans (repS_len portC c1 l1 j) HF1.out
    obtain ⟨⟨x, c2, l2⟩, q⟩ : ∃ t, portC.rd (repS portC.rd c1 l1 j).1 (repS portC.rd c1 l1 j).2 = t := ⟨_, rfl⟩; have HSJ := hid (show repS portC.rd c1 l1 (j + 1) = (c2, l2) by show (portC.rd _ _).2 = _; rw [q])
    have HXJ := hid (show flatI (repX portC.rd c1 l1 (j + 1)) = flatI (repX portC.rd c1 l1 j) ++ [.int .i64 x] by
     show flatI (repX portC.rd c1 l1 j ++ [(portC.rd _ _).1]) = _
     rw [q, flatI_snoc])
    have HXL := hid (show (flatI (repX portC.rd c1 l1 j)).length = j * 1 by rw [flatI_length, repX_len])
    obtain ⟨A, cap, rfl⟩ := own_form HO.out
    have HRUN := hid (port_rd g _ _ fewj x c2 l2 q wr HR.out); clear q fewj; go_wp2_with fail
    refine HRUN.out.mono ?_
    rintro e w2 ⟨rfl, h2, k2⟩
    have hgr := HR.out.lt
    have o2 := Wire.owns_of HO.out (w' := w2) (fun r hr => k2.block r (by have := Wire.owns_lt HO.out hr; exact ⟨this.2, by omega⟩))
    have HOWN := hid (o2.alloc (.cells #[.int .i64 x] 3))
    have HR2 := hid h2
    have HK2 := hid (HK.out.trans k2); have HSZ := hid (show w.heap.size ≤ w2.heap.size from Nat.le_trans HK.out.size k2.size); clear HRUN h2 k2 o2 hgr
    go_wp2_with (at_builtin; refine wpList_append_own _ rfl _ _ 40 rfl w.heap.size 3 i0 _ 1 8 Tryz.underlying40 hi0 hz0 hz1 hz2 rfl (by decide) _ j (flatI (repX portC.rd c1 l1 j)) rfl HOWN.out ⟨w2.heap.size, 0, none⟩ 1 1 [.int .i64 x] rfl rfl ?c1 ?c2 ?c3 ?c4 ?c5 ?_)
    case c1 => exact (World.ownsRow_lit (base := 0) (size := 1) (e := 3) w2 ([.int .i64 x] : List Value).toArray 1 (Nat.zero_le _) (by decide) rfl).cells rfl
    case c2 =>
     intro u hu
     simp only [List.mem_cons, List.not_mem_nil, or_false] at hu
     rcases hu with rfl <;> rfl
    case c3 => unfold maxLen; omega
    case c4 => omega
    case c5 => have := HSZ.out; simp; omega
    intro v' w7 hown' hgrow _
    have HO7 := hid (show w7.ownsRow w.heap.size 3 1 v' (j + 1) (flatI (repX portC.rd c1 l1 (j + 1))) by rw [HXJ.out]; exact hown')
    have hbw : Below w.heap.size w2 w7 := ((Below.refl w.heap.size w2).alloc HSZ.out _).grown hgrow (by have := HSZ.out; simp; omega) (fun b hb => (HOWN.out.lt b hb).1)
    have HR7 := hid (show Rd w7 g (repS portC.rd c1 l1 (j + 1)).1 (repS portC.rd c1 l1 (j + 1)).2 by rw [HSJ.out]; exact (hbw.block g hgl).trans HR2.out); have HK7 := hid (show Wire.Aside g w w7 from HK2.out.trans2 hbw); clear hown' hgrow hbw HOWN; go_wp2
    go_roundw
    case rel => exact ⟨j + 1, by omega, by go_num, HO7.out, HR7.out, HK7.out⟩
    case measure => simp [RowKit.intOf]; omega
  · obtain rfl : j = n := by omega
    have hlt' : ¬ (j : Int) < (j : Int) := by omega
    obtain ⟨A, cap, rfl⟩ := own_form HO.out
    have hrr := HR.out
    obtain ⟨cz, hcz⟩ : ∃ d, (repS portC.rd c1 l1 j).1 = d := ⟨_, rfl⟩; have HRUN := hid (code_any g _ _ wr HR.out); have HR2 := hid (show Rd wr g c' l' by rw [HQ2.out] at hrr; exact hrr)
    have hc' : cz = c' := by rw [← hcz, HQ2.out]
    have hcap : j ≤ cap := by
     rcases HO.out.2 with ⟨e1, e2⟩ | ⟨gg, cap', cur, e1, _, _, e4, _⟩
     · injection e1 with _ e5 e6; omega
     · injection e1 with _ e5 e6; omega
    clear hrr
    by_cases hz : cz = 0
    · have hz' : (cz != 0) = false := by simpa using hz
      have hxs : xs = repX portC.rd c1 l1 j := by rw [← HQ1.out, if_pos (by rw [hcz]; exact hz)]
      have hxl : xs.length = j := by rw [hxs, repX_len]
      have HOX := hid (show wr.ownsRow w.heap.size 3 1 (.slice A xs.length cap) xs.length (flatI xs) by rw [hxl, hxs]; exact HO.out)
      have HXL := hid hxl
      rw [hcz] at HRUN
      clear hz hxs hxl hcz hc'; go_wp2_with fail
      refine HRUN.out.mono ?_
      rintro e w2 ⟨rfl, rfl⟩; go_wp2
      go_ret
      exact ⟨A, cap, (by rw [HXL.out]; rfl), (nums_own HOX.out HPI.out).1, (nums_own HOX.out HPI.out).2, (by rw [HXL.out]; exact hcap), HR2.out, HK.out⟩
    · have hz' : (cz != 0) = true := by simpa using hz
      have hxs : xs = [] := by rw [← HQ1.out, if_neg (by rw [hcz]; exact hz)]
      have HXS := hid hxs
      rw [hcz] at HRUN
      clear hz hxs hcz hc'; go_wp2_with fail
      refine HRUN.out.mono ?_
      rintro e w2 ⟨rfl, rfl⟩; go_wp2
      go_ret
      rw [HXS.out]
      exact ⟨none, 0, rfl, (fun k x hk => (by simp at hk)), (fun a ha => (by cases ha)), Nat.le_refl _, HR2.out, HK.out⟩
structure Only (b : Nat) (w v : World) : Prop where
 os : v.os = w.os
 tape : v.tape = w.tape
 output : v.output = w.output
 size : w.heap.size ≤ v.heap.size
 block : ∀ i, i ≠ b → v.heap[i]? = w.heap[i]?
theorem Only.refl (b : Nat) (w : World) : Only b w w := ⟨rfl, rfl, rfl, Nat.le_refl _, fun _ _ => rfl⟩
theorem Only.set {b : Nat} {w v : World} (h : Only b w v) (j : Nat) (u : Value) : Only b w (v.setCell ⟨b, j, none⟩ u) :=
 ⟨h.os, h.tape, h.output, by simpa using h.size, fun i hi => (Below.heap_setCell v ⟨b, j, none⟩ u i hi).trans (h.block i hi)⟩
theorem Only.rd {b g : Nat} {w v : World} {c : Int} {l : List UInt8} (h : Only b w v) (hr : Rd w g c l) (hne : g ≠ b) : Rd v g c l := (h.block g hne).trans hr
theorem Only.aside {b g : Nat} {a w v : World} (h : Only b w v) (hk : Wire.Aside g a w) (hb : a.heap.size ≤ b) : Wire.Aside g a v :=
 ⟨h.os.trans hk.os, h.tape.trans hk.tape, h.output.trans hk.output, Nat.le_trans hk.size h.size, fun i hi => (h.block i (by have := hi.1; omega)).trans (hk.block i hi)⟩
theorem nums_move {w v : World} {P : Option Addr} {l : List Int} (h : Lists.Nums .i64 w P l) (hs : w.heap.size ≤ v.heap.size) (hb : ∀ a, P = some a → l ≠ [] → a.block < w.heap.size → v.heap[a.block]? = w.heap[a.block]?) : Lists.Nums .i64 v P l := by
 intro j z hj
 obtain ⟨hw, a, ha, hla, hca⟩ := h j z hj
 refine ⟨hw, a, ha, Nat.lt_of_lt_of_le hla hs, ?_⟩
 rw [World.cell?_of_block (w := w) (by rw [Lists.add_block]; exact hb a ha (fun e => by rw [e] at hj; simp at hj) hla)]
 exact hca
theorem Only.nums {b : Nat} {w v : World} {P : Option Addr} {l : List Int} (h : Only b w v) (hn : Lists.Nums .i64 w P l) (hne : ∀ a, P = some a → a.block ≠ b) : Lists.Nums .i64 v P l :=
 nums_move hn h.size (fun a ha _ _ => h.block _ (hne a ha))
theorem nums_aside {B g : Nat} {w v : World} {P : Option Addr} {l : List Int} (hn : Lists.Nums .i64 w P l) (hF : From B P) (hg : g < B) (h : Wire.Aside g w v) : Lists.Nums .i64 v P l :=
 nums_move hn h.size (fun a ha _ hl => h.block _ ⟨hl, by have := hF a ha; omega⟩)
theorem lbls_move {w v : World} {P : Option Addr} {l : List Lbl} (h : Lbls w P l) (hs : w.heap.size ≤ v.heap.size) (hb : ∀ a, P = some a → a.block < w.heap.size → v.heap[a.block]? = w.heap[a.block]?) : Lbls v P l := by
 intro j z hj
 obtain ⟨a, ha, hla, hca⟩ := h j z hj
 exact ⟨a, ha, Nat.lt_of_lt_of_le hla hs, hca.keep (by rw [Lists.add_block]; exact hb a ha hla)⟩
theorem lbls_aside {B g : Nat} {w v : World} {P : Option Addr} {l : List Lbl} (hn : Lbls w P l) (hF : From B P) (hg : g < B) (h : Wire.Aside g w v) : Lbls v P l :=
 lbls_move hn h.size (fun a ha hl => h.block _ ⟨hl, by have := hF a ha; omega⟩)
theorem Only.lbls {b : Nat} {w v : World} {P : Option Addr} {l : List Lbl} (h : Only b w v) (hn : Lbls w P l) (hne : ∀ a, P = some a → a.block ≠ b) : Lbls v P l :=
 lbls_move hn h.size (fun a ha _ => h.block _ (hne a ha))
def CtrsUp (B : Nat) (w : World) (A : Option Addr) (l : List Ctr) : Prop := ∀ (k : Nat) (x : Ctr), l[k]? = some x → x.Fits ∧ ∃ a P c, A = some a ∧ B ≤ a.block ∧ a.block < w.heap.size ∧ x.cellsAt P c w (a.add (k * 11)) ∧ Lists.Nums .i64 w P x.ports ∧ From B P
theorem CtrsUp.ctrs {B : Nat} {w : World} {A : Option Addr} {l : List Ctr} (h : CtrsUp B w A l) : Ctrs w A l := by
 intro j x hj
 obtain ⟨hf, a, P, c, hA, h1, h2, hc, hn, hP⟩ := h j x hj
 exact ⟨hf, a, P, c, hA, h2, hc, hn⟩
theorem CtrsUp.less {B B' : Nat} {w : World} {A : Option Addr} {l : List Ctr} (h : CtrsUp B w A l) (hB : B' ≤ B) : CtrsUp B' w A l := by
 intro j x hj
 obtain ⟨hf, a, P, c, hA, h1, h2, hc, hn, hP⟩ := h j x hj
 exact ⟨hf, a, P, c, hA, Nat.le_trans hB h1, h2, hc, hn, fun p hp => Nat.le_trans hB (hP p hp)⟩
theorem CtrsUp.move {B : Nat} {w v : World} {A : Option Addr} {l : List Ctr} (h : CtrsUp B w A l) (hs : w.heap.size ≤ v.heap.size) (hb : ∀ i, B ≤ i → i < w.heap.size → v.heap[i]? = w.heap[i]?) : CtrsUp B v A l := by
 intro j x hj
 obtain ⟨hf, a, P, c, hA, h1, h2, hc, hn, hP⟩ := h j x hj
 exact ⟨hf, a, P, c, hA, h1, Nat.lt_of_lt_of_le h2 hs, hc.keep (by rw [Lists.add_block]; exact hb _ h1 h2), nums_move hn hs (fun a ha _ hl => hb _ (hP a ha) hl), hP⟩
theorem CtrsUp.aside {B g : Nat} {w v : World} {A : Option Addr} {l : List Ctr} (h : CtrsUp B w A l) (hg : g < B) (hk : Wire.Aside g w v) : CtrsUp B v A l :=
 h.move hk.size (fun i h1 h2 => hk.block i ⟨h2, by omega⟩)
theorem CtrsUp.below {B : Nat} {w v : World} {A : Option Addr} {l : List Ctr} (h : CtrsUp B w A l) (hk : Below w.heap.size w v) : CtrsUp B v A l :=
 h.move hk.size (fun i h1 h2 => hk.block i h2)
theorem Only.up {b B : Nat} {w v : World} {A : Option Addr} {l : List Ctr} (h : Only b w v) (hn : CtrsUp B w A l) (hb : b < B) : CtrsUp B v A l :=
 hn.move h.size (fun i h1 _ => h.block i (by omega))
structure SpcUp (B : Nat) (S : Spc) (w : World) (LA IA MA : Option Addr) : Prop where
 labels : Lbls w LA S.labels
 lfrom : From B LA
 init : CtrsUp B w IA S.init
 main : CtrsUp B w MA S.main
 nums : (S.labels.length ≤ 9223372036854775807 ∧ S.init.length ≤ 9223372036854775807 ∧ S.main.length ≤ 9223372036854775807) ∧ I64 S.restart ∧ I64 S.grace ∧ I64 S.prio
theorem SpcUp.in {B : Nat} {S : Spc} {w : World} {LA IA MA : Option Addr} {lc ic mc : Nat} (h : SpcUp B S w LA IA MA) : S.In w LA lc IA ic MA mc :=
 ⟨h.labels, h.init.ctrs, h.main.ctrs, h.nums.1.1, h.nums.1.2.1, h.nums.1.2.2, h.nums.2.1, h.nums.2.2.1, h.nums.2.2.2⟩
theorem SpcUp.aside {B g : Nat} {S : Spc} {w v : World} {LA IA MA : Option Addr} (h : SpcUp B S w LA IA MA) (hg : g < B) (hk : Wire.Aside g w v) : SpcUp B S v LA IA MA :=
 ⟨lbls_aside h.labels h.lfrom hg hk, h.lfrom, h.init.aside hg hk, h.main.aside hg hk, h.nums⟩
theorem SpcUp.below {B : Nat} {S : Spc} {w v : World} {LA IA MA : Option Addr} (h : SpcUp B S w LA IA MA) (hk : Below w.heap.size w v) : SpcUp B S v LA IA MA :=
 ⟨h.labels.below hk, h.lfrom, h.init.below hk, h.main.below hk, h.nums⟩
def Gat (B : Nat) (w : World) (v : Value) (L : List Held) : Prop := ∀ t ∈ L, t.x.Fits ∧ Lists.Nums .i64 w t.P t.x.ports ∧ From B t.P ∧ t.x.ports.length ≤ t.c ∧ (t.x.ports ≠ [] → ∀ p, t.P = some p → v.ownBlock ≠ some p.block)
theorem Gat.aside {B g : Nat} {w v : World} {u : Value} {L : List Held} (h : Gat B w u L) (hk : Wire.Aside g w v) (hg : g < B) : Gat B v u L := fun t ht => by
 obtain ⟨h1, h2, h3, h4, h5⟩ := h t ht
 exact ⟨h1, nums_aside h2 h3 hg hk, h3, h4, h5⟩
theorem Gat.grown {B : Nat} {w w7 : World} {u v' : Value} {L : List Held} {o : Obj} (h : Gat B w u L) (hg : (w.alloc o).grownBy w7 u.ownBlock) (hat : v'.ownBlock = u.ownBlock ∨ v'.ownBlock = some (w.heap.size + 1)) : Gat B w7 v' L := fun t ht => by
 obtain ⟨h1, h2, h3, h4, h5⟩ := h t ht
 have hsz : (w.alloc o).heap.size = w.heap.size + 1 := by simp
 refine ⟨h1, nums_move h2 (by have := hg.size; omega) (fun a ha hne hl => ?_), h3, h4, fun hne p hp => ?_⟩
 · exact (hg.block a.block (by omega) (fun e => h5 hne a ha e.symm)).trans (Below.heap_alloc w o a.block hl)
 · rcases hat with e | e
   · rw [e]; exact h5 hne p hp
   · rw [e]
     intro e2
     injection e2 with e2
     cases hq : t.x.ports with
     | nil => exact hne hq
     | cons z zs =>
      obtain ⟨_, a, ha, hla, _⟩ := h2 0 z (by rw [hq]; rfl)
      rw [hp] at ha
      injection ha with ha
      subst ha
      omega
theorem Gat.up {B : Nat} {w : World} {A : Option Addr} {n cap : Nat} {L : List Held} (h : Gat B w (.slice A n cap) L) (ho : w.ownsRow B 74 11 (.slice A n cap) n (flat L)) : CtrsUp B w A (L.map (·.x)) := by
 intro k x hk
 rw [List.getElem?_map, Option.map_eq_some_iff] at hk
 obtain ⟨t, ht, rfl⟩ := hk
 obtain ⟨h1, h2, h3, h4, h5⟩ := h t (List.mem_of_getElem? ht)
 have hkl : k < L.length := (List.getElem?_eq_some_iff.1 ht).1
 have hln := ho.1
 rw [flat_length] at hln
 rcases ho.2 with ⟨e1, h0⟩ | ⟨g, cap', cur, e1, e2, e3, e4⟩
 · omega
 · injection e1 with e1 e5 e6
   subst e1
   have hc : ∀ j, j < 11 → w.cell? ⟨g, k * 11 + j, none⟩ = t.cells[j]? := fun j hj => by
    rw [ho.cellAt (k * 11 + j) (by omega), flat_at ht j hj]
   have e0 : (⟨g, 0, none⟩ : Addr).add (k * 11) = ⟨g, k * 11, none⟩ := by unfold Addr.add; split <;> simp_all
   refine ⟨h1, _, t.P, t.c, rfl, e2, lt_of_block e3, ?_, h2, h3⟩
   rw [e0]
   exact ⟨hc 0 (by omega), hc 1 (by omega), hc 2 (by omega), hc 3 (by omega), hc 4 (by omega), hc 5 (by omega), hc 6 (by omega), hc 7 (by omega), hc 8 (by omega), hc 9 (by omega), hc 10 (by omega), h4⟩
theorem i64_rng {z : Int} {m : Nat} (h : 0 ≤ z ∧ z ≤ m) (hm : m ≤ 1099511627776) : I64 z := by
 unfold I64
 have : (m : Int) ≤ 1099511627776 := by omega
 omega
theorem ctr_fits_ok {x : Ctr} (h : ctrC.ok x) : x.Fits := by
 obtain ⟨⟨_, _, ⟨r1, r2, r3⟩, ⟨l1, l2, l3⟩, ⟨p1, _⟩, v1, v2⟩, _⟩ := h
 have hp : x.ports.length ≤ 3 := p1
 exact ⟨i64_rng (int_rng r1) (by omega), i64_rng (int_rng r2) (by omega), i64_rng (int_rng r3) (by omega), i64_rng (int_rng l1) (by omega), i64_rng (int_rng l2) (by omega), i64_rng (int_rng l3) (by omega), i64_rng (int_rng v1) (by omega), i64_rng (int_rng v2) (by omega), by omega⟩
theorem ctr_fits {c : Int} {l : List UInt8} {x : Ctr} {c' : Int} {l' : List UInt8} (hq : ctrC.rd c l = (x, c', l')) : x.Fits := by
 have h := ctrC.okay c l
 rw [hq] at h
 exact ctr_fits_ok h
theorem spec_nums {c : Int} {l : List UInt8} {S : Spc} {c' : Int} {l' : List UInt8} (hq : specC.rd c l = (S, c', l')) : (S.labels.length ≤ 9223372036854775807 ∧ S.init.length ≤ 9223372036854775807 ∧ S.main.length ≤ 9223372036854775807) ∧ I64 S.restart ∧ I64 S.grace ∧ I64 S.prio := by
 have h := specC.okay c l
 rw [hq] at h
 obtain ⟨⟨_, ⟨h1, _⟩, ⟨h2, _⟩, ⟨h3, _⟩, h4, h5, h6⟩, _⟩ := h
 have g1 : S.labels.length ≤ 4 := h1
 have g2 : S.init.length ≤ 3 := h2
 have g3 : S.main.length ≤ 4 := h3
 exact ⟨⟨by omega, by omega, by omega⟩, i64_rng (int_rng h4) (by omega), i64_rng (int_rng h5) (by omega), i64_rng (int_rng h6) (by omega)⟩
theorem info_ctrU : (Tryz.prog.info? 74).map (fun i => (i.zero, i.size, i.bytes)) = some (some (.agg #[.string ⟨#[]⟩, .string ⟨#[]⟩, .int .i64 0, .int .i64 0, .int .i64 0, .int .i64 0, .int .i64 0, .int .i64 0, .slice none 0 0, .int .i64 0, .int .i64 0]), 11, 120) := by kernel_rfl
set_option maxHeartbeats 1000000 in
theorem res_rd (g : Nat) (c : Int) (l : List UInt8) (hl : Few l) (a1 a2 a3 : Int) (c' : Int) (l' : List UInt8) (hq : resC.rd c l = ((a1, a2, a3), c', l')) (w : World) (h : Rd w g c l) :
 Calls Tryz.prog 92 #[.pointer (some ⟨g, 0, none⟩)] w fun e w' => e = .returned (.agg #[.int .i64 a1, .int .i64 a2, .int .i64 a3]) ∧ Rd w' g c' l' ∧ Wire.Aside g w w' := by
 have hgl := h.lt
 obtain ⟨⟨x1, c1, l1⟩, q1⟩ : ∃ t, bigC.rd c l = t := ⟨_, rfl⟩
 obtain ⟨⟨x2, c2, l2⟩, q2⟩ : ∃ t, bigC.rd c1 l1 = t := ⟨_, rfl⟩
 obtain ⟨⟨x3, c3, l3⟩, q3⟩ : ∃ t, bigC.rd c2 l2 = t := ⟨_, rfl⟩
 have hr : resC.rd c l = ((x1, x2, x3), c3, l3) := by
  show pairR bigC.rd (pairR bigC.rd bigC.rd) c l = _
  simp only [pairR, q1, q2, q3]
 rw [hr] at hq
 injection hq with hq1 hq2
 injection hq1 with hq1 hq4
 injection hq4 with hq4 hq5
 injection hq2 with hq2 hq3
 subst hq1 hq2 hq3 hq4 hq5
 clear hr
 have few0 : Few l := hl
 have few1 : Few l1 := few q1 few0
 have few2 : Few l2 := few q2 few1
 have few3 : Few l3 := few q3 few2
 have FW0 := hid few0
 have FW1 := hid few1
 have FW2 := hid few2
 have FW3 := hid few3
 have Q1 := hid q1
 have Q2 := hid q2
 have Q3 := hid q3
 clear hl few0 few1 few2 few3 q1 q2 q3
 obtain ⟨w1, hw1⟩ : ∃ v, w.alloc (.cells #[.int .i64 0, .int .i64 0, .int .i64 0] 70) = v := ⟨_, rfl⟩
 have hb1 : Below w.heap.size w w1 := by rw [← hw1]; exact (Below.refl _ _).alloc (Nat.le_refl _) _
 have z1 : w1.heap[w.heap.size]? = some (.cells #[.int .i64 0, .int .i64 0, .int .i64 0] 70 (0, 0)) := by rw [← hw1]; exact heap_alloc_new w _
 have H1 := hid (h.below hb1)
 have K1 := hid (Wire.Aside.of_below (g := g) hb1)
 have Z1 := hid z1
 clear h hb1 z1
 go_enter Tryz.func92, Tryz.ntmps92
 go_wp2_with fail
 refine (num_rd g 1099511627776 1099511627776 (by decide) (by decide) (by decide) c l FW0.out x1 c1 l1 Q1.out w1 H1.out).mono ?_
 rintro e w2 ⟨rfl, h2, k2⟩
 have H2 := hid h2
 have K2 := hid (K1.out.trans k2)
 have z2 := (k2.block w.heap.size ⟨lt_of_block Z1.out, by omega⟩).trans Z1.out
 have Z2 := hid z2
 clear h2 k2 z2
 go_wp2_with fail
 refine (num_rd g 1099511627776 1099511627776 (by decide) (by decide) (by decide) c1 l1 FW1.out x2 c2 l2 Q2.out w2 H2.out).mono ?_
 rintro e w3 ⟨rfl, h3, k3⟩
 have H3 := hid h3
 have K3 := hid (K2.out.trans k3)
 have z3 := (k3.block w.heap.size ⟨lt_of_block Z2.out, by omega⟩).trans Z2.out
 have Z3 := hid z3
 clear h3 k3 z3
 go_wp2_with fail
 refine (num_rd g 1099511627776 1099511627776 (by decide) (by decide) (by decide) c2 l2 FW2.out x3 c3 l3 Q3.out w3 H3.out).mono ?_
 rintro e w4 ⟨rfl, h4, k4⟩
 have z4 := (k4.block w.heap.size ⟨lt_of_block Z3.out, by omega⟩).trans Z3.out
 have vc0 : w4.cell? ⟨w.heap.size, 0, none⟩ = some (.int .i64 0) := by simp [World.cell?, z4]
 have vf0 : w4.frozen? ⟨w.heap.size, 0, none⟩ = false := by simp [World.frozen?, z4]
 obtain ⟨v1, ve1⟩ : ∃ v, w4.setCell ⟨w.heap.size, 0, none⟩ (.int .i64 x1) = v := ⟨_, rfl⟩
 have vz1 : v1.heap[w.heap.size]? = some (.cells #[.int .i64 x1, .int .i64 0, .int .i64 0] 70 (0, 0)) := by rw [← ve1]; simpa using heap_setCell_same w4 w.heap.size 0 _ _ (.int .i64 x1) z4
 have vo1 : Only w.heap.size w4 v1 := by rw [← ve1]; exact (Only.refl w.heap.size w4).set 0 _
 have vc1 : v1.cell? ⟨w.heap.size, 1, none⟩ = some (.int .i64 0) := by simp [World.cell?, vz1]
 have vf1 : v1.frozen? ⟨w.heap.size, 1, none⟩ = false := by simp [World.frozen?, vz1]
 obtain ⟨v2, ve2⟩ : ∃ v, v1.setCell ⟨w.heap.size, 1, none⟩ (.int .i64 x2) = v := ⟨_, rfl⟩
 have vz2 : v2.heap[w.heap.size]? = some (.cells #[.int .i64 x1, .int .i64 x2, .int .i64 0] 70 (0, 0)) := by rw [← ve2]; simpa using heap_setCell_same v1 w.heap.size 1 _ _ (.int .i64 x2) vz1
 have vo2 : Only w.heap.size w4 v2 := by rw [← ve2]; exact vo1.set 1 _
 have vc2 : v2.cell? ⟨w.heap.size, 2, none⟩ = some (.int .i64 0) := by simp [World.cell?, vz2]
 have vf2 : v2.frozen? ⟨w.heap.size, 2, none⟩ = false := by simp [World.frozen?, vz2]
 obtain ⟨v3, ve3⟩ : ∃ v, v2.setCell ⟨w.heap.size, 2, none⟩ (.int .i64 x3) = v := ⟨_, rfl⟩
 have vz3 : v3.heap[w.heap.size]? = some (.cells #[.int .i64 x1, .int .i64 x2, .int .i64 x3] 70 (0, 0)) := by rw [← ve3]; simpa using heap_setCell_same v2 w.heap.size 2 _ _ (.int .i64 x3) vz2
 have vo3 : Only w.heap.size w4 v3 := by rw [← ve3]; exact vo2.set 2 _
 have vr0 : v3.cell? ⟨w.heap.size, 0, none⟩ = some (.int .i64 x1) := by simp [World.cell?, vz3]
 have vr1 : v3.cell? ⟨w.heap.size, 1, none⟩ = some (.int .i64 x2) := by simp [World.cell?, vz3]
 have vr2 : v3.cell? ⟨w.heap.size, 2, none⟩ = some (.int .i64 x3) := by simp [World.cell?, vz3]
 have OX := hid vo3
 clear vz1 vo1 vz2 vo2 vz3 vo3
 have HR := hid (OX.out.rd h4 (by omega))
 have HK := hid (OX.out.aside (K3.out.trans k4) (Nat.le_refl _))
 clear h4 k4 z4
 go_wp2_with fail
 refine bodyPost_ret (v := .agg #[.int .i64 x1, .int .i64 x2, .int .i64 x3]) ?hres rfl ?_
 case hres => simp [results, Tryz.results92, go_sem, vr0, vr1, vr2]
 exact ⟨rfl, HR.out, HK.out⟩
set_option maxHeartbeats 2000000 in
theorem ctr_rd (g : Nat) (c : Int) (l : List UInt8) (hl : Few l) (x : Ctr) (c' : Int) (l' : List UInt8) (hq : ctrC.rd c l = (x, c', l')) (w : World) (h : Rd w g c l) :
 Calls Tryz.prog 40 #[.pointer (some ⟨g, 0, none⟩)] w fun e w' => ∃ P pc, e = .returned (.agg #[.string x.name, .string x.image, .int .i64 x.rc, .int .i64 x.rm, .int .i64 x.rp, .int .i64 x.lc, .int .i64 x.lm, .int .i64 x.lp, .slice P x.ports.length pc, .int .i64 x.ev, .int .i64 x.fl]) ∧ Lists.Nums .i64 w' P x.ports ∧ From w.heap.size P ∧ x.ports.length ≤ pc ∧ Rd w' g c' l' ∧ Wire.Aside g w w' := by
 have hgl := h.lt
 obtain ⟨⟨x1, c1, l1⟩, q1⟩ : ∃ t, (textC 16 (by decide)).rd c l = t := ⟨_, rfl⟩
 obtain ⟨⟨x2, c2, l2⟩, q2⟩ : ∃ t, (textC 33 (by decide)).rd c1 l1 = t := ⟨_, rfl⟩
 obtain ⟨⟨⟨a3, b3, d3⟩, c3, l3⟩, q3⟩ : ∃ t, resC.rd c2 l2 = t := ⟨_, rfl⟩
 obtain ⟨⟨⟨a4, b4, d4⟩, c4, l4⟩, q4⟩ : ∃ t, resC.rd c3 l3 = t := ⟨_, rfl⟩
 obtain ⟨⟨x5, c5, l5⟩, q5⟩ : ∃ t, portsC.rd c4 l4 = t := ⟨_, rfl⟩
 obtain ⟨⟨x6, c6, l6⟩, q6⟩ : ∃ t, (intC 1000 (by decide)).rd c5 l5 = t := ⟨_, rfl⟩
 obtain ⟨⟨x7, c7, l7⟩, q7⟩ : ∃ t, (intC 10 (by decide)).rd c6 l6 = t := ⟨_, rfl⟩
 have hr : ctrC.rd c l = (⟨x1, x2, a3, b3, d3, a4, b4, d4, x5, x6, x7⟩, c7, l7) := by
  simp only [ctrC, mapC, pairC, probeC, pairR, q1, q2, q3, q4, q5, q6, q7]
 rw [hr] at hq
 injection hq with hq1 hq2
 injection hq2 with hq2 hq3
 subst hq1 hq2 hq3
 clear hr
 have few0 : Few l := hl
 have few1 : Few l1 := few q1 few0
 have few2 : Few l2 := few q2 few1
 have few3 : Few l3 := few q3 few2
 have few4 : Few l4 := few q4 few3
 have few5 : Few l5 := few q5 few4
 have few6 : Few l6 := few q6 few5
 have few7 : Few l7 := few q7 few6
 have FW0 := hid few0
 have FW1 := hid few1
 have FW2 := hid few2
 have FW3 := hid few3
 have FW4 := hid few4
 have FW5 := hid few5
 have FW6 := hid few6
 have FW7 := hid few7
 have Q1 := hid q1
 have Q2 := hid q2
 have Q3 := hid q3
 have Q4 := hid q4
 have Q5 := hid q5
 have Q6 := hid q6
 have Q7 := hid q7
 clear hl few0 few1 few2 few3 few4 few5 few6 few7 q1 q2 q3 q4 q5 q6 q7
 obtain ⟨w1, hw1⟩ : ∃ v, w.alloc (.cells #[.string ⟨#[]⟩, .string ⟨#[]⟩, .int .i64 0, .int .i64 0, .int .i64 0, .int .i64 0, .int .i64 0, .int .i64 0, .slice none 0 0, .int .i64 0, .int .i64 0] 74) = v := ⟨_, rfl⟩
 have hb1 : Below w.heap.size w w1 := by rw [← hw1]; exact (Below.refl _ _).alloc (Nat.le_refl _) _
 have z1 : w1.heap[w.heap.size]? = some (.cells #[.string ⟨#[]⟩, .string ⟨#[]⟩, .int .i64 0, .int .i64 0, .int .i64 0, .int .i64 0, .int .i64 0, .int .i64 0, .slice none 0 0, .int .i64 0, .int .i64 0] 74 (0, 0)) := by rw [← hw1]; exact heap_alloc_new w _
 have H1 := hid (h.below hb1)
 have K1 := hid (Wire.Aside.of_below (g := g) hb1)
 have Z1 := hid z1
 clear h hb1 z1
 go_enter Tryz.func40, Tryz.ntmps40
 go_wp2_with fail
 refine (text_rd g 16 16 (by decide) (by decide) (by decide) c l FW0.out x1 c1 l1 Q1.out w1 H1.out).mono ?_
 rintro e w2 ⟨rfl, h2, k2⟩
 have H2 := hid h2
 have K2 := hid (K1.out.trans k2)
 have z2 := (k2.block w.heap.size ⟨lt_of_block Z1.out, by omega⟩).trans Z1.out
 have Z2 := hid z2
 clear h2 k2 z2
 go_wp2_with fail
 refine (text_rd g 33 33 (by decide) (by decide) (by decide) c1 l1 FW1.out x2 c2 l2 Q2.out w2 H2.out).mono ?_
 rintro e w3 ⟨rfl, h3, k3⟩
 have H3 := hid h3
 have K3 := hid (K2.out.trans k3)
 have z3 := (k3.block w.heap.size ⟨lt_of_block Z2.out, by omega⟩).trans Z2.out
 have Z3 := hid z3
 clear h3 k3 z3
 go_wp2_with fail
 refine (res_rd g c2 l2 FW2.out a3 b3 d3 c3 l3 Q3.out w3 H3.out).mono ?_
 rintro e w4 ⟨rfl, h4, k4⟩
 have H4 := hid h4
 have K4 := hid (K3.out.trans k4)
 have z4 := (k4.block w.heap.size ⟨lt_of_block Z3.out, by omega⟩).trans Z3.out
 have Z4 := hid z4
 clear h4 k4 z4
 go_wp2_with fail
 refine (res_rd g c3 l3 FW3.out a4 b4 d4 c4 l4 Q4.out w4 H4.out).mono ?_
 rintro e w5 ⟨rfl, h5, k5⟩
 have H5 := hid h5
 have K5 := hid (K4.out.trans k5)
 have z5 := (k5.block w.heap.size ⟨lt_of_block Z4.out, by omega⟩).trans Z4.out
 have Z5 := hid z5
 clear h5 k5 z5
 go_wp2_with fail
 refine (ports_rd g 3 3 (by decide) (by decide) (by decide) (by decide) c4 l4 FW4.out x5 c5 l5 Q5.out w5 H5.out).mono ?_
 rintro e w6 ⟨PA, pc, rfl, hn, hfr, hcap, h6, k6⟩
 have H6 := hid h6
 have K6 := hid (K5.out.trans k6)
 have z6 := (k6.block w.heap.size ⟨lt_of_block Z5.out, by omega⟩).trans Z5.out
 have Z6 := hid z6
 have hsz := k6.size
 have HN := hid hn
 have HFR := hid (show From w.heap.size PA from fun a ha => Nat.le_trans K5.out.size (hfr a ha))
 have HFP := hid hfr
 clear hn hfr hsz
 clear h6 k6 z6
 go_wp2_with fail
 refine (num_rd g 1000 1000 (by decide) (by decide) (by decide) c5 l5 FW5.out x6 c6 l6 Q6.out w6 H6.out).mono ?_
 rintro e w7 ⟨rfl, h7, k7⟩
 have H7 := hid h7
 have K7 := hid (K6.out.trans k7)
 have z7 := (k7.block w.heap.size ⟨lt_of_block Z6.out, by omega⟩).trans Z6.out
 have Z7 := hid z7
 have HN7 := hid (nums_aside HN.out HFP.out (by have := K5.out.size; omega) k7)
 clear h7 k7 z7
 go_wp2_with fail
 refine (num_rd g 10 10 (by decide) (by decide) (by decide) c6 l6 FW6.out x7 c7 l7 Q7.out w7 H7.out).mono ?_
 rintro e w8 ⟨rfl, h8, k8⟩
 have z8 := (k8.block w.heap.size ⟨lt_of_block Z7.out, by omega⟩).trans Z7.out
 have vc0 : w8.cell? ⟨w.heap.size, 0, none⟩ = some (.string ⟨#[]⟩) := by simp [World.cell?, z8]
 have vf0 : w8.frozen? ⟨w.heap.size, 0, none⟩ = false := by simp [World.frozen?, z8]
 obtain ⟨v1, ve1⟩ : ∃ v, w8.setCell ⟨w.heap.size, 0, none⟩ (.string x1) = v := ⟨_, rfl⟩
 have vz1 : v1.heap[w.heap.size]? = some (.cells #[.string x1, .string ⟨#[]⟩, .int .i64 0, .int .i64 0, .int .i64 0, .int .i64 0, .int .i64 0, .int .i64 0, .slice none 0 0, .int .i64 0, .int .i64 0] 74 (0, 0)) := by rw [← ve1]; simpa using heap_setCell_same w8 w.heap.size 0 _ _ (.string x1) z8
 have vo1 : Only w.heap.size w8 v1 := by rw [← ve1]; exact (Only.refl w.heap.size w8).set 0 _
 have vc1 : v1.cell? ⟨w.heap.size, 1, none⟩ = some (.string ⟨#[]⟩) := by simp [World.cell?, vz1]
 have vf1 : v1.frozen? ⟨w.heap.size, 1, none⟩ = false := by simp [World.frozen?, vz1]
 obtain ⟨v2, ve2⟩ : ∃ v, v1.setCell ⟨w.heap.size, 1, none⟩ (.string x2) = v := ⟨_, rfl⟩
 have vz2 : v2.heap[w.heap.size]? = some (.cells #[.string x1, .string x2, .int .i64 0, .int .i64 0, .int .i64 0, .int .i64 0, .int .i64 0, .int .i64 0, .slice none 0 0, .int .i64 0, .int .i64 0] 74 (0, 0)) := by rw [← ve2]; simpa using heap_setCell_same v1 w.heap.size 1 _ _ (.string x2) vz1
 have vo2 : Only w.heap.size w8 v2 := by rw [← ve2]; exact vo1.set 1 _
 have vc2 : v2.cell? ⟨w.heap.size, 2, none⟩ = some (.int .i64 0) := by simp [World.cell?, vz2]
 have vf2 : v2.frozen? ⟨w.heap.size, 2, none⟩ = false := by simp [World.frozen?, vz2]
 obtain ⟨v3, ve3⟩ : ∃ v, v2.setCell ⟨w.heap.size, 2, none⟩ (.int .i64 a3) = v := ⟨_, rfl⟩
 have vz3 : v3.heap[w.heap.size]? = some (.cells #[.string x1, .string x2, .int .i64 a3, .int .i64 0, .int .i64 0, .int .i64 0, .int .i64 0, .int .i64 0, .slice none 0 0, .int .i64 0, .int .i64 0] 74 (0, 0)) := by rw [← ve3]; simpa using heap_setCell_same v2 w.heap.size 2 _ _ (.int .i64 a3) vz2
 have vo3 : Only w.heap.size w8 v3 := by rw [← ve3]; exact vo2.set 2 _
 have vc3 : v3.cell? ⟨w.heap.size, 3, none⟩ = some (.int .i64 0) := by simp [World.cell?, vz3]
 have vf3 : v3.frozen? ⟨w.heap.size, 3, none⟩ = false := by simp [World.frozen?, vz3]
 obtain ⟨v4, ve4⟩ : ∃ v, v3.setCell ⟨w.heap.size, 3, none⟩ (.int .i64 b3) = v := ⟨_, rfl⟩
 have vz4 : v4.heap[w.heap.size]? = some (.cells #[.string x1, .string x2, .int .i64 a3, .int .i64 b3, .int .i64 0, .int .i64 0, .int .i64 0, .int .i64 0, .slice none 0 0, .int .i64 0, .int .i64 0] 74 (0, 0)) := by rw [← ve4]; simpa using heap_setCell_same v3 w.heap.size 3 _ _ (.int .i64 b3) vz3
 have vo4 : Only w.heap.size w8 v4 := by rw [← ve4]; exact vo3.set 3 _
 have vc4 : v4.cell? ⟨w.heap.size, 4, none⟩ = some (.int .i64 0) := by simp [World.cell?, vz4]
 have vf4 : v4.frozen? ⟨w.heap.size, 4, none⟩ = false := by simp [World.frozen?, vz4]
 obtain ⟨v5, ve5⟩ : ∃ v, v4.setCell ⟨w.heap.size, 4, none⟩ (.int .i64 d3) = v := ⟨_, rfl⟩
 have vz5 : v5.heap[w.heap.size]? = some (.cells #[.string x1, .string x2, .int .i64 a3, .int .i64 b3, .int .i64 d3, .int .i64 0, .int .i64 0, .int .i64 0, .slice none 0 0, .int .i64 0, .int .i64 0] 74 (0, 0)) := by rw [← ve5]; simpa using heap_setCell_same v4 w.heap.size 4 _ _ (.int .i64 d3) vz4
 have vo5 : Only w.heap.size w8 v5 := by rw [← ve5]; exact vo4.set 4 _
 have vc5 : v5.cell? ⟨w.heap.size, 5, none⟩ = some (.int .i64 0) := by simp [World.cell?, vz5]
 have vf5 : v5.frozen? ⟨w.heap.size, 5, none⟩ = false := by simp [World.frozen?, vz5]
 obtain ⟨v6, ve6⟩ : ∃ v, v5.setCell ⟨w.heap.size, 5, none⟩ (.int .i64 a4) = v := ⟨_, rfl⟩
 have vz6 : v6.heap[w.heap.size]? = some (.cells #[.string x1, .string x2, .int .i64 a3, .int .i64 b3, .int .i64 d3, .int .i64 a4, .int .i64 0, .int .i64 0, .slice none 0 0, .int .i64 0, .int .i64 0] 74 (0, 0)) := by rw [← ve6]; simpa using heap_setCell_same v5 w.heap.size 5 _ _ (.int .i64 a4) vz5
 have vo6 : Only w.heap.size w8 v6 := by rw [← ve6]; exact vo5.set 5 _
 have vc6 : v6.cell? ⟨w.heap.size, 6, none⟩ = some (.int .i64 0) := by simp [World.cell?, vz6]
 have vf6 : v6.frozen? ⟨w.heap.size, 6, none⟩ = false := by simp [World.frozen?, vz6]
 obtain ⟨v7, ve7⟩ : ∃ v, v6.setCell ⟨w.heap.size, 6, none⟩ (.int .i64 b4) = v := ⟨_, rfl⟩
 have vz7 : v7.heap[w.heap.size]? = some (.cells #[.string x1, .string x2, .int .i64 a3, .int .i64 b3, .int .i64 d3, .int .i64 a4, .int .i64 b4, .int .i64 0, .slice none 0 0, .int .i64 0, .int .i64 0] 74 (0, 0)) := by rw [← ve7]; simpa using heap_setCell_same v6 w.heap.size 6 _ _ (.int .i64 b4) vz6
 have vo7 : Only w.heap.size w8 v7 := by rw [← ve7]; exact vo6.set 6 _
 have vc7 : v7.cell? ⟨w.heap.size, 7, none⟩ = some (.int .i64 0) := by simp [World.cell?, vz7]
 have vf7 : v7.frozen? ⟨w.heap.size, 7, none⟩ = false := by simp [World.frozen?, vz7]
 obtain ⟨v8, ve8⟩ : ∃ v, v7.setCell ⟨w.heap.size, 7, none⟩ (.int .i64 d4) = v := ⟨_, rfl⟩
 have vz8 : v8.heap[w.heap.size]? = some (.cells #[.string x1, .string x2, .int .i64 a3, .int .i64 b3, .int .i64 d3, .int .i64 a4, .int .i64 b4, .int .i64 d4, .slice none 0 0, .int .i64 0, .int .i64 0] 74 (0, 0)) := by rw [← ve8]; simpa using heap_setCell_same v7 w.heap.size 7 _ _ (.int .i64 d4) vz7
 have vo8 : Only w.heap.size w8 v8 := by rw [← ve8]; exact vo7.set 7 _
 have vc8 : v8.cell? ⟨w.heap.size, 8, none⟩ = some (.slice none 0 0) := by simp [World.cell?, vz8]
 have vf8 : v8.frozen? ⟨w.heap.size, 8, none⟩ = false := by simp [World.frozen?, vz8]
 obtain ⟨v9, ve9⟩ : ∃ v, v8.setCell ⟨w.heap.size, 8, none⟩ (.slice PA x5.length pc) = v := ⟨_, rfl⟩
 have vz9 : v9.heap[w.heap.size]? = some (.cells #[.string x1, .string x2, .int .i64 a3, .int .i64 b3, .int .i64 d3, .int .i64 a4, .int .i64 b4, .int .i64 d4, .slice PA x5.length pc, .int .i64 0, .int .i64 0] 74 (0, 0)) := by rw [← ve9]; simpa using heap_setCell_same v8 w.heap.size 8 _ _ (.slice PA x5.length pc) vz8
 have vo9 : Only w.heap.size w8 v9 := by rw [← ve9]; exact vo8.set 8 _
 have vc9 : v9.cell? ⟨w.heap.size, 9, none⟩ = some (.int .i64 0) := by simp [World.cell?, vz9]
 have vf9 : v9.frozen? ⟨w.heap.size, 9, none⟩ = false := by simp [World.frozen?, vz9]
 obtain ⟨v10, ve10⟩ : ∃ v, v9.setCell ⟨w.heap.size, 9, none⟩ (.int .i64 x6) = v := ⟨_, rfl⟩
 have vz10 : v10.heap[w.heap.size]? = some (.cells #[.string x1, .string x2, .int .i64 a3, .int .i64 b3, .int .i64 d3, .int .i64 a4, .int .i64 b4, .int .i64 d4, .slice PA x5.length pc, .int .i64 x6, .int .i64 0] 74 (0, 0)) := by rw [← ve10]; simpa using heap_setCell_same v9 w.heap.size 9 _ _ (.int .i64 x6) vz9
 have vo10 : Only w.heap.size w8 v10 := by rw [← ve10]; exact vo9.set 9 _
 have vc10 : v10.cell? ⟨w.heap.size, 10, none⟩ = some (.int .i64 0) := by simp [World.cell?, vz10]
 have vf10 : v10.frozen? ⟨w.heap.size, 10, none⟩ = false := by simp [World.frozen?, vz10]
 obtain ⟨v11, ve11⟩ : ∃ v, v10.setCell ⟨w.heap.size, 10, none⟩ (.int .i64 x7) = v := ⟨_, rfl⟩
 have vz11 : v11.heap[w.heap.size]? = some (.cells #[.string x1, .string x2, .int .i64 a3, .int .i64 b3, .int .i64 d3, .int .i64 a4, .int .i64 b4, .int .i64 d4, .slice PA x5.length pc, .int .i64 x6, .int .i64 x7] 74 (0, 0)) := by rw [← ve11]; simpa using heap_setCell_same v10 w.heap.size 10 _ _ (.int .i64 x7) vz10
 have vo11 : Only w.heap.size w8 v11 := by rw [← ve11]; exact vo10.set 10 _
 have vr0 : v11.cell? ⟨w.heap.size, 0, none⟩ = some (.string x1) := by simp [World.cell?, vz11]
 have vr1 : v11.cell? ⟨w.heap.size, 1, none⟩ = some (.string x2) := by simp [World.cell?, vz11]
 have vr2 : v11.cell? ⟨w.heap.size, 2, none⟩ = some (.int .i64 a3) := by simp [World.cell?, vz11]
 have vr3 : v11.cell? ⟨w.heap.size, 3, none⟩ = some (.int .i64 b3) := by simp [World.cell?, vz11]
 have vr4 : v11.cell? ⟨w.heap.size, 4, none⟩ = some (.int .i64 d3) := by simp [World.cell?, vz11]
 have vr5 : v11.cell? ⟨w.heap.size, 5, none⟩ = some (.int .i64 a4) := by simp [World.cell?, vz11]
 have vr6 : v11.cell? ⟨w.heap.size, 6, none⟩ = some (.int .i64 b4) := by simp [World.cell?, vz11]
 have vr7 : v11.cell? ⟨w.heap.size, 7, none⟩ = some (.int .i64 d4) := by simp [World.cell?, vz11]
 have vr8 : v11.cell? ⟨w.heap.size, 8, none⟩ = some (.slice PA x5.length pc) := by simp [World.cell?, vz11]
 have vr9 : v11.cell? ⟨w.heap.size, 9, none⟩ = some (.int .i64 x6) := by simp [World.cell?, vz11]
 have vr10 : v11.cell? ⟨w.heap.size, 10, none⟩ = some (.int .i64 x7) := by simp [World.cell?, vz11]
 have OX := hid vo11
 clear vz1 vo1 vz2 vo2 vz3 vo3 vz4 vo4 vz5 vo5 vz6 vo6 vz7 vo7 vz8 vo8 vz9 vo9 vz10 vo10 vz11 vo11
 have HR := hid (OX.out.rd h8 (by omega))
 have HK := hid (OX.out.aside (K7.out.trans k8) (Nat.le_refl _))
 have HN9 := hid (OX.out.nums (nums_aside HN7.out HFP.out (by have := K5.out.size; omega) k8) (fun a ha => by have := HFP.out a ha; have := lt_of_block Z5.out; omega))
 clear h8 k8 z8
 go_wp2_with fail
 refine bodyPost_ret (v := .agg #[.string x1, .string x2, .int .i64 a3, .int .i64 b3, .int .i64 d3, .int .i64 a4, .int .i64 b4, .int .i64 d4, .slice PA x5.length pc, .int .i64 x6, .int .i64 x7]) ?hres rfl ?_
 case hres => simp [results, Tryz.results40, go_sem, vr0, vr1, vr2, vr3, vr4, vr5, vr6, vr7, vr8, vr9, vr10]
 exact ⟨PA, pc, rfl, HN9.out, HFR.out, hcap, HR.out, HK.out⟩
set_option maxHeartbeats 2000000 in
theorem ctrs_rd (g : Nat) (m : Int) (k : Nat) (hk : k < 18446744073709551616) (hk1 : k ≤ 1000) (hm : m ≤ 9223372036854775807) (hmk : mostN m = k) (c : Int) (l : List UInt8) (hl : Few l) (xs : List Ctr) (c' : Int) (l' : List UInt8) (hq : (listC k hk ctrC).rd c l = (xs, c', l')) (w : World) (h : Rd w g c l) :
 Calls Tryz.prog 39 #[.pointer (some ⟨g, 0, none⟩), .int .i64 m, .func (.func 40) #[] #[]] w fun e w' => ∃ A cap, e = .returned (.slice A xs.length cap) ∧ CtrsUp w.heap.size w' A xs ∧ xs.length ≤ cap ∧ Rd w' g c' l' ∧ Wire.Aside g w w' := by
 have H := hid h
 have HL := hid hl
 have hgl := h.lt
 obtain ⟨n, hn⟩ : ∃ n, numV k c l = n := ⟨_, rfl⟩
 obtain ⟨c1, hc1⟩ : ∃ d, numE k c l = d := ⟨_, rfl⟩
 obtain ⟨l1, hl1⟩ : ∃ d, numL k c l = d := ⟨_, rfl⟩
 have q0 : (intC k hk).rd c l = ((n : Int), c1, l1) := by rw [← hn, ← hc1, ← hl1]; rfl
 have hnk : n ≤ k := by rw [← hn]; exact numV_le k c l
 have hq' : ((if (repS ctrC.rd c1 l1 n).1 = 0 then repX ctrC.rd c1 l1 n else []), repS ctrC.rd c1 l1 n) = (xs, c', l') := by rw [← hn, ← hc1, ← hl1]; exact hq
 injection hq' with hq1 hq2
 have few1 : Few l1 := few q0 hl
 have HQ1 := hid hq1
 have HQ2 := hid hq2
 have Q0 := hid q0
 obtain ⟨i0, hi0, hz0, hz1, hz2⟩ := info_parts info_ctrU
 have HF1 := hid few1
 clear h hl hq hq1 hq2 q0 few1 hn hc1 hl1
 go_enter Tryz.func39, Tryz.ntmps39
 go_wp2_with fail
 refine (num_rd g m k hk hm hmk c l HL.out n c1 l1 Q0.out w H.out).mono ?_
 rintro e w1 ⟨rfl, h1, k1⟩
 have H1 := hid h1
 have K1 := hid k1
 clear h1 k1
 go_wp2_with fail
 go_loopw [7, 11] (fun v i wr => ∃ j : Nat, j ≤ n ∧ i = .int .i64 j ∧ Hid (∃ L : List Held, L.map (·.x) = repX ctrC.rd c1 l1 j ∧ wr.ownsRow w.heap.size 74 11 v j (flat L) ∧ Gat w.heap.size wr v L) ∧ Hid (Rd wr g (repS ctrC.rd c1 l1 j).1 (repS ctrC.rd c1 l1 j).2) ∧ Hid (Wire.Aside g w wr)) (fun _ i _ => n - (RowKit.intOf i).toNat)
 case atStart => exact ⟨0, Nat.zero_le _, rfl, ⟨[], rfl, World.ownsRow_nil _ _ _ _, fun t ht => (by cases ht)⟩, H1.out, K1.out⟩
 case round =>
  obtain ⟨j, hj, rfl, HG, HR, HK⟩ := hrel
  obtain ⟨L, hLx, hO, hGa⟩ := HG.out
  have hLl : L.length = j := by rw [← repX_len ctrC.rd c1 l1 j, ← hLx, List.length_map]
  have HLX := hid hLx
  have HO := hid hO
  have HGA := hid hGa
  clear hLx hO hGa HG
  have hjk : (j : Int) ≤ 1000 := by omega
  by_cases hlt : j < n
  · have hlt' : (j : Int) < (n : Int) := by omega
    have fewj : Few (repS ctrC.rd c1 l1 j).2 := Nat.le_trans (repS_len ctrC c1 l1 j) HF1.out
    obtain ⟨⟨x, c2, l2⟩, q⟩ : ∃ t, ctrC.rd (repS ctrC.rd c1 l1 j).1 (repS ctrC.rd c1 l1 j).2 = t := ⟨_, rfl⟩; have HSJ := hid (show repS ctrC.rd c1 l1 (j + 1) = (c2, l2) by show (ctrC.rd _ _).2 = _; rw [q])
    have HXJ := hid (show repX ctrC.rd c1 l1 (j + 1) = repX ctrC.rd c1 l1 j ++ [x] by
     show repX ctrC.rd c1 l1 j ++ [(ctrC.rd _ _).1] = _
     rw [q])
    have HFT := hid (ctr_fits q)
    obtain ⟨A, cap, rfl⟩ := own_form HO.out
    have HRUN := hid (ctr_rd g _ _ fewj x c2 l2 q wr HR.out); clear q fewj; go_wp2_with fail
    refine HRUN.out.mono ?_
    rintro e w2 ⟨P, pc, rfl, hnP, hfP, hcP, h2, k2⟩
    have hgr := HR.out.lt
    have o2 := Wire.owns_of HO.out (w' := w2) (fun r hr => k2.block r (by have := Wire.owns_lt HO.out hr; exact ⟨this.2, by omega⟩))
    have HSZ := hid (show w.heap.size ≤ w2.heap.size from Nat.le_trans HK.out.size k2.size)
    have HGB := hid (show Gat w.heap.size w2 (.slice A j cap) (L ++ [⟨x, P, pc⟩]) from fun t ht => by
     rcases List.mem_append.1 ht with ht | ht
     · exact (HGA.out.aside k2 (by omega)) t ht
     · rw [List.mem_singleton.1 ht]
       refine ⟨HFT.out, hnP, fun a ha => Nat.le_trans HK.out.size (hfP a ha), hcP, fun _ p hp hr => ?_⟩
       have h3 := (Wire.owns_lt HO.out hr).2
       have h4 := hfP p hp
       omega)
    have HOWN := hid (o2.alloc (.cells #[.string x.name, .string x.image, .int .i64 x.rc, .int .i64 x.rm, .int .i64 x.rp, .int .i64 x.lc, .int .i64 x.lm, .int .i64 x.lp, .slice P x.ports.length pc, .int .i64 x.ev, .int .i64 x.fl] 74))
    have HR2 := hid h2
    have HK2 := hid (HK.out.trans k2); have HFL := hid (show (flat L).length = j * 11 by rw [flat_length, hLl]); clear HRUN h2 k2 o2 hgr hnP hfP hcP
    go_wp2_with (at_builtin; refine wpList_append_own_at _ rfl _ _ 26 rfl w.heap.size 74 i0 _ 11 120 Tryz.underlying26 hi0 hz0 hz1 hz2 rfl (by decide) _ j (flat L) rfl HOWN.out ⟨w2.heap.size, 0, none⟩ 1 1 (Held.cells ⟨x, P, pc⟩) rfl rfl ?c1 ?c2 ?c3 ?c4 ?c5 ?_)
    case c1 => exact (World.ownsRow_lit (base := 0) (size := 11) (e := 74) w2 (Held.cells ⟨x, P, pc⟩).toArray 1 (Nat.zero_le _) (by decide) rfl).cells rfl
    case c2 =>
     intro u hu
     simp only [Held.cells, Ctr.cells, List.mem_cons, List.not_mem_nil, or_false] at hu
     rcases hu with rfl | rfl | rfl | rfl | rfl | rfl | rfl | rfl | rfl | rfl | rfl <;> rfl
    case c3 => unfold maxLen; omega
    case c4 => omega
    case c5 => have := HSZ.out; simp; omega
    intro v' w7 hown' hgrow _ hat
    have HO7 := hid (show w7.ownsRow w.heap.size 74 11 v' (j + 1) (flat (L ++ [⟨x, P, pc⟩])) by rw [flat_snoc]; exact hown')
    have hbw : Below w.heap.size w2 w7 := ((Below.refl w.heap.size w2).alloc HSZ.out _).grown hgrow (by have := HSZ.out; simp; omega) (fun b hb => (HOWN.out.lt b hb).1)
    have HG7 := hid (show Gat w.heap.size w7 v' (L ++ [⟨x, P, pc⟩]) from HGB.out.grown hgrow hat); have HR7 := hid (show Rd w7 g (repS ctrC.rd c1 l1 (j + 1)).1 (repS ctrC.rd c1 l1 (j + 1)).2 by rw [HSJ.out]; exact (hbw.block g hgl).trans HR2.out); have HK7 := hid (show Wire.Aside g w w7 from HK2.out.trans2 hbw); have HX7 := hid (show (L ++ [(⟨x, P, pc⟩ : Held)]).map (·.x) = repX ctrC.rd c1 l1 (j + 1) by rw [List.map_append, HLX.out, HXJ.out]; rfl); clear hown' hgrow hbw HOWN hat; go_wp2
    go_roundw
    case rel => exact ⟨j + 1, by omega, by go_num, ⟨_, HX7.out, HO7.out, HG7.out⟩, HR7.out, HK7.out⟩
    case measure => simp [RowKit.intOf]; omega
  · obtain rfl : j = n := by omega
    have hlt' : ¬ (j : Int) < (j : Int) := by omega
    obtain ⟨A, cap, rfl⟩ := own_form HO.out
    have hrr := HR.out
    obtain ⟨cz, hcz⟩ : ∃ d, (repS ctrC.rd c1 l1 j).1 = d := ⟨_, rfl⟩; have HRUN := hid (code_any g _ _ wr HR.out); have HR2 := hid (show Rd wr g c' l' by rw [HQ2.out] at hrr; exact hrr)
    have hcap : j ≤ cap := by
     rcases HO.out.2 with ⟨e1, e2⟩ | ⟨gg, cap', cur, e1, _, _, e4, _⟩
     · injection e1 with _ e5 e6; omega
     · injection e1 with _ e5 e6; omega
    clear hrr
    by_cases hz : cz = 0
    · have hz' : (cz != 0) = false := by simpa using hz
      have hxs : xs = repX ctrC.rd c1 l1 j := by rw [← HQ1.out, if_pos (by rw [hcz]; exact hz)]
      have hxl : xs.length = j := by rw [hxs, repX_len]
      have HUP := hid (show CtrsUp w.heap.size wr A xs by rw [hxs, ← HLX.out]; exact HGA.out.up HO.out)
      have HXL := hid hxl
      rw [hcz] at HRUN
      clear hz hxs hxl hcz; go_wp2_with fail
      refine HRUN.out.mono ?_
      rintro e w2 ⟨rfl, rfl⟩; go_wp2
      go_ret
      exact ⟨A, cap, (by rw [HXL.out]; rfl), HUP.out, (by rw [HXL.out]; exact hcap), HR2.out, HK.out⟩
    · have hz' : (cz != 0) = true := by simpa using hz
      have hxs : xs = [] := by rw [← HQ1.out, if_neg (by rw [hcz]; exact hz)]
      have HXS := hid hxs
      rw [hcz] at HRUN
      clear hz hxs hcz; go_wp2_with fail
      refine HRUN.out.mono ?_
      rintro e w2 ⟨rfl, rfl⟩; go_wp2
      go_ret
      rw [HXS.out]
      exact ⟨none, 0, rfl, (fun k x hk => (by simp at hk)), Nat.le_refl _, HR2.out, HK.out⟩
set_option maxRecDepth 20000 in
theorem takeLabels_rd (g : Nat) (c : Int) (l : List UInt8) (hl : Few l) (xs : List Lbl) (c' : Int) (l' : List UInt8) (hq : labelsC.rd c l = (xs, c', l')) (w : World) (h : Rd w g c l) :
 Calls Tryz.prog 38 #[.pointer (some ⟨g, 0, none⟩)] w fun e w' => ∃ A cap, e = .returned (.slice A xs.length cap) ∧ Lbls w' A xs ∧ From w.heap.size A ∧ xs.length ≤ cap ∧ Rd w' g c' l' ∧ Wire.Aside g w w' := by
 have HRUN := hid (labels_rd g 4 4 (by decide) (by decide) (by decide) (by decide) c l hl xs c' l' hq w h)
 clear h hl hq
 go_enter Tryz.func38, Tryz.ntmps38
 go_wp2_with fail
 refine HRUN.out.mono ?_
 rintro e w1 ⟨A, cap, rfl, h1, h2, h3, h4, h5⟩
 have HA := hid (And.intro h1 (And.intro h2 (And.intro h3 (And.intro h4 h5))))
 clear h1 h2 h3 h4 h5
 go_wp2
 go_ret
 exact ⟨A, cap, rfl, HA.out⟩
set_option maxHeartbeats 2000000 in
theorem raw_rd (g : Nat) (c : Int) (l : List UInt8) (hl : Few l) (S : Spc) (c' : Int) (l' : List UInt8) (hq : specC.rd c l = (S, c', l')) (w : World) (h : Rd w g c l) :
 Calls Tryz.prog 10 #[.pointer (some ⟨g, 0, none⟩)] w fun e w' => ∃ LA lc IA ic MA mc, e = .returned (.agg #[.string S.name, .slice LA S.labels.length lc, .slice IA S.init.length ic, .slice MA S.main.length mc, .int .i64 S.restart, .int .i64 S.grace, .int .i64 S.prio]) ∧ SpcUp w.heap.size S w' LA IA MA ∧ Rd w' g c' l' ∧ Wire.Aside g w w' := by
 have hgl := h.lt
 have hnum := spec_nums hq
 obtain ⟨⟨x1, c1, l1⟩, q1⟩ : ∃ t, (textC 16 (by decide)).rd c l = t := ⟨_, rfl⟩
 obtain ⟨⟨x2, c2, l2⟩, q2⟩ : ∃ t, labelsC.rd c1 l1 = t := ⟨_, rfl⟩
 obtain ⟨⟨x3, c3, l3⟩, q3⟩ : ∃ t, initC.rd c2 l2 = t := ⟨_, rfl⟩
 obtain ⟨⟨x4, c4, l4⟩, q4⟩ : ∃ t, mainC.rd c3 l3 = t := ⟨_, rfl⟩
 obtain ⟨⟨x5, c5, l5⟩, q5⟩ : ∃ t, (intC 3 (by decide)).rd c4 l4 = t := ⟨_, rfl⟩
 obtain ⟨⟨x6, c6, l6⟩, q6⟩ : ∃ t, (intC 1000 (by decide)).rd c5 l5 = t := ⟨_, rfl⟩
 obtain ⟨⟨x7, c7, l7⟩, q7⟩ : ∃ t, (intC 10 (by decide)).rd c6 l6 = t := ⟨_, rfl⟩
 have hr : specC.rd c l = (⟨x1, x2, x3, x4, x5, x6, x7⟩, c7, l7) := by
  simp only [specC, mapC, pairC, pairR, q1, q2, q3, q4, q5, q6, q7]
 rw [hr] at hq
 injection hq with hq1 hq2
 injection hq2 with hq2 hq3
 subst hq1 hq2 hq3
 have HNUM := hid hnum
 clear hr hnum
 have few0 : Few l := hl
 have few1 : Few l1 := few q1 few0
 have few2 : Few l2 := few q2 few1
 have few3 : Few l3 := few q3 few2
 have few4 : Few l4 := few q4 few3
 have few5 : Few l5 := few q5 few4
 have few6 : Few l6 := few q6 few5
 have few7 : Few l7 := few q7 few6
 have FW0 := hid few0
 have FW1 := hid few1
 have FW2 := hid few2
 have FW3 := hid few3
 have FW4 := hid few4
 have FW5 := hid few5
 have FW6 := hid few6
 have FW7 := hid few7
 have Q1 := hid q1
 have Q2 := hid q2
 have Q3 := hid q3
 have Q4 := hid q4
 have Q5 := hid q5
 have Q6 := hid q6
 have Q7 := hid q7
 clear hl few0 few1 few2 few3 few4 few5 few6 few7 q1 q2 q3 q4 q5 q6 q7
 obtain ⟨w1, hw1⟩ : ∃ v, w.alloc (.cells #[.string ⟨#[]⟩, .slice none 0 0, .slice none 0 0, .slice none 0 0, .int .i64 0, .int .i64 0, .int .i64 0] 28) = v := ⟨_, rfl⟩
 have hb1 : Below w.heap.size w w1 := by rw [← hw1]; exact (Below.refl _ _).alloc (Nat.le_refl _) _
 have z1 : w1.heap[w.heap.size]? = some (.cells #[.string ⟨#[]⟩, .slice none 0 0, .slice none 0 0, .slice none 0 0, .int .i64 0, .int .i64 0, .int .i64 0] 28 (0, 0)) := by rw [← hw1]; exact heap_alloc_new w _
 have H1 := hid (h.below hb1)
 have K1 := hid (Wire.Aside.of_below (g := g) hb1)
 have Z1 := hid z1
 clear h hb1 z1
 go_enter Tryz.func10, Tryz.ntmps10
 go_wp2_with fail
 refine (text_rd g 16 16 (by decide) (by decide) (by decide) c l FW0.out x1 c1 l1 Q1.out w1 H1.out).mono ?_
 rintro e w2 ⟨rfl, h2, k2⟩
 have H2 := hid h2
 have K2 := hid (K1.out.trans k2)
 have z2 := (k2.block w.heap.size ⟨lt_of_block Z1.out, by omega⟩).trans Z1.out
 have Z2 := hid z2
 clear h2 k2 z2
 go_wp2_with fail
 refine (takeLabels_rd g c1 l1 FW1.out x2 c2 l2 Q2.out w2 H2.out).mono ?_
 rintro e w3 ⟨LA, lc, rfl, hlb, hlf, hlc, h3, k3⟩
 have H3 := hid h3
 have K3 := hid (K2.out.trans k3)
 have z3 := (k3.block w.heap.size ⟨lt_of_block Z2.out, by omega⟩).trans Z2.out
 have Z3 := hid z3
 have HLB := hid hlb
 have HLF := hid (show From w2.heap.size LA from hlf)
 clear hlb hlf
 clear h3 k3 z3
 go_wp2_with fail
 refine (ctrs_rd g 3 3 (by decide) (by decide) (by decide) (by decide) c2 l2 FW2.out x3 c3 l3 Q3.out w3 H3.out).mono ?_
 rintro e w4 ⟨IA, ic, rfl, hiu, hic, h4, k4⟩
 have H4 := hid h4
 have K4 := hid (K3.out.trans k4)
 have z4 := (k4.block w.heap.size ⟨lt_of_block Z3.out, by omega⟩).trans Z3.out
 have Z4 := hid z4
 have HLB4 := hid (lbls_aside HLB.out HLF.out (by have := K2.out.size; omega) k4)
 have HIU := hid hiu
 clear hiu
 clear h4 k4 z4
 go_wp2_with fail
 refine (ctrs_rd g 4 4 (by decide) (by decide) (by decide) (by decide) c3 l3 FW3.out x4 c4 l4 Q4.out w4 H4.out).mono ?_
 rintro e w5 ⟨MA, mc, rfl, hmu, hmc, h5, k5⟩
 have H5 := hid h5
 have K5 := hid (K4.out.trans k5)
 have z5 := (k5.block w.heap.size ⟨lt_of_block Z4.out, by omega⟩).trans Z4.out
 have Z5 := hid z5
 have HLB5 := hid (lbls_aside HLB4.out HLF.out (by have := K2.out.size; omega) k5)
 have HIU5 := hid (HIU.out.aside (by have := K3.out.size; omega) k5)
 have HMU := hid hmu
 clear hmu
 clear h5 k5 z5
 go_wp2_with fail
 refine (num_rd g 3 3 (by decide) (by decide) (by decide) c4 l4 FW4.out x5 c5 l5 Q5.out w5 H5.out).mono ?_
 rintro e w6 ⟨rfl, h6, k6⟩
 have H6 := hid h6
 have K6 := hid (K5.out.trans k6)
 have z6 := (k6.block w.heap.size ⟨lt_of_block Z5.out, by omega⟩).trans Z5.out
 have Z6 := hid z6
 have HLB6 := hid (lbls_aside HLB5.out HLF.out (by have := K2.out.size; omega) k6)
 have HIU6 := hid (HIU5.out.aside (by have := K3.out.size; omega) k6)
 have HMU6 := hid (HMU.out.aside (by have := K4.out.size; omega) k6)
 clear h6 k6 z6
 go_wp2_with fail
 refine (num_rd g 1000 1000 (by decide) (by decide) (by decide) c5 l5 FW5.out x6 c6 l6 Q6.out w6 H6.out).mono ?_
 rintro e w7 ⟨rfl, h7, k7⟩
 have H7 := hid h7
 have K7 := hid (K6.out.trans k7)
 have z7 := (k7.block w.heap.size ⟨lt_of_block Z6.out, by omega⟩).trans Z6.out
 have Z7 := hid z7
 have HLB7 := hid (lbls_aside HLB6.out HLF.out (by have := K2.out.size; omega) k7)
 have HIU7 := hid (HIU6.out.aside (by have := K3.out.size; omega) k7)
 have HMU7 := hid (HMU6.out.aside (by have := K4.out.size; omega) k7)
 clear h7 k7 z7
 go_wp2_with fail
 refine (num_rd g 10 10 (by decide) (by decide) (by decide) c6 l6 FW6.out x7 c7 l7 Q7.out w7 H7.out).mono ?_
 rintro e w8 ⟨rfl, h8, k8⟩
 have z8 := (k8.block w.heap.size ⟨lt_of_block Z7.out, by omega⟩).trans Z7.out
 have vc0 : w8.cell? ⟨w.heap.size, 0, none⟩ = some (.string ⟨#[]⟩) := by simp [World.cell?, z8]
 have vf0 : w8.frozen? ⟨w.heap.size, 0, none⟩ = false := by simp [World.frozen?, z8]
 obtain ⟨v1, ve1⟩ : ∃ v, w8.setCell ⟨w.heap.size, 0, none⟩ (.string x1) = v := ⟨_, rfl⟩
 have vz1 : v1.heap[w.heap.size]? = some (.cells #[.string x1, .slice none 0 0, .slice none 0 0, .slice none 0 0, .int .i64 0, .int .i64 0, .int .i64 0] 28 (0, 0)) := by rw [← ve1]; simpa using heap_setCell_same w8 w.heap.size 0 _ _ (.string x1) z8
 have vo1 : Only w.heap.size w8 v1 := by rw [← ve1]; exact (Only.refl w.heap.size w8).set 0 _
 have vc1 : v1.cell? ⟨w.heap.size, 1, none⟩ = some (.slice none 0 0) := by simp [World.cell?, vz1]
 have vf1 : v1.frozen? ⟨w.heap.size, 1, none⟩ = false := by simp [World.frozen?, vz1]
 obtain ⟨v2, ve2⟩ : ∃ v, v1.setCell ⟨w.heap.size, 1, none⟩ (.slice LA x2.length lc) = v := ⟨_, rfl⟩
 have vz2 : v2.heap[w.heap.size]? = some (.cells #[.string x1, .slice LA x2.length lc, .slice none 0 0, .slice none 0 0, .int .i64 0, .int .i64 0, .int .i64 0] 28 (0, 0)) := by rw [← ve2]; simpa using heap_setCell_same v1 w.heap.size 1 _ _ (.slice LA x2.length lc) vz1
 have vo2 : Only w.heap.size w8 v2 := by rw [← ve2]; exact vo1.set 1 _
 have vc2 : v2.cell? ⟨w.heap.size, 2, none⟩ = some (.slice none 0 0) := by simp [World.cell?, vz2]
 have vf2 : v2.frozen? ⟨w.heap.size, 2, none⟩ = false := by simp [World.frozen?, vz2]
 obtain ⟨v3, ve3⟩ : ∃ v, v2.setCell ⟨w.heap.size, 2, none⟩ (.slice IA x3.length ic) = v := ⟨_, rfl⟩
 have vz3 : v3.heap[w.heap.size]? = some (.cells #[.string x1, .slice LA x2.length lc, .slice IA x3.length ic, .slice none 0 0, .int .i64 0, .int .i64 0, .int .i64 0] 28 (0, 0)) := by rw [← ve3]; simpa using heap_setCell_same v2 w.heap.size 2 _ _ (.slice IA x3.length ic) vz2
 have vo3 : Only w.heap.size w8 v3 := by rw [← ve3]; exact vo2.set 2 _
 have vc3 : v3.cell? ⟨w.heap.size, 3, none⟩ = some (.slice none 0 0) := by simp [World.cell?, vz3]
 have vf3 : v3.frozen? ⟨w.heap.size, 3, none⟩ = false := by simp [World.frozen?, vz3]
 obtain ⟨v4, ve4⟩ : ∃ v, v3.setCell ⟨w.heap.size, 3, none⟩ (.slice MA x4.length mc) = v := ⟨_, rfl⟩
 have vz4 : v4.heap[w.heap.size]? = some (.cells #[.string x1, .slice LA x2.length lc, .slice IA x3.length ic, .slice MA x4.length mc, .int .i64 0, .int .i64 0, .int .i64 0] 28 (0, 0)) := by rw [← ve4]; simpa using heap_setCell_same v3 w.heap.size 3 _ _ (.slice MA x4.length mc) vz3
 have vo4 : Only w.heap.size w8 v4 := by rw [← ve4]; exact vo3.set 3 _
 have vc4 : v4.cell? ⟨w.heap.size, 4, none⟩ = some (.int .i64 0) := by simp [World.cell?, vz4]
 have vf4 : v4.frozen? ⟨w.heap.size, 4, none⟩ = false := by simp [World.frozen?, vz4]
 obtain ⟨v5, ve5⟩ : ∃ v, v4.setCell ⟨w.heap.size, 4, none⟩ (.int .i64 x5) = v := ⟨_, rfl⟩
 have vz5 : v5.heap[w.heap.size]? = some (.cells #[.string x1, .slice LA x2.length lc, .slice IA x3.length ic, .slice MA x4.length mc, .int .i64 x5, .int .i64 0, .int .i64 0] 28 (0, 0)) := by rw [← ve5]; simpa using heap_setCell_same v4 w.heap.size 4 _ _ (.int .i64 x5) vz4
 have vo5 : Only w.heap.size w8 v5 := by rw [← ve5]; exact vo4.set 4 _
 have vc5 : v5.cell? ⟨w.heap.size, 5, none⟩ = some (.int .i64 0) := by simp [World.cell?, vz5]
 have vf5 : v5.frozen? ⟨w.heap.size, 5, none⟩ = false := by simp [World.frozen?, vz5]
 obtain ⟨v6, ve6⟩ : ∃ v, v5.setCell ⟨w.heap.size, 5, none⟩ (.int .i64 x6) = v := ⟨_, rfl⟩
 have vz6 : v6.heap[w.heap.size]? = some (.cells #[.string x1, .slice LA x2.length lc, .slice IA x3.length ic, .slice MA x4.length mc, .int .i64 x5, .int .i64 x6, .int .i64 0] 28 (0, 0)) := by rw [← ve6]; simpa using heap_setCell_same v5 w.heap.size 5 _ _ (.int .i64 x6) vz5
 have vo6 : Only w.heap.size w8 v6 := by rw [← ve6]; exact vo5.set 5 _
 have vc6 : v6.cell? ⟨w.heap.size, 6, none⟩ = some (.int .i64 0) := by simp [World.cell?, vz6]
 have vf6 : v6.frozen? ⟨w.heap.size, 6, none⟩ = false := by simp [World.frozen?, vz6]
 obtain ⟨v7, ve7⟩ : ∃ v, v6.setCell ⟨w.heap.size, 6, none⟩ (.int .i64 x7) = v := ⟨_, rfl⟩
 have vz7 : v7.heap[w.heap.size]? = some (.cells #[.string x1, .slice LA x2.length lc, .slice IA x3.length ic, .slice MA x4.length mc, .int .i64 x5, .int .i64 x6, .int .i64 x7] 28 (0, 0)) := by rw [← ve7]; simpa using heap_setCell_same v6 w.heap.size 6 _ _ (.int .i64 x7) vz6
 have vo7 : Only w.heap.size w8 v7 := by rw [← ve7]; exact vo6.set 6 _
 have vr0 : v7.cell? ⟨w.heap.size, 0, none⟩ = some (.string x1) := by simp [World.cell?, vz7]
 have vr1 : v7.cell? ⟨w.heap.size, 1, none⟩ = some (.slice LA x2.length lc) := by simp [World.cell?, vz7]
 have vr2 : v7.cell? ⟨w.heap.size, 2, none⟩ = some (.slice IA x3.length ic) := by simp [World.cell?, vz7]
 have vr3 : v7.cell? ⟨w.heap.size, 3, none⟩ = some (.slice MA x4.length mc) := by simp [World.cell?, vz7]
 have vr4 : v7.cell? ⟨w.heap.size, 4, none⟩ = some (.int .i64 x5) := by simp [World.cell?, vz7]
 have vr5 : v7.cell? ⟨w.heap.size, 5, none⟩ = some (.int .i64 x6) := by simp [World.cell?, vz7]
 have vr6 : v7.cell? ⟨w.heap.size, 6, none⟩ = some (.int .i64 x7) := by simp [World.cell?, vz7]
 have OX := hid vo7
 clear vz1 vo1 vz2 vo2 vz3 vo3 vz4 vo4 vz5 vo5 vz6 vo6 vz7 vo7
 have HR := hid (OX.out.rd h8 (by omega))
 have HK := hid (OX.out.aside (K7.out.trans k8) (Nat.le_refl _))
 have e1 : w.heap.size + 1 ≤ w2.heap.size := lt_of_block Z2.out
 have e2 := K3.out.size
 have e3 := lt_of_block Z3.out
 have e4 := lt_of_block Z4.out
 have HUP := hid (show SpcUp w.heap.size ⟨x1, x2, x3, x4, x5, x6, x7⟩ v7 LA IA MA from
  ⟨OX.out.lbls (lbls_aside HLB7.out HLF.out (by have := K2.out.size; omega) k8) (fun a ha => by have := HLF.out a ha; omega), fun a ha => by have := HLF.out a ha; omega,
   (OX.out.up (HIU7.out.aside (by have := K3.out.size; omega) k8) (by omega)).less (by omega), (OX.out.up (HMU7.out.aside (by have := K4.out.size; omega) k8) (by omega)).less (by omega), HNUM.out⟩)
 clear h8 k8 z8 e1 e2 e3 e4
 go_wp2_with fail
 refine bodyPost_ret (v := .agg #[.string x1, .slice LA x2.length lc, .slice IA x3.length ic, .slice MA x4.length mc, .int .i64 x5, .int .i64 x6, .int .i64 x7]) ?hres rfl ?_
 case hres => simp [results, Tryz.results10, go_sem, vr0, vr1, vr2, vr3, vr4, vr5, vr6]
 exact ⟨LA, lc, IA, ic, MA, mc, rfl, HUP.out, HR.out, HK.out⟩
end Pk
end Go.Proofs.YtljbpelogjmciaaGreatDoor
namespace Go.Proofs.YtljbpelogjmciaaGreatDoor
open Go.ChangeShapes Go.WideShapes Go.ChangeAt Go.RowKit Go.Lib
open LebMath WirePure Sd Wire SpecOwn SpecRef
namespace Pk
theorem spec_light {S : Spc} (h : specC.ok S) : Book.Light S := by
 obtain ⟨⟨h0, ⟨h1, g1⟩, ⟨h2, g2⟩, ⟨h3, g3⟩, _⟩, _⟩ := h
 have e0 : S.name.size ≤ 16 := h0
 have e1 : S.labels.length ≤ 4 := h1
 have e2 : S.init.length ≤ 3 := h2
 have e3 : S.main.length ≤ 4 := h3
 have lc : ∀ x : Ctr, ctrC.ok x → Book.lightC x := fun x hx => by
  obtain ⟨⟨o1, o2, _, _, ⟨o5, _⟩, _⟩, _⟩ := hx
  have n1 : x.name.size ≤ 16 := o1
  have n2 : x.image.size ≤ 33 := o2
  have n5 : x.ports.length ≤ 3 := o5
  exact ⟨by omega, by omega, by omega⟩
 refine ⟨⟨by omega, by omega, by omega, by omega⟩, fun x hx => ?_, fun x hx => lc x (g2 x hx), fun x hx => lc x (g3 x hx)⟩
 obtain ⟨⟨o1, o2⟩, _⟩ := g1 x hx
 have n1 : x.key.size ≤ 33 := o1
 have n2 : x.val.size ≤ 16 := o2
 exact ⟨by omega, by omega⟩
theorem Only.below {b B : Nat} {a w v : World} (h : Only b w v) (hb : Below B a w) (hB : B ≤ b) : Below B a v :=
 hb.trans ⟨h.os, h.tape, h.output, h.size, fun i hi => h.block i (by omega)⟩
theorem SpcUp.less {B B' : Nat} {S : Spc} {w : World} {LA IA MA : Option Addr} (h : SpcUp B S w LA IA MA) (hB : B' ≤ B) : SpcUp B' S w LA IA MA :=
 ⟨h.labels, fun a ha => Nat.le_trans hB (h.lfrom a ha), h.init.less hB, h.main.less hB, h.nums⟩
def KR (g : Nat) (_ : World) (b : Nat) : Prop := b ≠ g
end Pk
end Go.Proofs.YtljbpelogjmciaaGreatDoor
namespace Go.Proofs.YtljbpelogjmciaaGreatDoor
open Go.ChangeShapes Go.WideShapes Go.ChangeAt Go.RowKit Go.Lib
open LebMath WirePure Sd Wire
namespace Pk
theorem txB_le {s : ByteArray} {n : Nat} (h : s.size ≤ n) (hn : n ≤ 1000000 := by omega) : (txB s).length ≤ 10 + n := by
 unfold txB
 have h1 := leb_le_ten (n := s.size) (by omega)
 have h2 : s.data.toList.length = s.size := Array.length_toList
 rw [List.length_append]
 omega
theorem int_put_len {m : Nat} {hm : m < 18446744073709551616} {z : Int} (h : (intC m hm).ok z) : ((intC m hm).put z).length ≤ 10 := by
 have := int_rng h
 show (leb z.toNat).length ≤ 10
 exact leb_le_ten (by omega)
theorem num_wr (g : Nat) (D : Nat → Prop) (c : Int) (xs : List UInt8) (z : Int) (m : Nat) (hm : m < 18446744073709551616) (hok : (intC m hm).ok z) (hz : xs.length + 10 ≤ 140737488355328) (w : World) (h : Wr w g D c xs) (hm' : m ≤ 9223372036854775807 := by decide) :
 Calls Tryz.prog 61 #[.pointer (some ⟨g, 0, none⟩), .int .i64 z] w fun e w' => e = .returned (.tuple #[]) ∧ Wr w' g D c (addB c xs ((intC m hm).put z)) ∧ Kept D w w' := by
 have hr := int_rng hok
 obtain ⟨n, rfl⟩ := Int.eq_ofNat_of_zero_le hr.1
 have hn : n ≤ m := by omega
 exact num_nat g D c xs n (by unfold maxLen; omega) (fun _ => hz) w h
end Pk
end Go.Proofs.YtljbpelogjmciaaGreatDoor
namespace Go.Proofs.YtljbpelogjmciaaGreatDoor
open Go.ChangeShapes Go.WideShapes Go.ChangeAt Go.RowKit Go.Lib
open LebMath WirePure Sd Wire SpecOwn SpecRef
namespace Pk
end Pk
end Go.Proofs.YtljbpelogjmciaaGreatDoor
namespace Go.Proofs.YtljbpelogjmciaaGreatDoor
open Go.ChangeShapes Go.WideShapes Go.ChangeAt Go.RowKit Go.Lib
open LebMath WirePure Sd Wire SpecOwn SpecRef Book
namespace Pk
def Z0 : Spc := ⟨⟨#[]⟩, [], [], [], 0, 0, 0⟩
end Pk
end Go.Proofs.YtljbpelogjmciaaGreatDoor
