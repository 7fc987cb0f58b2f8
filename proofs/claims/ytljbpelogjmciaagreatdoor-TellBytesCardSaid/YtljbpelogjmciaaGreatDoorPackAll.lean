/-
 What chapter 7 says of reading and writing, as plain functions: a code for each kind of value (how it is read of an error and the bytes left, how it is written), put together of smaller ones; there and back, just the bytes, none begins another. No condition. And what follows of it, part by part, each with its conditions.
-/
import Derived.Test.YtljbpelogjmciaaGreatDoorLebAll
import Derived.Test.YtljbpelogjmciaaGreatDoorSpecDataAll
import Derived.Test.YtljbpelogjmciaaGreatDoorSpecEachAll
import Derived.Test.YtljbpelogjmciaaGreatDoorTextMore
import Derived.Test.YtljbpelogjmciaaGreatDoorSpecSameG
import Derived.Test.YtljbpelogjmciaaGreatDoorAppendAny
import Derived.Test.YtljbpelogjmciaaGreatDoorSpecCheck
import Derived.Test.YtljbpelogjmciaaGreatDoorWireAll
import Derived.Test.YtljbpelogjmciaaGreatDoorSpecFlat
import Derived.Test.YtljbpelogjmciaaGreatDoorSpecStepAll
import Derived.Test.YtljbpelogjmciaaGreatDoorSpecMine
import Derived.StillTailTactics
import Derived.Lib.SliceRun
import Derived.Maps.AppendAt
set_option linter.unusedVariables false
set_option linter.unusedSimpArgs false
namespace Go.Proofs.YtljbpelogjmciaaGreatDoor.Pk
open WirePure LebMath Sd
abbrev Rdr (α : Type) := Int → List UInt8 → α × Int × List UInt8
structure Codec (α : Type) where
 rd : Rdr α
 put : α → List UInt8
 ok : α → Prop
 keeps : ∀ c l, c ≠ 0 → (rd c l).2 = (c, l)
 len : ∀ c l, (rd c l).2.2.length ≤ l.length
 canon : ∀ l, (rd 0 l).2.1 = 0 → ok (rd 0 l).1 ∧ l = put (rd 0 l).1 ++ (rd 0 l).2.2
 back : ∀ x r, ok x → rd 0 (put x ++ r) = (x, 0, r)
 cut : ∀ x p q, ok x → q ≠ [] → put x = p ++ q → (rd 0 p).2.1 = 40
 okay : ∀ c l, ok (rd c l).1
theorem three {α : Type} {t : α × Int × List UInt8} {a : α} {b : Int} {c : List UInt8} (h1 : t.1 = a) (h2 : t.2.1 = b) (h3 : t.2.2 = c) : t = (a, b, c) := by
 obtain ⟨x, y, z⟩ := t
 simp only at h1 h2 h3
 subst h1 h2 h3
 rfl
def numR (m : Nat) : Rdr Nat := fun c l => (numV m c l, numE m c l, numL m c l)
theorem leb_front (n : Nat) : ∀ p q : List UInt8, q ≠ [] → leb n = p ++ q → (∀ b ∈ p, 128 ≤ b.toNat) ∧ p.length < (leb n).length := by
 induction n using Nat.strongRecOn with
 | _ n ih =>
  intro p q hq h
  refine ⟨?_, by rw [h, List.length_append]; have := List.length_pos_iff.2 hq; omega⟩
  by_cases hn : n < 128
  · rw [leb_small hn] at h
    cases p with
    | nil => intro b hb; cases hb
    | cons b p =>
     simp only [List.cons_append, List.cons.injEq] at h
     have := h.2.symm
     rw [List.append_eq_nil_iff] at this
     exact absurd this.2 hq
  · rw [leb_big (by omega)] at h
    cases p with
    | nil => intro b hb; cases hb
    | cons b p =>
     simp only [List.cons_append, List.cons.injEq] at h
     intro x hx
     rcases List.mem_cons.1 hx with rfl | hx
     · rw [← h.1, toNat_ofNat (by omega)]; omega
     · exact (ih (n / 128) (by omega) p q hq h.2).1 x hx
theorem lead_all : ∀ p : List UInt8, (∀ b ∈ p, 128 ≤ b.toNat) → lead p = p.length
 | [], _ => rfl
 | b :: p, h => by rw [lead, if_pos (h b (by simp)), lead_all p (fun x hx => h x (by simp [hx]))]; simp
theorem isLeb_all : ∀ p : List UInt8, (∀ b ∈ p, 128 ≤ b.toNat) → isLeb p = false
 | [], _ => rfl
 | [b], h => by have := h b (by simp); simp [isLeb]; omega
 | b :: c :: p, h => by
  rw [isLeb, isLeb_all (c :: p) (fun x hx => h x (by simp [hx]))]; simp
theorem num_cut {n m : Nat} (hn : n < 18446744073709551616) {p q : List UInt8} (hq : q ≠ []) (h : leb n = p ++ q) : numE m 0 p = 40 := by
 obtain ⟨h1, h2⟩ := leb_front n p q hq h
 have h3 := leb_le_ten hn
 have ht : takeV p = (0, 0) := by
  unfold takeV
  rw [lead_all p h1, List.take_of_length_le (by omega), isLeb_all p h1]; simp
 have hw : why p = 40 := by
  unfold why
  rw [if_neg (by omega), if_neg]
  intro hany
  rw [List.any_eq_true] at hany
  obtain ⟨b, hb, hlt⟩ := hany
  have := h1 b hb
  simp at hlt
  omega
 unfold numE
 rw [ht, if_pos rfl, hw]; rfl
def numC (m : Nat) (hm : m < 18446744073709551616) : Codec Nat where
 rd := numR m
 put := leb
 ok := fun n => n ≤ m
 keeps := fun c l h => by simp [numR, numE_err h, numL_err h]
 len := fun c l => numL_len m c l
 canon := fun l h => ⟨numV_le m 0 l, num_canon h⟩
 back := fun n r h => three (numV_put (by omega) h r) (numE_put (by omega) h r) (numL_put (by omega) h r)
 cut := fun n p q h hq e => num_cut (by omega) hq e
 okay := fun c l => numV_le m c l
def textR (m : Nat) : Rdr ByteArray := fun c l => (⟨(textS m c l).toArray⟩, textE m c l, textL m c l)
def txP (s : ByteArray) : List UInt8 := leb s.size ++ s.data.toList
theorem textS_len (m : Nat) (c : Int) (l : List UInt8) : (textS m c l).length ≤ m := by
 unfold textS takeS
 split
 · rw [List.length_take]
   exact Nat.le_trans (Nat.min_le_left _ _) (numV_le m c l)
 · simp
theorem textR_size (m : Nat) (c : Int) (l : List UInt8) : (textR m c l).1.size ≤ m := by
 have := textS_len m c l
 show (textS m c l).toArray.size ≤ m
 simpa using this
theorem text_cut {m : Nat} {s : List UInt8} (hn : s.length < 18446744073709551616) (hs : s.length ≤ m) {p q : List UInt8} (hq : q ≠ []) (h : leb s.length ++ s = p ++ q) : textE m 0 p = 40 := by
 unfold textE
 rcases List.append_eq_append_iff.1 h with ⟨a, h1, h2⟩ | ⟨a, h1, h2⟩
 · -- the length is whole
   rw [h1, numE_put hn hs, numV_put hn hs, numL_put hn hs]
   unfold takeE
   rw [if_pos]
   · rfl
   · rw [h2, List.length_append]
     have := List.length_pos_iff.2 hq
     omega
 · by_cases ha : a = []
   · subst ha
     have hp : p = leb s.length := by simpa using h1.symm
     rw [hp]
     have e : leb s.length = leb s.length ++ ([] : List UInt8) := by simp
     rw [e, numE_put hn hs, numV_put hn hs, numL_put hn hs]
     unfold takeE
     rw [if_pos]
     · rfl
     · simp at h2
       rw [h2] at hq
       exact List.length_pos_iff.2 hq
   · rw [num_cut hn ha h1]
     exact takeE_err (by decide) _ _
def textC (m : Nat) (hm : m < 18446744073709551616) : Codec ByteArray where
 rd := textR m
 put := txP
 ok := fun s => s.size ≤ m
 keeps := fun c l h => by simp [textR, textE_err h, textL_err h]
 len := fun c l => textL_len m c l
 canon := fun l h => ⟨textR_size m 0 l, by
  have := text_canon h
  have e : txP (textR m 0 l).1 = leb (textS m 0 l).length ++ textS m 0 l := by
   show leb (textS m 0 l).toArray.size ++ (textS m 0 l).toArray.toList = _
   simp
  rw [e, List.append_assoc]
  exact this⟩
 back := fun s r h => by
  have e : s.data.toList.length = s.size := Array.length_toList
  have hp := text_put (a := s.data.toList) (m := m) (by omega) (by omega) r
  rw [e] at hp
  unfold txP
  rw [List.append_assoc]
  exact three (by show (⟨(textS m 0 _).toArray⟩ : ByteArray) = s; rw [hp.2.1]) hp.1 hp.2.2
 cut := fun s p q h hq e => by
  have e1 : s.data.toList.length = s.size := Array.length_toList
  unfold txP at e
  rw [← e1] at e
  exact text_cut (by omega) (by omega) hq e
 okay := fun c l => textR_size m c l
def pairR {α β : Type} (f : Rdr α) (g : Rdr β) : Rdr (α × β) := fun c l => (((f c l).1, (g (f c l).2.1 (f c l).2.2).1), (g (f c l).2.1 (f c l).2.2).2)
theorem pair_zero {α β : Type} {f : Rdr α} {g : Rdr β} (hg : ∀ c l, c ≠ 0 → (g c l).2 = (c, l)) {c : Int} {l : List UInt8} (h : ((pairR f g) c l).2.1 = 0) : (f c l).2.1 = 0 := by
 by_cases h0 : (f c l).2.1 = 0
 · exact h0
 · have := hg (f c l).2.1 (f c l).2.2 h0
   unfold pairR at h
   rw [this] at h
   exact absurd h h0
def pairC {α β : Type} (A : Codec α) (B : Codec β) : Codec (α × β) where
 rd := pairR A.rd B.rd
 put := fun x => A.put x.1 ++ B.put x.2
 ok := fun x => A.ok x.1 ∧ B.ok x.2
 keeps := fun c l h => by
  have h1 := A.keeps c l h
  show (B.rd (A.rd c l).2.1 (A.rd c l).2.2).2 = _
  rw [h1]
  exact B.keeps c l h
 len := fun c l => Nat.le_trans (B.len _ _) (A.len c l)
 canon := fun l h => by
  have h0 := pair_zero B.keeps h
  have h1 := A.canon l h0
  have h2 : (B.rd (A.rd 0 l).2.1 (A.rd 0 l).2.2).2.1 = 0 := h
  rw [h0] at h2
  have h3 := B.canon _ h2
  refine ⟨⟨h1.1, ?_⟩, ?_⟩
  · show B.ok (B.rd (A.rd 0 l).2.1 (A.rd 0 l).2.2).1
    rw [h0]; exact h3.1
  · show l = (A.put (A.rd 0 l).1 ++ B.put (B.rd (A.rd 0 l).2.1 (A.rd 0 l).2.2).1) ++ (B.rd (A.rd 0 l).2.1 (A.rd 0 l).2.2).2.2
    rw [h0, List.append_assoc, ← h3.2]; exact h1.2
 back := fun x r h => by
  have h1 := A.back x.1 (B.put x.2 ++ r) h.1
  have h2 := B.back x.2 r h.2
  show pairR A.rd B.rd 0 (A.put x.1 ++ B.put x.2 ++ r) = _
  rw [List.append_assoc]
  unfold pairR
  rw [h1]
  show ((x.1, (B.rd 0 (B.put x.2 ++ r)).1), (B.rd 0 (B.put x.2 ++ r)).2) = _
  rw [h2]
 cut := fun x p q h hq e => by
  rcases List.append_eq_append_iff.1 e with ⟨a, h1, h2⟩ | ⟨a, h1, h2⟩
  · have e1 := A.back x.1 a h.1
    show (B.rd (A.rd 0 p).2.1 (A.rd 0 p).2.2).2.1 = 40
    rw [h1, e1]
    exact B.cut x.2 a q h.2 hq h2
  · show (B.rd (A.rd 0 p).2.1 (A.rd 0 p).2.2).2.1 = 40
    by_cases ha : a = []
    · subst ha
      have hp : p = A.put x.1 := by simpa using h1.symm
      have e1 := A.back x.1 [] h.1
      rw [List.append_nil] at e1
      rw [hp, e1]
      exact B.cut x.2 [] (B.put x.2) h.2 (by simp at h2; rw [← h2]; exact hq) (by simp)
    · have h3 := A.cut x.1 p a h.1 ha h1
      have h4 := B.keeps (A.rd 0 p).2.1 (A.rd 0 p).2.2 (by rw [h3]; decide)
      rw [h4]
      exact h3
 okay := fun c l => ⟨A.okay c l, B.okay _ _⟩
def mapC {α β : Type} (A : Codec α) (f : α → β) (g : β → α) (hf : ∀ x, g (f x) = x) : Codec β where
 rd := fun c l => (f (A.rd c l).1, (A.rd c l).2)
 put := fun y => A.put (g y)
 ok := fun y => A.ok (g y) ∧ f (g y) = y
 keeps := fun c l h => A.keeps c l h
 len := fun c l => A.len c l
 canon := fun l h => by
  have := A.canon l h
  simp only [hf]
  exact ⟨⟨this.1, trivial⟩, this.2⟩
 back := fun y r h => by
  have := A.back (g y) r h.1
  simp only [this, h.2]
 cut := fun y p q h hq e => A.cut (g y) p q h.1 hq e
 okay := fun c l => by
  show A.ok (g (f (A.rd c l).1)) ∧ f (g (f (A.rd c l).1)) = f (A.rd c l).1
  rw [hf]
  exact ⟨A.okay c l, rfl⟩
def intC (m : Nat) (hm : m < 18446744073709551616) : Codec Int := mapC (numC m hm) (fun n => (n : Int)) Int.toNat (fun n => by simp)
def repS {α : Type} (f : Rdr α) (c : Int) (l : List UInt8) : Nat → Int × List UInt8
 | 0 => (c, l)
 | k + 1 => (f (repS f c l k).1 (repS f c l k).2).2
def repX {α : Type} (f : Rdr α) (c : Int) (l : List UInt8) : Nat → List α
 | 0 => []
 | k + 1 => repX f c l k ++ [(f (repS f c l k).1 (repS f c l k).2).1]
theorem repX_len {α : Type} (f : Rdr α) (c : Int) (l : List UInt8) : ∀ k, (repX f c l k).length = k
 | 0 => rfl
 | k + 1 => by rw [repX, List.length_append, repX_len f c l k]; rfl
section
variable {α : Type} (C : Codec α)
theorem repS_err {c : Int} (h : c ≠ 0) (l : List UInt8) : ∀ k, repS C.rd c l k = (c, l)
 | 0 => rfl
 | k + 1 => by rw [repS, repS_err h l k]; exact C.keeps c l h
theorem repS_len (c : Int) (l : List UInt8) : ∀ k, (repS C.rd c l k).2.length ≤ l.length
 | 0 => Nat.le_refl _
 | k + 1 => Nat.le_trans (C.len _ _) (repS_len c l k)
theorem repS_stay {c : Int} {l : List UInt8} {k : Nat} (h : (repS C.rd c l k).1 ≠ 0) : ∀ j, repS C.rd c l (k + j) = repS C.rd c l k
 | 0 => rfl
 | j + 1 => by rw [← Nat.add_assoc, repS, repS_stay h j]; exact C.keeps _ _ h
theorem repS_less {c : Int} {l : List UInt8} {k : Nat} (h : (repS C.rd c l (k + 1)).1 = 0) : (repS C.rd c l k).1 = 0 := by
 by_cases h0 : (repS C.rd c l k).1 = 0
 · exact h0
 · rw [repS_stay C h0 1] at h; exact absurd h h0
theorem repX_ok (c : Int) (l : List UInt8) : ∀ n, ∀ x ∈ repX C.rd c l n, C.ok x
 | 0, x, hx => by cases hx
 | n + 1, x, hx => by
  rw [repX] at hx
  rcases List.mem_append.1 hx with hx | hx
  · exact repX_ok c l n x hx
  · rw [List.mem_singleton.1 hx]; exact C.okay _ _
theorem rep_canon {l : List UInt8} : ∀ k, (repS C.rd 0 l k).1 = 0 → (∀ x ∈ repX C.rd 0 l k, C.ok x) ∧ l = (repX C.rd 0 l k).flatMap C.put ++ (repS C.rd 0 l k).2
 | 0, _ => ⟨fun x hx => (by cases hx), rfl⟩
 | k + 1, h => by
  have h0 := repS_less C h
  obtain ⟨i1, i2⟩ := rep_canon k h0
  have h2 : (C.rd (repS C.rd 0 l k).1 (repS C.rd 0 l k).2).2.1 = 0 := h
  rw [h0] at h2
  obtain ⟨j1, j2⟩ := C.canon _ h2
  rw [repX, repS, h0]
  refine ⟨fun x hx => ?_, ?_⟩
  · rcases List.mem_append.1 hx with hx | hx
    · exact i1 x hx
    · rw [List.mem_singleton.1 hx]; exact j1
  · rw [List.flatMap_append, List.append_assoc]
    show l = _ ++ (([(C.rd 0 (repS C.rd 0 l k).2).1].flatMap C.put) ++ _)
    rw [show [(C.rd 0 (repS C.rd 0 l k).2).1].flatMap C.put = C.put (C.rd 0 (repS C.rd 0 l k).2).1 by simp, ← j2]
    exact i2
theorem rep_back (r : List UInt8) (xs : List α) (hx : ∀ x ∈ xs, C.ok x) : ∀ k, k ≤ xs.length → repS C.rd 0 (xs.flatMap C.put ++ r) k = (0, (xs.drop k).flatMap C.put ++ r) ∧ repX C.rd 0 (xs.flatMap C.put ++ r) k = xs.take k
 | 0, _ => ⟨rfl, rfl⟩
 | k + 1, hk => by
  obtain ⟨i1, i2⟩ := rep_back r xs hx k (by omega)
  have hd : xs.drop k = xs[k] :: xs.drop (k + 1) := List.drop_eq_getElem_cons (by omega)
  have hb := C.back xs[k] ((xs.drop (k + 1)).flatMap C.put ++ r) (hx _ (List.getElem_mem _))
  rw [hd, List.flatMap_cons, List.append_assoc] at i1
  rw [repS, repX, i1, i2]
  show (C.rd 0 (C.put xs[k] ++ _)).2 = _ ∧ _ ++ [(C.rd 0 (C.put xs[k] ++ _)).1] = _
  rw [hb]
  exact ⟨rfl, by rw [List.take_succ_eq_append_getElem (by omega)]⟩
theorem rep_cut : ∀ (xs : List α) (p q : List UInt8), (∀ x ∈ xs, C.ok x) → q ≠ [] → xs.flatMap C.put = p ++ q → ∀ k, k = xs.length → (repS C.rd 0 p k).1 = 40
 | [], p, q, _, hq, e, _, _ => by
  have h := (List.append_eq_nil_iff.1 (e.symm.trans rfl)).2
  exact absurd h hq
 | x :: xs, p, q, hx, hq, e, k, hk => by
  have hfront : ∀ (c : Int) (l : List UInt8) (j : Nat), repS C.rd c l (j + 1) = repS C.rd (C.rd c l).2.1 (C.rd c l).2.2 j := by
   intro c l j
   induction j with
   | zero => rfl
   | succ j ih => rw [repS, ih]; rfl
  subst hk
  rw [List.length_cons, hfront]
  rw [List.flatMap_cons] at e
  have hox := hx x (by simp)
  rcases List.append_eq_append_iff.1 e with ⟨a, h1, h2⟩ | ⟨a, h1, h2⟩
  · have e1 := C.back x a hox
    rw [h1, e1]
    exact rep_cut xs a q (fun y hy => hx y (by simp [hy])) hq h2 _ rfl
  · by_cases ha : a = []
    · subst ha
      have hp : p = C.put x := by simpa using h1.symm
      have e1 := C.back x [] hox
      rw [List.append_nil] at e1
      rw [hp, e1]
      exact rep_cut xs [] q (fun y hy => hx y (by simp [hy])) hq (by simpa using h2.symm) _ rfl
    · have h3 := C.cut x p a hox ha h1
      rw [h3, repS_err C (by decide)]
end
def listR {α : Type} (m : Nat) (f : Rdr α) : Rdr (List α) := fun c l =>
 (if (repS f (numE m c l) (numL m c l) (numV m c l)).1 = 0 then repX f (numE m c l) (numL m c l) (numV m c l) else [], repS f (numE m c l) (numL m c l) (numV m c l))
theorem list_len {α : Type} (m : Nat) (f : Rdr α) (c : Int) (l : List UInt8) : (listR m f c l).1.length ≤ m := by
 show (if _ then _ else _ : List α).length ≤ m
 split
 · rw [repX_len]; exact numV_le m c l
 · exact Nat.zero_le _
def listP {α : Type} (put : α → List UInt8) (xs : List α) : List UInt8 := leb xs.length ++ xs.flatMap put
def listC {α : Type} (m : Nat) (hm : m < 18446744073709551616) (C : Codec α) : Codec (List α) where
 rd := listR m C.rd
 put := listP C.put
 ok := fun xs => xs.length ≤ m ∧ ∀ x ∈ xs, C.ok x
 keeps := fun c l h => by
  show repS C.rd (numE m c l) (numL m c l) (numV m c l) = _
  rw [numE_err h, numL_err h, numV_err h]; rfl
 len := fun c l => Nat.le_trans (repS_len C _ _ _) (numL_len m c l)
 canon := fun l h => by
  have hz : (repS C.rd (numE m 0 l) (numL m 0 l) (numV m 0 l)).1 = 0 := h
  have h0 : numE m 0 l = 0 := by
   by_cases h0 : numE m 0 l = 0
   · exact h0
   · rw [repS_err C h0] at hz; exact hz
  have hx : (listR m C.rd 0 l).1 = repX C.rd 0 (numL m 0 l) (numV m 0 l) := by
   show (if _ then _ else _) = _
   rw [if_pos hz, h0]
  have hs : (listR m C.rd 0 l).2.2 = (repS C.rd 0 (numL m 0 l) (numV m 0 l)).2 := by
   show (repS C.rd (numE m 0 l) (numL m 0 l) (numV m 0 l)).2 = _
   rw [h0]
  rw [h0] at hz
  obtain ⟨i1, i2⟩ := rep_canon C _ hz
  rw [hx, hs]
  refine ⟨⟨by rw [repX_len]; exact numV_le m 0 l, i1⟩, ?_⟩
  unfold listP
  rw [repX_len, List.append_assoc, ← i2]
  exact num_canon h0
 back := fun xs r h => by
  have hn : xs.length < 18446744073709551616 := by omega
  show listR m C.rd 0 (leb xs.length ++ xs.flatMap C.put ++ r) = _
  rw [List.append_assoc]
  unfold listR
  rw [numE_put hn h.1, numL_put hn h.1, numV_put hn h.1]
  obtain ⟨i1, i2⟩ := rep_back C r xs h.2 xs.length (Nat.le_refl _)
  rw [i1, i2]
  simp
 cut := fun xs p q h hq e => by
  have hn : xs.length < 18446744073709551616 := by omega
  show (repS C.rd (numE m 0 p) (numL m 0 p) (numV m 0 p)).1 = 40
  unfold listP at e
  rcases List.append_eq_append_iff.1 e with ⟨a, h1, h2⟩ | ⟨a, h1, h2⟩
  · rw [h1, numE_put hn h.1, numL_put hn h.1, numV_put hn h.1]
    exact rep_cut C xs a q h.2 hq h2 _ rfl
  · by_cases ha : a = []
    · subst ha
      have hp : p = leb xs.length ++ ([] : List UInt8) := by simpa using h1.symm
      rw [hp, numE_put hn h.1, numL_put hn h.1, numV_put hn h.1]
      exact rep_cut C xs [] q h.2 hq (by simpa using h2.symm) _ rfl
    · rw [num_cut hn ha h1, repS_err C (by decide)]
 okay := fun c l => ⟨list_len m C.rd c l, fun x hx => by
  have hx' : x ∈ (if (repS C.rd (numE m c l) (numL m c l) (numV m c l)).1 = 0 then repX C.rd (numE m c l) (numL m c l) (numV m c l) else []) := hx
  split at hx'
  · exact repX_ok C _ _ _ x hx'
  · cases hx'⟩
theorem int_rng {m : Nat} {hm : m < 18446744073709551616} {z : Int} (h : (intC m hm).ok z) : 0 ≤ z ∧ z ≤ m := by
 obtain ⟨h1, h2⟩ := h
 have h1' : z.toNat ≤ m := h1
 have h2' : ((z.toNat : Nat) : Int) = z := h2
 omega
end Go.Proofs.YtljbpelogjmciaaGreatDoor.Pk
set_option linter.unusedVariables false
set_option linter.unusedSimpArgs false
namespace Go.Proofs.YtljbpelogjmciaaGreatDoor.Pk
open WirePure LebMath Sd TextPure
def labelC : Codec Lbl := mapC (pairC (textC 33 (by decide)) (textC 16 (by decide))) (fun x => ⟨x.1, x.2⟩) (fun y => (y.key, y.val)) (fun _ => rfl)
def portC : Codec Int := intC 65535 (by decide)
def bigC : Codec Int := intC 1099511627776 (by decide)
def resC : Codec (Int × Int × Int) := pairC bigC (pairC bigC bigC)
def portsC : Codec (List Int) := listC 3 (by decide) portC
def probeC : Codec (Int × Int) := pairC (intC 1000 (by decide)) (intC 10 (by decide))
def ctrC : Codec Ctr := mapC (pairC (textC 16 (by decide)) (pairC (textC 33 (by decide)) (pairC resC (pairC resC (pairC portsC probeC)))))
 (fun x => ⟨x.1, x.2.1, x.2.2.1.1, x.2.2.1.2.1, x.2.2.1.2.2, x.2.2.2.1.1, x.2.2.2.1.2.1, x.2.2.2.1.2.2, x.2.2.2.2.1, x.2.2.2.2.2.1, x.2.2.2.2.2.2⟩)
 (fun y => (y.name, y.image, (y.rc, y.rm, y.rp), (y.lc, y.lm, y.lp), y.ports, (y.ev, y.fl))) (fun _ => rfl)
def labelsC : Codec (List Lbl) := listC 4 (by decide) labelC
def initC : Codec (List Ctr) := listC 3 (by decide) ctrC
def mainC : Codec (List Ctr) := listC 4 (by decide) ctrC
def specC : Codec Spc := mapC (pairC (textC 16 (by decide)) (pairC labelsC (pairC initC (pairC mainC (pairC (intC 3 (by decide)) (pairC (intC 1000 (by decide)) (intC 10 (by decide))))))))
 (fun x => ⟨x.1, x.2.1, x.2.2.1, x.2.2.2.1, x.2.2.2.2.1, x.2.2.2.2.2.1, x.2.2.2.2.2.2⟩)
 (fun S => (S.name, S.labels, S.init, S.main, S.restart, S.grace, S.prio)) (fun _ => rfl)
theorem int_ok {m : Nat} {hm : m < 18446744073709551616} {z : Int} (h0 : 0 ≤ z) (h1 : z ≤ m) : (intC m hm).ok z := ⟨by show z.toNat ≤ m; omega, by show ((z.toNat : Nat) : Int) = z; omega⟩
theorem name_len {s : ByteArray} (h : isName s = true) : s.size ≤ 16 := by
 have := (nameL_len h).2
 simpa using this
theorem image_len {s : ByteArray} (h : isImage s = true) : s.size ≤ 33 := by
 have := imageL_len h
 simpa using this
theorem ports_each {a : List Ctr} : ∀ (l : List Int) (k : Nat) (seen : List Int), (portsFrom a k seen l).1 = 0 → ∀ z ∈ l, 1 ≤ z ∧ z ≤ 65535
 | [], _, _, _, z, hz => by cases hz
 | p :: l, k, seen, h, z, hz => by
  rw [portsFrom] at h
  split at h
  · simp at h
  · rename_i h1
    split at h
    · simp at h
    · rcases List.mem_cons.1 hz with rfl | hz
      · omega
      · exact ports_each l (k + 1) _ h z hz
theorem nums_each {f : Bool} {n0 n1 n2 l0 l1 l2 : Int} (h : ¬ 0 ≤ numsV f n0 n1 n2 l0 l1 l2) (g0 : 0 ≤ l0) (g1 : 0 ≤ l1) (g2 : 0 ≤ l2) : (0 ≤ n0 ∧ n0 ≤ 1099511627776) ∧ (0 ≤ n1 ∧ n1 ≤ 1099511627776) ∧ (0 ≤ n2 ∧ n2 ≤ 1099511627776) := by
 have key : ∀ n l : Int, 0 ≤ l → numV f n l = false → 0 ≤ n ∧ n ≤ 1099511627776 := by
  intro n l hl hn
  unfold Sd.numV big at hn
  by_cases hz : n = 0
  · subst hz; omega
  · have : (n != 0) = true := by simpa using hz
    rw [this] at hn
    simp at hn
    omega
 unfold numsV at h
 by_cases h0 : Sd.numV f n0 l0 = true
 · rw [if_pos h0] at h; omega
 · rw [if_neg h0] at h
   by_cases h1 : Sd.numV f n1 l1 = true
   · rw [if_pos h1] at h; omega
   · rw [if_neg h1] at h
     by_cases h2 : Sd.numV f n2 l2 = true
     · rw [if_pos h2] at h; omega
     · exact ⟨key n0 l0 g0 (by simpa using h0), key n1 l1 g1 (by simpa using h1), key n2 l2 g2 (by simpa using h2)⟩
theorem probe_each {ev fl : Int} {init : Bool} (h : (probeV ev fl init).1 = 0) : (0 ≤ ev ∧ ev ≤ 1000) ∧ (0 ≤ fl ∧ fl ≤ 10) := by
 unfold probeV at h
 split at h
 · simp at h
 · rename_i h1
   split at h
   · simp at h
   · rename_i h2
     omega
theorem ctr_ok {x : Ctr} {a : List Ctr} {init : Bool} (h : (oneV x a init).1 = 0) : ctrC.ok x := by
 rw [oneV_ok] at h
 obtain ⟨e1, e2, e3, e4, e5, e6, e7, e8⟩ := h
 obtain ⟨n0, n1, n2⟩ := nums_each e4 (by omega) (by omega) (by omega)
 obtain ⟨m0, m1, m2⟩ := nums_each e5 n0.1 n1.1 n2.1
 obtain ⟨p0, p1⟩ := probe_each e8
 have hp := ports_each _ _ _ e7
 refine ⟨⟨name_len e1, image_len e3, ⟨int_ok n0.1 n0.2, int_ok n1.1 n1.2, int_ok n2.1 n2.2⟩, ⟨int_ok m0.1 m0.2, int_ok m1.1 m1.2, int_ok m2.1 m2.2⟩, ⟨?_, fun z hz => int_ok (by have := hp z hz; omega) (by have := hp z hz; omega)⟩, int_ok p0.1 p0.2, int_ok p1.1 p1.2⟩, rfl⟩
 show x.ports.length ≤ 3
 omega
theorem keyL_len {l : List UInt8} (h : keyL l = true) : l.length ≤ 33 := by
 unfold keyL at h
 have h' : nameL (Lib.cut l [47]).1 = true ∧ (!(Lib.cut l [47]).2.2 || nameL (Lib.cut l [47]).2.1) = true := by
  rw [← Bool.and_eq_true]; exact h
 have h1 := (nameL_len h'.1).2
 cases hq : (Lib.cut l [47]).2.2 with
 | false =>
  obtain ⟨e1, _⟩ := cut_none 47 l hq
  rw [e1] at h1; omega
 | true =>
  have h2 := h'.2
  rw [hq] at h2
  have h3 := (nameL_len (by simpa using h2)).2
  have := congrArg List.length (cut_join 47 l hq)
  simp at this
  omega
theorem key_len {s : ByteArray} (h : isKey s = true) : s.size ≤ 33 := by
 have := keyL_len h
 simpa using this
theorem val_len {s : ByteArray} (h : isVal s = true) : s.size ≤ 16 := by
 unfold isVal valL at h
 rw [Bool.and_eq_true] at h
 have := of_decide_eq_true h.1
 simpa using this
theorem label_each {name : ByteArray} : ∀ (l : List Lbl) (i : Nat) (p : Option Lbl), (labelsFrom name i p l).1 = 0 → ∀ x ∈ l, labelC.ok x
 | [], _, _, _, x, hx => by cases hx
 | y :: l, i, p, h, x, hx => by
  rw [labelsFrom_cons] at h
  split at h
  · simp at h
  · rename_i h1
    split at h
    · simp at h
    · split at h
      · simp at h
      · rename_i h3
        rcases List.mem_cons.1 hx with rfl | hx
        · exact ⟨⟨key_len (by simpa using h1), val_len (by simpa using h3)⟩, rfl⟩
        · exact label_each l (i + 1) (some y) h x hx
theorem spec_ok {S : Spc} (h : (checkV S).1 = 0) : specC.ok S := by
 rw [check_ok] at h
 obtain ⟨e1, e2, e3, e4, e5, e6, e7⟩ := h
 unfold labelsV at e2
 split at e2
 · simp at e2
 · rename_i h2
   have ht : (1 ≤ S.restart ∧ S.restart ≤ 3) ∧ (0 ≤ S.grace ∧ S.grace ≤ 1000) ∧ (0 ≤ S.prio ∧ S.prio ≤ 10) := by
    unfold tailV at e7
    split at e7
    · simp at e7
    · split at e7
      · simp at e7
      · split at e7
        · simp at e7
        · omega
   obtain ⟨t1, t2, t3⟩ := ht
   refine ⟨⟨name_len e1, ⟨by show S.labels.length ≤ 4; omega, label_each _ _ _ e2⟩, ⟨e3, fun x hx => ?_⟩, ⟨e5.2, fun x hx => ?_⟩, int_ok (z := S.restart) (by omega) t1.2, int_ok (z := S.grace) t2.1 t2.2, int_ok (z := S.prio) t3.1 t3.2⟩, rfl⟩
   · obtain ⟨a, ha⟩ := SpecOwn.ctrs_each _ _ e4 x hx
     exact ctr_ok ha
   · obtain ⟨a, ha⟩ := SpecOwn.ctrs_each _ _ e6 x hx
     exact ctr_ok ha
end Go.Proofs.YtljbpelogjmciaaGreatDoor.Pk
set_option linter.unusedVariables false
set_option linter.unusedSimpArgs false
namespace Go.Proofs.YtljbpelogjmciaaGreatDoor
open Go.ChangeShapes Go.WideShapes Go.ChangeAt Go.RowKit Go.Lib
open LebMath WirePure Sd Wire
namespace Pk
abbrev Few (l : List UInt8) : Prop := l.length ≤ 281474976710656
theorem few {α : Type} {C : Codec α} {c : Int} {l : List UInt8} {x : α} {c' : Int} {l' : List UInt8} (hq : C.rd c l = (x, c', l')) (h : Few l) : Few l' := by
 have := C.len c l
 rw [hq] at this
 exact Nat.le_trans this h
theorem num_rd (g : Nat) (m : Int) (k : Nat) (hk : k < 18446744073709551616) (hm : m ≤ 9223372036854775807) (hmk : mostN m = k) (c : Int) (l : List UInt8) (hl : Few l) (x c' : Int) (l' : List UInt8) (hq : (intC k hk).rd c l = (x, c', l')) (w : World) (h : Rd w g c l) :
 Calls Tryz.prog 41 #[.pointer (some ⟨g, 0, none⟩), .int .i64 m] w fun e w' => e = .returned (.int .i64 x) ∧ Rd w' g c' l' ∧ Wire.Aside g w w' := by
 subst hmk
 have e : (((numV (mostN m) c l : Nat) : Int), numE (mostN m) c l, numL (mostN m) c l) = (x, c', l') := hq
 injection e with e1 e2
 injection e2 with e2 e3
 rw [← e1, ← e2, ← e3]
 exact rnum_any g m hm c l (Nat.le_trans hl (by decide)) w h
theorem text_rd (g : Nat) (m : Int) (k : Nat) (hk : k < 18446744073709551616) (hm : m ≤ 9223372036854775807) (hmk : mostN m = k) (c : Int) (l : List UInt8) (hl : Few l) (x : ByteArray) (c' : Int) (l' : List UInt8) (hq : (textC k hk).rd c l = (x, c', l')) (w : World) (h : Rd w g c l) :
 Calls Tryz.prog 37 #[.pointer (some ⟨g, 0, none⟩), .int .i64 m] w fun e w' => e = .returned (.string x) ∧ Rd w' g c' l' ∧ Wire.Aside g w w' := by
 subst hmk
 have e : ((⟨(textS (mostN m) c l).toArray⟩ : ByteArray), textE (mostN m) c l, textL (mostN m) c l) = (x, c', l') := hq
 injection e with e1 e2
 injection e2 with e2 e3
 rw [← e1, ← e2, ← e3]
 exact rtext_any g m hm c l hl w h
end Pk
end Go.Proofs.YtljbpelogjmciaaGreatDoor
set_option linter.unusedVariables false
set_option linter.unusedSimpArgs false
namespace Go.Proofs.YtljbpelogjmciaaGreatDoor
open Go.ChangeShapes Go.WideShapes Go.ChangeAt Go.RowKit Go.Lib
open LebMath WirePure Sd Wire SpecOwn
namespace Pk
end Pk
end Go.Proofs.YtljbpelogjmciaaGreatDoor
set_option linter.unusedVariables false
set_option linter.unusedSimpArgs false
namespace Go.Proofs.YtljbpelogjmciaaGreatDoor
open Go.ChangeShapes Go.WideShapes Go.ChangeAt Go.RowKit Go.Lib
open LebMath WirePure Sd Wire SpecOwn
namespace Pk
structure Only (b : Nat) (w v : World) : Prop where
 os : v.os = w.os
 tape : v.tape = w.tape
 output : v.output = w.output
 size : w.heap.size ≤ v.heap.size
 block : ∀ i, i ≠ b → v.heap[i]? = w.heap[i]?
theorem Only.refl (b : Nat) (w : World) : Only b w w := ⟨rfl, rfl, rfl, Nat.le_refl _, fun _ _ => rfl⟩
theorem Only.set {b : Nat} {w v : World} (h : Only b w v) (j : Nat) (u : Value) : Only b w (v.setCell ⟨b, j, none⟩ u) :=
 ⟨h.os, h.tape, h.output, by simpa using h.size, fun i hi => (Below.heap_setCell v ⟨b, j, none⟩ u i hi).trans (h.block i hi)⟩
theorem Only.rd {b g : Nat} {w v : World} {c : Int} {l : List UInt8} (h : Only b w v) (hr : Rd w g c l) (hne : g ≠ b) : Rd v g c l := (h.block g hne).trans hr
theorem Only.aside {b g : Nat} {a w v : World} (h : Only b w v) (hk : Wire.Aside g a w) (hb : a.heap.size ≤ b) : Wire.Aside g a v :=
 ⟨h.os.trans hk.os, h.tape.trans hk.tape, h.output.trans hk.output, Nat.le_trans hk.size h.size, fun i hi => (h.block i (by have := hi.1; omega)).trans (hk.block i hi)⟩
theorem nums_move {w v : World} {P : Option Addr} {l : List Int} (h : Lists.Nums .i64 w P l) (hs : w.heap.size ≤ v.heap.size) (hb : ∀ a, P = some a → l ≠ [] → a.block < w.heap.size → v.heap[a.block]? = w.heap[a.block]?) : Lists.Nums .i64 v P l := by
 intro j z hj
 obtain ⟨hw, a, ha, hla, hca⟩ := h j z hj
 refine ⟨hw, a, ha, Nat.lt_of_lt_of_le hla hs, ?_⟩
 rw [World.cell?_of_block (w := w) (by rw [Lists.add_block]; exact hb a ha (fun e => by rw [e] at hj; simp at hj) hla)]
 exact hca
theorem Only.nums {b : Nat} {w v : World} {P : Option Addr} {l : List Int} (h : Only b w v) (hn : Lists.Nums .i64 w P l) (hne : ∀ a, P = some a → a.block ≠ b) : Lists.Nums .i64 v P l :=
 nums_move hn h.size (fun a ha _ _ => h.block _ (hne a ha))
theorem nums_aside {B g : Nat} {w v : World} {P : Option Addr} {l : List Int} (hn : Lists.Nums .i64 w P l) (hF : From B P) (hg : g < B) (h : Wire.Aside g w v) : Lists.Nums .i64 v P l :=
 nums_move hn h.size (fun a ha _ hl => h.block _ ⟨hl, by have := hF a ha; omega⟩)
theorem lbls_move {w v : World} {P : Option Addr} {l : List Lbl} (h : Lbls w P l) (hs : w.heap.size ≤ v.heap.size) (hb : ∀ a, P = some a → a.block < w.heap.size → v.heap[a.block]? = w.heap[a.block]?) : Lbls v P l := by
 intro j z hj
 obtain ⟨a, ha, hla, hca⟩ := h j z hj
 exact ⟨a, ha, Nat.lt_of_lt_of_le hla hs, hca.keep (by rw [Lists.add_block]; exact hb a ha hla)⟩
theorem lbls_aside {B g : Nat} {w v : World} {P : Option Addr} {l : List Lbl} (hn : Lbls w P l) (hF : From B P) (hg : g < B) (h : Wire.Aside g w v) : Lbls v P l :=
 lbls_move hn h.size (fun a ha hl => h.block _ ⟨hl, by have := hF a ha; omega⟩)
theorem Only.lbls {b : Nat} {w v : World} {P : Option Addr} {l : List Lbl} (h : Only b w v) (hn : Lbls w P l) (hne : ∀ a, P = some a → a.block ≠ b) : Lbls v P l :=
 lbls_move hn h.size (fun a ha _ => h.block _ (hne a ha))
def CtrsUp (B : Nat) (w : World) (A : Option Addr) (l : List Ctr) : Prop := ∀ (k : Nat) (x : Ctr), l[k]? = some x → x.Fits ∧ ∃ a P c, A = some a ∧ B ≤ a.block ∧ a.block < w.heap.size ∧ x.cellsAt P c w (a.add (k * 11)) ∧ Lists.Nums .i64 w P x.ports ∧ From B P
theorem CtrsUp.ctrs {B : Nat} {w : World} {A : Option Addr} {l : List Ctr} (h : CtrsUp B w A l) : Ctrs w A l := by
 intro j x hj
 obtain ⟨hf, a, P, c, hA, h1, h2, hc, hn, hP⟩ := h j x hj
 exact ⟨hf, a, P, c, hA, h2, hc, hn⟩
theorem CtrsUp.less {B B' : Nat} {w : World} {A : Option Addr} {l : List Ctr} (h : CtrsUp B w A l) (hB : B' ≤ B) : CtrsUp B' w A l := by
 intro j x hj
 obtain ⟨hf, a, P, c, hA, h1, h2, hc, hn, hP⟩ := h j x hj
 exact ⟨hf, a, P, c, hA, Nat.le_trans hB h1, h2, hc, hn, fun p hp => Nat.le_trans hB (hP p hp)⟩
theorem CtrsUp.move {B : Nat} {w v : World} {A : Option Addr} {l : List Ctr} (h : CtrsUp B w A l) (hs : w.heap.size ≤ v.heap.size) (hb : ∀ i, B ≤ i → i < w.heap.size → v.heap[i]? = w.heap[i]?) : CtrsUp B v A l := by
 intro j x hj
 obtain ⟨hf, a, P, c, hA, h1, h2, hc, hn, hP⟩ := h j x hj
 exact ⟨hf, a, P, c, hA, h1, Nat.lt_of_lt_of_le h2 hs, hc.keep (by rw [Lists.add_block]; exact hb _ h1 h2), nums_move hn hs (fun a ha _ hl => hb _ (hP a ha) hl), hP⟩
theorem CtrsUp.aside {B g : Nat} {w v : World} {A : Option Addr} {l : List Ctr} (h : CtrsUp B w A l) (hg : g < B) (hk : Wire.Aside g w v) : CtrsUp B v A l :=
 h.move hk.size (fun i h1 h2 => hk.block i ⟨h2, by omega⟩)
theorem Only.up {b B : Nat} {w v : World} {A : Option Addr} {l : List Ctr} (h : Only b w v) (hn : CtrsUp B w A l) (hb : b < B) : CtrsUp B v A l :=
 hn.move h.size (fun i h1 _ => h.block i (by omega))
structure SpcUp (B : Nat) (S : Spc) (w : World) (LA IA MA : Option Addr) : Prop where
 labels : Lbls w LA S.labels
 lfrom : From B LA
 init : CtrsUp B w IA S.init
 main : CtrsUp B w MA S.main
 nums : (S.labels.length ≤ 9223372036854775807 ∧ S.init.length ≤ 9223372036854775807 ∧ S.main.length ≤ 9223372036854775807) ∧ I64 S.restart ∧ I64 S.grace ∧ I64 S.prio
theorem SpcUp.in {B : Nat} {S : Spc} {w : World} {LA IA MA : Option Addr} {lc ic mc : Nat} (h : SpcUp B S w LA IA MA) : S.In w LA lc IA ic MA mc :=
 ⟨h.labels, h.init.ctrs, h.main.ctrs, h.nums.1.1, h.nums.1.2.1, h.nums.1.2.2, h.nums.2.1, h.nums.2.2.1, h.nums.2.2.2⟩
theorem SpcUp.aside {B g : Nat} {S : Spc} {w v : World} {LA IA MA : Option Addr} (h : SpcUp B S w LA IA MA) (hg : g < B) (hk : Wire.Aside g w v) : SpcUp B S v LA IA MA :=
 ⟨lbls_aside h.labels h.lfrom hg hk, h.lfrom, h.init.aside hg hk, h.main.aside hg hk, h.nums⟩
def Gat (B : Nat) (w : World) (v : Value) (L : List Held) : Prop := ∀ t ∈ L, t.x.Fits ∧ Lists.Nums .i64 w t.P t.x.ports ∧ From B t.P ∧ t.x.ports.length ≤ t.c ∧ (t.x.ports ≠ [] → ∀ p, t.P = some p → v.ownBlock ≠ some p.block)
theorem Gat.aside {B g : Nat} {w v : World} {u : Value} {L : List Held} (h : Gat B w u L) (hk : Wire.Aside g w v) (hg : g < B) : Gat B v u L := fun t ht => by
 obtain ⟨h1, h2, h3, h4, h5⟩ := h t ht
 exact ⟨h1, nums_aside h2 h3 hg hk, h3, h4, h5⟩
theorem Gat.grown {B : Nat} {w w7 : World} {u v' : Value} {L : List Held} {o : Obj} (h : Gat B w u L) (hg : (w.alloc o).grownBy w7 u.ownBlock) (hat : v'.ownBlock = u.ownBlock ∨ v'.ownBlock = some (w.heap.size + 1)) : Gat B w7 v' L := fun t ht => by
 obtain ⟨h1, h2, h3, h4, h5⟩ := h t ht
 have hsz : (w.alloc o).heap.size = w.heap.size + 1 := by simp
 refine ⟨h1, nums_move h2 (by have := hg.size; omega) (fun a ha hne hl => ?_), h3, h4, fun hne p hp => ?_⟩
 · exact (hg.block a.block (by omega) (fun e => h5 hne a ha e.symm)).trans (Below.heap_alloc w o a.block hl)
 · rcases hat with e | e
   · rw [e]; exact h5 hne p hp
   · rw [e]
     intro e2
     injection e2 with e2
     cases hq : t.x.ports with
     | nil => exact hne hq
     | cons z zs =>
      obtain ⟨_, a, ha, hla, _⟩ := h2 0 z (by rw [hq]; rfl)
      rw [hp] at ha
      injection ha with ha
      subst ha
      omega
theorem Gat.up {B : Nat} {w : World} {A : Option Addr} {n cap : Nat} {L : List Held} (h : Gat B w (.slice A n cap) L) (ho : w.ownsRow B 74 11 (.slice A n cap) n (flat L)) : CtrsUp B w A (L.map (·.x)) := by
 intro k x hk
 rw [List.getElem?_map, Option.map_eq_some_iff] at hk
 obtain ⟨t, ht, rfl⟩ := hk
 obtain ⟨h1, h2, h3, h4, h5⟩ := h t (List.mem_of_getElem? ht)
 have hkl : k < L.length := (List.getElem?_eq_some_iff.1 ht).1
 have hln := ho.1
 rw [flat_length] at hln
 rcases ho.2 with ⟨e1, h0⟩ | ⟨g, cap', cur, e1, e2, e3, e4⟩
 · omega
 · injection e1 with e1 e5 e6
   subst e1
   have hc : ∀ j, j < 11 → w.cell? ⟨g, k * 11 + j, none⟩ = t.cells[j]? := fun j hj => by
    rw [ho.cellAt (k * 11 + j) (by omega), flat_at ht j hj]
   have e0 : (⟨g, 0, none⟩ : Addr).add (k * 11) = ⟨g, k * 11, none⟩ := by unfold Addr.add; split <;> simp_all
   refine ⟨h1, _, t.P, t.c, rfl, e2, lt_of_block e3, ?_, h2, h3⟩
   rw [e0]
   exact ⟨hc 0 (by omega), hc 1 (by omega), hc 2 (by omega), hc 3 (by omega), hc 4 (by omega), hc 5 (by omega), hc 6 (by omega), hc 7 (by omega), hc 8 (by omega), hc 9 (by omega), hc 10 (by omega), h4⟩
theorem i64_rng {z : Int} {m : Nat} (h : 0 ≤ z ∧ z ≤ m) (hm : m ≤ 1099511627776) : I64 z := by
 unfold I64
 have : (m : Int) ≤ 1099511627776 := by omega
 omega
end Pk
end Go.Proofs.YtljbpelogjmciaaGreatDoor
set_option linter.unusedVariables false
set_option linter.unusedSimpArgs false
namespace Go.Proofs.YtljbpelogjmciaaGreatDoor
open Go.ChangeShapes Go.WideShapes Go.ChangeAt Go.RowKit Go.Lib
open LebMath WirePure Sd Wire SpecOwn SpecRef
namespace Pk
theorem spec_light {S : Spc} (h : specC.ok S) : Book.Light S := by
 obtain ⟨⟨h0, ⟨h1, g1⟩, ⟨h2, g2⟩, ⟨h3, g3⟩, _⟩, _⟩ := h
 have e0 : S.name.size ≤ 16 := h0
 have e1 : S.labels.length ≤ 4 := h1
 have e2 : S.init.length ≤ 3 := h2
 have e3 : S.main.length ≤ 4 := h3
 have lc : ∀ x : Ctr, ctrC.ok x → Book.lightC x := fun x hx => by
  obtain ⟨⟨o1, o2, _, _, ⟨o5, _⟩, _⟩, _⟩ := hx
  have n1 : x.name.size ≤ 16 := o1
  have n2 : x.image.size ≤ 33 := o2
  have n5 : x.ports.length ≤ 3 := o5
  exact ⟨by omega, by omega, by omega⟩
 refine ⟨⟨by omega, by omega, by omega, by omega⟩, fun x hx => ?_, fun x hx => lc x (g2 x hx), fun x hx => lc x (g3 x hx)⟩
 obtain ⟨⟨o1, o2⟩, _⟩ := g1 x hx
 have n1 : x.key.size ≤ 33 := o1
 have n2 : x.val.size ≤ 16 := o2
 exact ⟨by omega, by omega⟩
end Pk
end Go.Proofs.YtljbpelogjmciaaGreatDoor
set_option linter.unusedVariables false
set_option linter.unusedSimpArgs false
namespace Go.Proofs.YtljbpelogjmciaaGreatDoor
open Go.ChangeShapes Go.WideShapes Go.ChangeAt Go.RowKit Go.Lib
open LebMath WirePure Sd Wire
namespace Pk
theorem txB_le {s : ByteArray} {n : Nat} (h : s.size ≤ n) (hn : n ≤ 1000000 := by omega) : (txB s).length ≤ 10 + n := by
 unfold txB
 have h1 := leb_le_ten (n := s.size) (by omega)
 have h2 : s.data.toList.length = s.size := Array.length_toList
 rw [List.length_append]
 omega
theorem int_put_len {m : Nat} {hm : m < 18446744073709551616} {z : Int} (h : (intC m hm).ok z) : ((intC m hm).put z).length ≤ 10 := by
 have := int_rng h
 show (leb z.toNat).length ≤ 10
 exact leb_le_ten (by omega)
theorem flat_put_len {α : Type} (put : α → List UInt8) (n : Nat) : ∀ (l : List α), (∀ x ∈ l, (put x).length ≤ n) → (l.flatMap put).length ≤ l.length * n
 | [], _ => by simp
 | x :: l, h => by
  have h1 := h x (by simp)
  have h2 := flat_put_len put n l (fun y hy => h y (by simp [hy]))
  rw [List.flatMap_cons, List.length_append, List.length_cons, Nat.add_mul]
  omega
theorem res_put_len {x : Int × Int × Int} (h : resC.ok x) : (resC.put x).length ≤ 30 := by
 obtain ⟨a, b, d⟩ := x
 obtain ⟨h1, h2, h3⟩ := h
 have l1 := int_put_len h1
 have l2 := int_put_len h2
 have l3 := int_put_len h3
 show (bigC.put a ++ (bigC.put b ++ bigC.put d)).length ≤ 30
 rw [List.length_append, List.length_append]
 show (bigC.put a).length + ((bigC.put b).length + (bigC.put d).length) ≤ 30
 have e1 : (bigC.put a).length ≤ 10 := l1
 have e2 : (bigC.put b).length ≤ 10 := l2
 have e3 : (bigC.put d).length ≤ 10 := l3
 omega
theorem port_put_len {x : Int} (h : portC.ok x) : (portC.put x).length ≤ 10 := int_put_len h
theorem ports_put_len {l : List Int} (hn : l.length ≤ 3) (h : ∀ x ∈ l, portC.ok x) : (portsC.put l).length ≤ 40 := by
 have h1 := flat_put_len portC.put 10 l (fun x hx => port_put_len (h x hx))
 have h2 := leb_le_ten (n := l.length) (by omega)
 show (leb l.length ++ l.flatMap portC.put).length ≤ 40
 rw [List.length_append]
 omega
theorem label_put_eq (x : Lbl) : labelC.put x = txB x.key ++ txB x.val := rfl
theorem label_put_len {x : Lbl} (h : x.key.size ≤ 1000 ∧ x.val.size ≤ 1000) : (labelC.put x).length ≤ 2020 := by
 have h1 := txB_le h.1
 have h2 := txB_le h.2
 rw [label_put_eq, List.length_append]
 omega
theorem ctr_put_eq (x : Ctr) : ctrC.put x = txB x.name ++ (txB x.image ++ (resC.put (x.rc, x.rm, x.rp) ++ (resC.put (x.lc, x.lm, x.lp) ++ (portsC.put x.ports ++ ((intC 1000 (by decide)).put x.ev ++ (intC 10 (by decide)).put x.fl))))) := rfl
theorem ctr_put_len {x : Ctr} (h : ctrC.ok x) : (ctrC.put x).length ≤ 300 := by
 obtain ⟨⟨o1, o2, o3, o4, ⟨o5a, o5⟩, o6, o7⟩, _⟩ := h
 have l1 : (txB x.name).length ≤ 10 + 16 := txB_le o1
 have l2 : (txB x.image).length ≤ 10 + 33 := txB_le o2
 have l3 : (resC.put (x.rc, x.rm, x.rp)).length ≤ 30 := res_put_len o3
 have l4 : (resC.put (x.lc, x.lm, x.lp)).length ≤ 30 := res_put_len o4
 have l5 : (portsC.put x.ports).length ≤ 40 := ports_put_len o5a o5
 have l6 : ((intC 1000 (by decide)).put x.ev).length ≤ 10 := int_put_len o6
 have l7 : ((intC 10 (by decide)).put x.fl).length ≤ 10 := int_put_len o7
 rw [ctr_put_eq]
 simp only [List.length_append]
 omega
theorem num_wr (g : Nat) (D : Nat → Prop) (c : Int) (xs : List UInt8) (z : Int) (m : Nat) (hm : m < 18446744073709551616) (hok : (intC m hm).ok z) (hz : xs.length + 10 ≤ 140737488355328) (w : World) (h : Wr w g D c xs) (hm' : m ≤ 9223372036854775807 := by decide) :
 Calls Tryz.prog 61 #[.pointer (some ⟨g, 0, none⟩), .int .i64 z] w fun e w' => e = .returned (.tuple #[]) ∧ Wr w' g D c (addB c xs ((intC m hm).put z)) ∧ Kept D w w' := by
 have hr := int_rng hok
 obtain ⟨n, rfl⟩ := Int.eq_ofNat_of_zero_le hr.1
 have hn : n ≤ m := by omega
 exact num_nat g D c xs n (by unfold maxLen; omega) (fun _ => hz) w h
set_option maxRecDepth 100000 in
set_option maxHeartbeats 1000000 in
theorem res_wr (g : Nat) (D : Nat → Prop) (c : Int) (xs : List UInt8) (a1 a2 a3 : Int) (hok : resC.ok (a1, a2, a3)) (hz : xs.length + 1000 ≤ 140737488355328) (w : World) (h : Wr w g D c xs) :
 Calls Tryz.prog 172 #[.pointer (some ⟨g, 0, none⟩), .agg #[.int .i64 a1, .int .i64 a2, .int .i64 a3]] w fun e w' => e = .returned (.tuple #[]) ∧ Wr w' g D c (addB c xs (resC.put (a1, a2, a3))) ∧ Kept D w w' := by
 obtain ⟨o1, o2, o3⟩ := hok
 have l1 : (bigC.put a1).length ≤ 10 := int_put_len o1
 have l2 : (bigC.put a2).length ≤ 10 := int_put_len o2
 have l3 : (bigC.put a3).length ≤ 10 := int_put_len o3
 have O1 := Lib.hid o1
 have O2 := Lib.hid o2
 have O3 := Lib.hid o3
 clear o1 o2 o3
 obtain ⟨w1, hw1⟩ : ∃ v, w.alloc (.cells #[.int .i64 a1, .int .i64 a2, .int .i64 a3] 70) = v := ⟨_, rfl⟩
 have hb1 : Below w.heap.size w w1 := by rw [← hw1]; exact (Below.refl _ _).alloc (Nat.le_refl _) _
 have z1 : w1.heap[w.heap.size]? = some (.cells #[.int .i64 a1, .int .i64 a2, .int .i64 a3] 70 (0, 0)) := by rw [← hw1]; exact heap_alloc_new w _
 have H1 := Lib.hid (show Wr w1 g (fun k => D k ∨ k = w.heap.size) c xs by rw [← hw1]; exact h.alloc _)
 have K1 := Lib.hid (Kept.refl (fun k => D k ∨ k = w.heap.size) w1)
 have KB := Lib.hid (show Kept D w w1 from Kept.of_below hb1 (fun k hk => (h.1 k hk).1))
 have Z1 := Lib.hid z1
 clear h z1 hb1
 go_enter Tryz.func172, Tryz.ntmps172
 have b1_0 : w1.cell? ⟨w.heap.size, 0, none⟩ = some (.int .i64 a1) := by simp [World.cell?, Z1.out]
 go_wp2_with fail
 refine (num_wr g (fun k => D k ∨ k = w.heap.size) c xs a1 1099511627776 (by decide) O1.out (by omega) w1 H1.out).mono ?_
 rintro e w2 ⟨rfl, h2, k2⟩
 have H2 := Lib.hid (show Wr w2 g (fun k => D k ∨ k = w.heap.size) c (addB c xs (bigC.put a1)) from by first | exact h2 | (simp only [List.append_assoc] at h2 ⊢; exact h2))
 have K2 := Lib.hid (K1.out.trans k2)
 have z2 := (k2.block w.heap.size (.inr rfl)).trans Z1.out
 have Z2 := Lib.hid z2
 clear h2 k2 z2 b1_0
 have b2_1 : w2.cell? ⟨w.heap.size, 1, none⟩ = some (.int .i64 a2) := by simp [World.cell?, Z2.out]
 go_wp2_with fail
 refine (num_wr g (fun k => D k ∨ k = w.heap.size) c (addB c xs (bigC.put a1)) a2 1099511627776 (by decide) O2.out (by have := addB_len c xs (bigC.put a1); (try simp only [List.length_append] at this); omega) w2 H2.out).mono ?_
 rintro e w3 ⟨rfl, h3, k3⟩
 rw [addB_two] at h3
 have H3 := Lib.hid (show Wr w3 g (fun k => D k ∨ k = w.heap.size) c (addB c xs (bigC.put a1 ++ bigC.put a2)) from by first | exact h3 | (simp only [List.append_assoc] at h3 ⊢; exact h3))
 have K3 := Lib.hid (K2.out.trans k3)
 have z3 := (k3.block w.heap.size (.inr rfl)).trans Z2.out
 have Z3 := Lib.hid z3
 clear h3 k3 z3 b2_1
 have b3_2 : w3.cell? ⟨w.heap.size, 2, none⟩ = some (.int .i64 a3) := by simp [World.cell?, Z3.out]
 go_wp2_with fail
 refine (num_wr g (fun k => D k ∨ k = w.heap.size) c (addB c xs (bigC.put a1 ++ bigC.put a2)) a3 1099511627776 (by decide) O3.out (by have := addB_len c xs (bigC.put a1 ++ bigC.put a2); (try simp only [List.length_append] at this); omega) w3 H3.out).mono ?_
 rintro e w4 ⟨rfl, h4, k4⟩
 rw [addB_two] at h4
 have H4 := Lib.hid (show Wr w4 g (fun k => D k ∨ k = w.heap.size) c (addB c xs (bigC.put a1 ++ bigC.put a2 ++ bigC.put a3)) from by first | exact h4 | (simp only [List.append_assoc] at h4 ⊢; exact h4))
 have K4 := Lib.hid (K3.out.trans k4)
 have z4 := (k4.block w.heap.size (.inr rfl)).trans Z3.out
 have Z4 := Lib.hid z4
 clear h4 k4 z4 b3_2
 go_wp2
 go_end0
 refine ⟨rfl, ?_, KB.out.trans (K4.out.mono (fun k hk => .inl hk))⟩
 have hfin := H4.out.less (D' := D) (fun k hk => .inl hk)
 rw [show resC.put (a1, a2, a3) = bigC.put a1 ++ (bigC.put a2 ++ bigC.put a3) from rfl, ← List.append_assoc]
 exact hfin
set_option maxRecDepth 100000 in
set_option maxHeartbeats 1000000 in
theorem label_wr (g : Nat) (D : Nat → Prop) (c : Int) (xs : List UInt8) (x : Lbl) (hk : x.key.size ≤ 1000) (hv : x.val.size ≤ 1000) (hz : xs.length + 5000 ≤ 140737488355328) (w : World) (h : Wr w g D c xs) :
 Calls Tryz.prog 171 #[.pointer (some ⟨g, 0, none⟩), .agg #[.string x.key, .string x.val]] w fun e w' => e = .returned (.tuple #[]) ∧ Wr w' g D c (addB c xs (labelC.put x)) ∧ Kept D w w' := by
 have l1 := txB_le (s := x.key) (by omega)
 have l2 := txB_le (s := x.val) (by omega)
 obtain ⟨w1, hw1⟩ : ∃ v, w.alloc (.cells #[.string x.key, .string x.val] 140) = v := ⟨_, rfl⟩
 have hb1 : Below w.heap.size w w1 := by rw [← hw1]; exact (Below.refl _ _).alloc (Nat.le_refl _) _
 have z1 : w1.heap[w.heap.size]? = some (.cells #[.string x.key, .string x.val] 140 (0, 0)) := by rw [← hw1]; exact heap_alloc_new w _
 have H1 := Lib.hid (show Wr w1 g (fun k => D k ∨ k = w.heap.size) c xs by rw [← hw1]; exact h.alloc _)
 have K1 := Lib.hid (Kept.refl (fun k => D k ∨ k = w.heap.size) w1)
 have KB := Lib.hid (show Kept D w w1 from Kept.of_below hb1 (fun k hk => (h.1 k hk).1))
 have Z1 := Lib.hid z1
 clear h z1 hb1
 go_enter Tryz.func171, Tryz.ntmps171
 have b1_0 : w1.cell? ⟨w.heap.size, 0, none⟩ = some (.string x.key) := by simp [World.cell?, Z1.out]
 go_wp2_with fail
 refine (text_any g (fun k => D k ∨ k = w.heap.size) c xs x.key (by omega) w1 H1.out).mono ?_
 rintro e w2 ⟨rfl, h2, k2⟩
 have H2 := Lib.hid (show Wr w2 g (fun k => D k ∨ k = w.heap.size) c (addB c xs (txB x.key)) from by first | exact h2 | (simp only [List.append_assoc] at h2 ⊢; exact h2))
 have K2 := Lib.hid (K1.out.trans k2)
 have z2 := (k2.block w.heap.size (.inr rfl)).trans Z1.out
 have Z2 := Lib.hid z2
 clear h2 k2 z2 b1_0
 have b2_1 : w2.cell? ⟨w.heap.size, 1, none⟩ = some (.string x.val) := by simp [World.cell?, Z2.out]
 go_wp2_with fail
 refine (text_any g (fun k => D k ∨ k = w.heap.size) c (addB c xs (txB x.key)) x.val (by have := addB_len c xs (txB x.key); (try simp only [List.length_append] at this); omega) w2 H2.out).mono ?_
 rintro e w3 ⟨rfl, h3, k3⟩
 rw [addB_two] at h3
 have H3 := Lib.hid (show Wr w3 g (fun k => D k ∨ k = w.heap.size) c (addB c xs (txB x.key ++ txB x.val)) from by first | exact h3 | (simp only [List.append_assoc] at h3 ⊢; exact h3))
 have K3 := Lib.hid (K2.out.trans k3)
 have z3 := (k3.block w.heap.size (.inr rfl)).trans Z2.out
 have Z3 := Lib.hid z3
 clear h3 k3 z3 b2_1
 go_wp2
 go_end0
 refine ⟨rfl, ?_, KB.out.trans (K3.out.mono (fun k hk => .inl hk))⟩
 have hfin := H3.out.less (D' := D) (fun k hk => .inl hk)
 exact hfin
set_option maxRecDepth 100000 in
theorem port_wr (g : Nat) (D : Nat → Prop) (c : Int) (xs : List UInt8) (x : Int) (hok : portC.ok x) (hz : xs.length + 1000 ≤ 140737488355328) (w : World) (h : Wr w g D c xs) :
 Calls Tryz.prog 174 #[.pointer (some ⟨g, 0, none⟩), .int .i64 x] w fun e w' => e = .returned (.tuple #[]) ∧ Wr w' g D c (addB c xs (portC.put x)) ∧ Kept D w w' := by
 have HRUN := Lib.hid (num_wr g D c xs x 65535 (by decide) hok (by omega) w h)
 clear h hok
 go_enter Tryz.func174, Tryz.ntmps174
 go_wp2_with fail
 refine HRUN.out.mono ?_
 rintro e w1 ⟨rfl, h1, k1⟩
 have H1 := Lib.hid h1
 have K1 := Lib.hid k1
 clear h1 k1
 go_wp2
 go_end0
 exact ⟨rfl, H1.out, K1.out⟩
set_option maxRecDepth 100000 in
set_option maxHeartbeats 1000000 in
theorem labels_wr (g : Nat) (D : Nat → Prop) (c : Int) (xs : List UInt8) (A : Option Addr) (cap : Nat) (l : List Lbl) (hn : l.length ≤ 1000) (hok : ∀ x ∈ l, (x.key.size ≤ 1000 ∧ x.val.size ≤ 1000)) (hz : xs.length + 10000000 ≤ 140737488355328) (w0 w : World) (hb : Below w0.heap.size w0 w) (hD : ∀ k, k < w0.heap.size → D k) (hL : Lbls w0 A l) (h : Wr w g D c xs) :
 Calls Tryz.prog 170 #[.pointer (some ⟨g, 0, none⟩), .slice A l.length cap, .func (.func 171) #[] #[]] w fun e w' => e = .returned (.tuple #[]) ∧ Wr w' g D c (addB c xs (listP labelC.put l)) ∧ Kept D w w' := by
 have HOK := Lib.hid hok
 have HL := Lib.hid hL
 have HB := Lib.hid hb
 have HD := Lib.hid hD
 have hn' : (l.length : Int) ≤ 1000 := by omega
 have hle : (leb l.length).length ≤ 10 := leb_le_ten (by omega)
 have HRUN := Lib.hid (num_nat g D c xs l.length (by unfold maxLen; omega) (fun _ => by omega) w h)
 clear h hok hL hb hD
 go_enter Tryz.func170, Tryz.ntmps170
 go_wp2_with fail
 refine HRUN.out.mono ?_
 rintro e w1 ⟨rfl, h1, k1⟩
 have H1 := Lib.hid (show Wr w1 g D c (addB c xs (leb l.length ++ (l.take 0).flatMap labelC.put)) by simpa using h1)
 have K1 := Lib.hid k1
 clear h1 k1 HRUN
 go_wp2_with fail
 go_loopw [14] (fun i wr => ∃ j : Nat, j ≤ l.length ∧ i = .int .i64 j ∧ Hid (Wr wr g D c (addB c xs (leb l.length ++ (l.take j).flatMap labelC.put))) ∧ Hid (Kept D w wr)) (fun i _ => l.length - (RowKit.intOf i).toNat)
 case atStart => exact ⟨0, Nat.zero_le _, rfl, H1.out, K1.out⟩
 case round =>
  obtain ⟨j, hj, rfl, HW, HK⟩ := hrel
  by_cases hlt : j < l.length
  · have hlt' : (j : Int) < (l.length : Int) := by omega
    have hbw : Below w0.heap.size w0 wr := HB.out.trans (HK.out.below HD.out)
    have HBW := Lib.hid hbw
    obtain ⟨a, rfl, ha, hc⟩ := (HL.out.below HBW.out).at hlt
    have hox := HOK.out _ (List.getElem_mem hlt)
    have HNX := Lib.hid (show (l.take (j + 1)).flatMap labelC.put = (l.take j).flatMap labelC.put ++ labelC.put l[j] by
     rw [List.take_succ_eq_append_getElem hlt, List.flatMap_append]; simp)
    have hpl := flat_put_len labelC.put 2020 (l.take j) (fun y hy => label_put_len (HOK.out y (List.mem_of_mem_take hy)))
    have hpl2 : ((l.take j).flatMap labelC.put).length ≤ 1000 * 2020 := Nat.le_trans hpl (Nat.mul_le_mul_right _ (by rw [List.length_take]; omega))
    obtain ⟨x, hx⟩ : ∃ x, l[j] = x := ⟨_, rfl⟩
    rw [hx] at hc HNX hox
    have HOX := Lib.hid hox
    obtain ⟨p0, p1⟩ := hc
    clear hpl hx hbw hox
    obtain ⟨w3, hw3⟩ : ∃ v, wr.alloc (.cells #[.string x.key, .string x.val] 140) = v := ⟨_, rfl⟩
    have hb3 : Below wr.heap.size wr w3 := by rw [← hw3]; exact (Below.refl _ _).alloc (Nat.le_refl _) _
    have z3 : w3.heap[wr.heap.size]? = some (.cells #[.string x.key, .string x.val] 140 (0, 0)) := by rw [← hw3]; exact heap_alloc_new wr _
    have HW3 := Lib.hid (show Wr w3 g D c (addB c xs (leb l.length ++ (l.take j).flatMap labelC.put)) by rw [← hw3]; exact (HW.out.alloc _).less (fun k hk => .inl hk))
    have HK3 := Lib.hid (show Kept D w w3 from HK.out.trans (Kept.of_below hb3 (fun k hk => (HW.out.1 k hk).1)))
    have HB3 := Lib.hid (show Below w0.heap.size w0 w3 from HBW.out.trans (hb3.mono HBW.out.size))
    have y0 : w3.cell? ⟨wr.heap.size, 0, none⟩ = some (.string x.key) := by simp [World.cell?, z3]
    have y1 : w3.cell? ⟨wr.heap.size, 1, none⟩ = some (.string x.val) := by simp [World.cell?, z3]
    clear z3 hb3
    have HRUN := Lib.hid (label_wr g D c (addB c xs (leb l.length ++ (l.take j).flatMap labelC.put)) x HOX.out.1 HOX.out.2 (by have := addB_len c xs (leb l.length ++ (l.take j).flatMap labelC.put); simp only [List.length_append] at this; omega) w3 HW3.out)
    go_wp2_with fail
    refine HRUN.out.mono ?_
    rintro e w5 ⟨rfl, h5, k5⟩
    rw [addB_two, List.append_assoc, ← HNX.out] at h5
    have HW5 := Lib.hid h5
    have HK5 := Lib.hid (HK3.out.trans k5)
    clear h5 k5 HRUN
    go_wp2
    go_roundw
    case rel => exact ⟨j + 1, by omega, by go_num, HW5.out, HK5.out⟩
    case measure => simp [RowKit.intOf]; omega
  · obtain rfl : j = l.length := by omega
    have hlt' : ¬ (l.length : Int) < (l.length : Int) := by omega
    go_wp2
    go_end0
    refine ⟨rfl, ?_, HK.out⟩
    have hw := HW.out
    rw [List.take_length] at hw
    exact hw
set_option maxRecDepth 100000 in
set_option maxHeartbeats 1000000 in
theorem ports_wr (g : Nat) (D : Nat → Prop) (c : Int) (xs : List UInt8) (A : Option Addr) (cap : Nat) (l : List Int) (hn : l.length ≤ 1000) (hok : ∀ x ∈ l, portC.ok x) (hz : xs.length + 10000000 ≤ 140737488355328) (w0 w : World) (hb : Below w0.heap.size w0 w) (hD : ∀ k, k < w0.heap.size → D k) (hL : Lists.Nums .i64 w0 A l) (h : Wr w g D c xs) :
 Calls Tryz.prog 173 #[.pointer (some ⟨g, 0, none⟩), .slice A l.length cap, .func (.func 174) #[] #[]] w fun e w' => e = .returned (.tuple #[]) ∧ Wr w' g D c (addB c xs (listP portC.put l)) ∧ Kept D w w' := by
 have HOK := Lib.hid hok
 have HL := Lib.hid hL
 have HB := Lib.hid hb
 have HD := Lib.hid hD
 have hn' : (l.length : Int) ≤ 1000 := by omega
 have hle : (leb l.length).length ≤ 10 := leb_le_ten (by omega)
 have HRUN := Lib.hid (num_nat g D c xs l.length (by unfold maxLen; omega) (fun _ => by omega) w h)
 clear h hok hL hb hD
 go_enter Tryz.func173, Tryz.ntmps173
 go_wp2_with fail
 refine HRUN.out.mono ?_
 rintro e w1 ⟨rfl, h1, k1⟩
 have H1 := Lib.hid (show Wr w1 g D c (addB c xs (leb l.length ++ (l.take 0).flatMap portC.put)) by simpa using h1)
 have K1 := Lib.hid k1
 clear h1 k1 HRUN
 go_wp2_with fail
 go_loopw [14] (fun i wr => ∃ j : Nat, j ≤ l.length ∧ i = .int .i64 j ∧ Hid (Wr wr g D c (addB c xs (leb l.length ++ (l.take j).flatMap portC.put))) ∧ Hid (Kept D w wr)) (fun i _ => l.length - (RowKit.intOf i).toNat)
 case atStart => exact ⟨0, Nat.zero_le _, rfl, H1.out, K1.out⟩
 case round =>
  obtain ⟨j, hj, rfl, HW, HK⟩ := hrel
  by_cases hlt : j < l.length
  · have hlt' : (j : Int) < (l.length : Int) := by omega
    have hbw : Below w0.heap.size w0 wr := HB.out.trans (HK.out.below HD.out)
    have HBW := Lib.hid hbw
    obtain ⟨_, a, rfl, ha, hc⟩ := (Sd.Nums.below HL.out HBW.out) j _ (List.getElem?_eq_getElem hlt)
    have hox := HOK.out _ (List.getElem_mem hlt)
    have HNX := Lib.hid (show (l.take (j + 1)).flatMap portC.put = (l.take j).flatMap portC.put ++ portC.put l[j] by
     rw [List.take_succ_eq_append_getElem hlt, List.flatMap_append]; simp)
    have hpl := flat_put_len portC.put 10 (l.take j) (fun y hy => port_put_len (HOK.out y (List.mem_of_mem_take hy)))
    have hpl2 : ((l.take j).flatMap portC.put).length ≤ 1000 * 10 := Nat.le_trans hpl (Nat.mul_le_mul_right _ (by rw [List.length_take]; omega))
    obtain ⟨x, hx⟩ : ∃ x, l[j] = x := ⟨_, rfl⟩
    rw [hx] at hc HNX hox
    have HOX := Lib.hid hox
    clear hpl hx hbw hox
    have HRUN := Lib.hid (port_wr g D c (addB c xs (leb l.length ++ (l.take j).flatMap portC.put)) x HOX.out (by have := addB_len c xs (leb l.length ++ (l.take j).flatMap portC.put); simp only [List.length_append] at this; omega) wr HW.out)
    go_wp2_with fail
    refine HRUN.out.mono ?_
    rintro e w5 ⟨rfl, h5, k5⟩
    rw [addB_two, List.append_assoc, ← HNX.out] at h5
    have HW5 := Lib.hid h5
    have HK5 := Lib.hid (HK.out.trans k5)
    clear h5 k5 HRUN
    go_wp2
    go_roundw
    case rel => exact ⟨j + 1, by omega, by go_num, HW5.out, HK5.out⟩
    case measure => simp [RowKit.intOf]; omega
  · obtain rfl : j = l.length := by omega
    have hlt' : ¬ (l.length : Int) < (l.length : Int) := by omega
    go_wp2
    go_end0
    refine ⟨rfl, ?_, HK.out⟩
    have hw := HW.out
    rw [List.take_length] at hw
    exact hw
set_option maxRecDepth 100000 in
set_option maxHeartbeats 2000000 in
theorem ctr_wr (g : Nat) (D : Nat → Prop) (c : Int) (xs : List UInt8) (x : Ctr) (P : Option Addr) (pc : Nat) (hok : ctrC.ok x) (hz : xs.length + 20000000 ≤ 140737488355328) (w0 w : World) (hb : Below w0.heap.size w0 w) (hD : ∀ k, k < w0.heap.size → D k) (hP : Lists.Nums .i64 w0 P x.ports) (h : Wr w g D c xs) :
 Calls Tryz.prog 137 #[.pointer (some ⟨g, 0, none⟩), .agg #[.string x.name, .string x.image, .int .i64 x.rc, .int .i64 x.rm, .int .i64 x.rp, .int .i64 x.lc, .int .i64 x.lm, .int .i64 x.lp, .slice P x.ports.length pc, .int .i64 x.ev, .int .i64 x.fl]] w fun e w' => e = .returned (.tuple #[]) ∧ Wr w' g D c (addB c xs (ctrC.put x)) ∧ Kept D w w' := by
 obtain ⟨⟨o1, o2, o3, o4, ⟨o5a, o5⟩, o6, o7⟩, _⟩ := hok
 have n5 : x.ports.length ≤ 3 := o5a
 have n1 : x.name.size ≤ 16 := o1
 have n2 : x.image.size ≤ 33 := o2
 have l1 := txB_le (s := x.name) (by omega)
 have l2 := txB_le (s := x.image) (by omega)
 have l3 : (resC.put (x.rc, x.rm, x.rp)).length ≤ 30 := res_put_len o3
 have l4 : (resC.put (x.lc, x.lm, x.lp)).length ≤ 30 := res_put_len o4
 have l5 : (portsC.put x.ports).length ≤ 40 := ports_put_len n5 o5
 have l6 : ((intC 1000 (by decide)).put x.ev).length ≤ 10 := int_put_len o6
 have l7 : ((intC 10 (by decide)).put x.fl).length ≤ 10 := int_put_len o7
 have O3 := Lib.hid o3
 have O4 := Lib.hid o4
 have O5 := Lib.hid o5
 have O6 := Lib.hid o6
 have O7 := Lib.hid o7
 have HP := Lib.hid hP
 have HB := Lib.hid hb
 have HD := Lib.hid hD
 clear o1 o2 o3 o4 o5a o5 o6 o7 hP hb hD
 obtain ⟨w1, hw1⟩ : ∃ v, w.alloc (.cells #[.string x.name, .string x.image, .int .i64 x.rc, .int .i64 x.rm, .int .i64 x.rp, .int .i64 x.lc, .int .i64 x.lm, .int .i64 x.lp, .slice P x.ports.length pc, .int .i64 x.ev, .int .i64 x.fl] 74) = v := ⟨_, rfl⟩
 have hb1 : Below w.heap.size w w1 := by rw [← hw1]; exact (Below.refl _ _).alloc (Nat.le_refl _) _
 have z1 : w1.heap[w.heap.size]? = some (.cells #[.string x.name, .string x.image, .int .i64 x.rc, .int .i64 x.rm, .int .i64 x.rp, .int .i64 x.lc, .int .i64 x.lm, .int .i64 x.lp, .slice P x.ports.length pc, .int .i64 x.ev, .int .i64 x.fl] 74 (0, 0)) := by rw [← hw1]; exact heap_alloc_new w _
 have H1 := Lib.hid (show Wr w1 g (fun k => D k ∨ k = w.heap.size) c xs by rw [← hw1]; exact h.alloc _)
 have K1 := Lib.hid (Kept.refl (fun k => D k ∨ k = w.heap.size) w1)
 have KB := Lib.hid (show Kept D w w1 from Kept.of_below hb1 (fun k hk => (h.1 k hk).1))
 have Z1 := Lib.hid z1
 have HB1 := Lib.hid (show Below w0.heap.size w0 w1 from HB.out.trans (hb1.mono HB.out.size))
 clear h z1 hb1
 go_enter Tryz.func137, Tryz.ntmps137
 have b1_0 : w1.cell? ⟨w.heap.size, 0, none⟩ = some (.string x.name) := by simp [World.cell?, Z1.out]
 go_wp2_with fail
 refine (text_any g (fun k => D k ∨ k = w.heap.size) c xs x.name (by omega) w1 H1.out).mono ?_
 rintro e w2 ⟨rfl, h2, k2⟩
 have H2 := Lib.hid (show Wr w2 g (fun k => D k ∨ k = w.heap.size) c (addB c xs (txB x.name)) from by first | exact h2 | (simp only [List.append_assoc] at h2 ⊢; exact h2))
 have K2 := Lib.hid (K1.out.trans k2)
 have z2 := (k2.block w.heap.size (.inr rfl)).trans Z1.out
 have Z2 := Lib.hid z2
 clear h2 k2 z2 b1_0
 have b2_1 : w2.cell? ⟨w.heap.size, 1, none⟩ = some (.string x.image) := by simp [World.cell?, Z2.out]
 go_wp2_with fail
 refine (text_any g (fun k => D k ∨ k = w.heap.size) c (addB c xs (txB x.name)) x.image (by have := addB_len c xs (txB x.name); (try simp only [List.length_append] at this); omega) w2 H2.out).mono ?_
 rintro e w3 ⟨rfl, h3, k3⟩
 rw [addB_two] at h3
 have H3 := Lib.hid (show Wr w3 g (fun k => D k ∨ k = w.heap.size) c (addB c xs (txB x.name ++ txB x.image)) from by first | exact h3 | (simp only [List.append_assoc] at h3 ⊢; exact h3))
 have K3 := Lib.hid (K2.out.trans k3)
 have z3 := (k3.block w.heap.size (.inr rfl)).trans Z2.out
 have Z3 := Lib.hid z3
 clear h3 k3 z3 b2_1
 have b3_2 : w3.cell? ⟨w.heap.size, 2, none⟩ = some (.int .i64 x.rc) := by simp [World.cell?, Z3.out]
 have b3_3 : w3.cell? ⟨w.heap.size, 3, none⟩ = some (.int .i64 x.rm) := by simp [World.cell?, Z3.out]
 have b3_4 : w3.cell? ⟨w.heap.size, 4, none⟩ = some (.int .i64 x.rp) := by simp [World.cell?, Z3.out]
 go_wp2_with fail
 refine (res_wr g (fun k => D k ∨ k = w.heap.size) c (addB c xs (txB x.name ++ txB x.image)) x.rc x.rm x.rp O3.out (by have := addB_len c xs (txB x.name ++ txB x.image); (try simp only [List.length_append] at this); omega) w3 H3.out).mono ?_
 rintro e w4 ⟨rfl, h4, k4⟩
 rw [addB_two] at h4
 have H4 := Lib.hid (show Wr w4 g (fun k => D k ∨ k = w.heap.size) c (addB c xs (txB x.name ++ txB x.image ++ resC.put (x.rc, x.rm, x.rp))) from by first | exact h4 | (simp only [List.append_assoc] at h4 ⊢; exact h4))
 have K4 := Lib.hid (K3.out.trans k4)
 have z4 := (k4.block w.heap.size (.inr rfl)).trans Z3.out
 have Z4 := Lib.hid z4
 clear h4 k4 z4 b3_2 b3_3 b3_4
 have b4_5 : w4.cell? ⟨w.heap.size, 5, none⟩ = some (.int .i64 x.lc) := by simp [World.cell?, Z4.out]
 have b4_6 : w4.cell? ⟨w.heap.size, 6, none⟩ = some (.int .i64 x.lm) := by simp [World.cell?, Z4.out]
 have b4_7 : w4.cell? ⟨w.heap.size, 7, none⟩ = some (.int .i64 x.lp) := by simp [World.cell?, Z4.out]
 go_wp2_with fail
 refine (res_wr g (fun k => D k ∨ k = w.heap.size) c (addB c xs (txB x.name ++ txB x.image ++ resC.put (x.rc, x.rm, x.rp))) x.lc x.lm x.lp O4.out (by have := addB_len c xs (txB x.name ++ txB x.image ++ resC.put (x.rc, x.rm, x.rp)); (try simp only [List.length_append] at this); omega) w4 H4.out).mono ?_
 rintro e w5 ⟨rfl, h5, k5⟩
 rw [addB_two] at h5
 have H5 := Lib.hid (show Wr w5 g (fun k => D k ∨ k = w.heap.size) c (addB c xs (txB x.name ++ txB x.image ++ resC.put (x.rc, x.rm, x.rp) ++ resC.put (x.lc, x.lm, x.lp))) from by first | exact h5 | (simp only [List.append_assoc] at h5 ⊢; exact h5))
 have K5 := Lib.hid (K4.out.trans k5)
 have z5 := (k5.block w.heap.size (.inr rfl)).trans Z4.out
 have Z5 := Lib.hid z5
 clear h5 k5 z5 b4_5 b4_6 b4_7
 have b5_8 : w5.cell? ⟨w.heap.size, 8, none⟩ = some (.slice P x.ports.length pc) := by simp [World.cell?, Z5.out]
 go_wp2_with fail
 refine (ports_wr g (fun k => D k ∨ k = w.heap.size) c (addB c xs (txB x.name ++ txB x.image ++ resC.put (x.rc, x.rm, x.rp) ++ resC.put (x.lc, x.lm, x.lp))) P pc x.ports (by omega) O5.out (by have := addB_len c xs (txB x.name ++ txB x.image ++ resC.put (x.rc, x.rm, x.rp) ++ resC.put (x.lc, x.lm, x.lp)); (try simp only [List.length_append] at this); omega) w0 w5 (HB1.out.trans (K5.out.below (fun k hk => .inl (HD.out k hk)))) (fun k hk => .inl (HD.out k hk)) HP.out H5.out).mono ?_
 rintro e w6 ⟨rfl, h6, k6⟩
 rw [addB_two] at h6
 have H6 := Lib.hid (show Wr w6 g (fun k => D k ∨ k = w.heap.size) c (addB c xs (txB x.name ++ txB x.image ++ resC.put (x.rc, x.rm, x.rp) ++ resC.put (x.lc, x.lm, x.lp) ++ portsC.put x.ports)) from by first | exact h6 | (simp only [List.append_assoc] at h6 ⊢; exact h6))
 have K6 := Lib.hid (K5.out.trans k6)
 have z6 := (k6.block w.heap.size (.inr rfl)).trans Z5.out
 have Z6 := Lib.hid z6
 clear h6 k6 z6 b5_8
 have b6_9 : w6.cell? ⟨w.heap.size, 9, none⟩ = some (.int .i64 x.ev) := by simp [World.cell?, Z6.out]
 go_wp2_with fail
 refine (num_wr g (fun k => D k ∨ k = w.heap.size) c (addB c xs (txB x.name ++ txB x.image ++ resC.put (x.rc, x.rm, x.rp) ++ resC.put (x.lc, x.lm, x.lp) ++ portsC.put x.ports)) x.ev 1000 (by decide) O6.out (by have := addB_len c xs (txB x.name ++ txB x.image ++ resC.put (x.rc, x.rm, x.rp) ++ resC.put (x.lc, x.lm, x.lp) ++ portsC.put x.ports); (try simp only [List.length_append] at this); omega) w6 H6.out).mono ?_
 rintro e w7 ⟨rfl, h7, k7⟩
 rw [addB_two] at h7
 have H7 := Lib.hid (show Wr w7 g (fun k => D k ∨ k = w.heap.size) c (addB c xs (txB x.name ++ txB x.image ++ resC.put (x.rc, x.rm, x.rp) ++ resC.put (x.lc, x.lm, x.lp) ++ portsC.put x.ports ++ (intC 1000 (by decide)).put x.ev)) from by first | exact h7 | (simp only [List.append_assoc] at h7 ⊢; exact h7))
 have K7 := Lib.hid (K6.out.trans k7)
 have z7 := (k7.block w.heap.size (.inr rfl)).trans Z6.out
 have Z7 := Lib.hid z7
 clear h7 k7 z7 b6_9
 have b7_10 : w7.cell? ⟨w.heap.size, 10, none⟩ = some (.int .i64 x.fl) := by simp [World.cell?, Z7.out]
 go_wp2_with fail
 refine (num_wr g (fun k => D k ∨ k = w.heap.size) c (addB c xs (txB x.name ++ txB x.image ++ resC.put (x.rc, x.rm, x.rp) ++ resC.put (x.lc, x.lm, x.lp) ++ portsC.put x.ports ++ (intC 1000 (by decide)).put x.ev)) x.fl 10 (by decide) O7.out (by have := addB_len c xs (txB x.name ++ txB x.image ++ resC.put (x.rc, x.rm, x.rp) ++ resC.put (x.lc, x.lm, x.lp) ++ portsC.put x.ports ++ (intC 1000 (by decide)).put x.ev); (try simp only [List.length_append] at this); omega) w7 H7.out).mono ?_
 rintro e w8 ⟨rfl, h8, k8⟩
 rw [addB_two] at h8
 have H8 := Lib.hid (show Wr w8 g (fun k => D k ∨ k = w.heap.size) c (addB c xs (txB x.name ++ txB x.image ++ resC.put (x.rc, x.rm, x.rp) ++ resC.put (x.lc, x.lm, x.lp) ++ portsC.put x.ports ++ (intC 1000 (by decide)).put x.ev ++ (intC 10 (by decide)).put x.fl)) from by first | exact h8 | (simp only [List.append_assoc] at h8 ⊢; exact h8))
 have K8 := Lib.hid (K7.out.trans k8)
 have z8 := (k8.block w.heap.size (.inr rfl)).trans Z7.out
 have Z8 := Lib.hid z8
 clear h8 k8 z8 b7_10
 go_wp2
 go_end0
 refine ⟨rfl, ?_, KB.out.trans (K8.out.mono (fun k hk => .inl hk))⟩
 have hfin := H8.out.less (D' := D) (fun k hk => .inl hk)
 rw [ctr_put_eq, ← List.append_assoc, ← List.append_assoc, ← List.append_assoc, ← List.append_assoc, ← List.append_assoc]
 exact hfin
set_option maxRecDepth 100000 in
set_option maxHeartbeats 1000000 in
theorem ctrs_wr (g : Nat) (D : Nat → Prop) (c : Int) (xs : List UInt8) (A : Option Addr) (cap : Nat) (l : List Ctr) (hn : l.length ≤ 1000) (hok : ∀ x ∈ l, ctrC.ok x) (hz : xs.length + 30000000 ≤ 140737488355328) (w0 w : World) (hb : Below w0.heap.size w0 w) (hD : ∀ k, k < w0.heap.size → D k) (hL : Ctrs w0 A l) (h : Wr w g D c xs) :
 Calls Tryz.prog 136 #[.pointer (some ⟨g, 0, none⟩), .slice A l.length cap, .func (.func 137) #[] #[]] w fun e w' => e = .returned (.tuple #[]) ∧ Wr w' g D c (addB c xs (listP ctrC.put l)) ∧ Kept D w w' := by
 have HOK := Lib.hid hok
 have HL := Lib.hid hL
 have HB := Lib.hid hb
 have HD := Lib.hid hD
 have hn' : (l.length : Int) ≤ 1000 := by omega
 have hle : (leb l.length).length ≤ 10 := leb_le_ten (by omega)
 have HRUN := Lib.hid (num_nat g D c xs l.length (by unfold maxLen; omega) (fun _ => by omega) w h)
 clear h hok hL hb hD
 go_enter Tryz.func136, Tryz.ntmps136
 go_wp2_with fail
 refine HRUN.out.mono ?_
 rintro e w1 ⟨rfl, h1, k1⟩
 have H1 := Lib.hid (show Wr w1 g D c (addB c xs (leb l.length ++ (l.take 0).flatMap ctrC.put)) by simpa using h1)
 have K1 := Lib.hid k1
 clear h1 k1 HRUN
 go_wp2_with fail
 go_loopw [14] (fun i wr => ∃ j : Nat, j ≤ l.length ∧ i = .int .i64 j ∧ Hid (Wr wr g D c (addB c xs (leb l.length ++ (l.take j).flatMap ctrC.put))) ∧ Hid (Kept D w wr)) (fun i _ => l.length - (RowKit.intOf i).toNat)
 case atStart => exact ⟨0, Nat.zero_le _, rfl, H1.out, K1.out⟩
 case round =>
  obtain ⟨j, hj, rfl, HW, HK⟩ := hrel
  by_cases hlt : j < l.length
  · have hlt' : (j : Int) < (l.length : Int) := by omega
    have hbw : Below w0.heap.size w0 wr := HB.out.trans (HK.out.below HD.out)
    have HBW := Lib.hid hbw
    obtain ⟨_, a, P, pc, rfl, ha, hc0, hnp⟩ := HL.out.at hlt
    have hc := hc0.keep (w' := wr) (by rw [Lists.add_block]; exact HBW.out.block _ ha)
    have hox := HOK.out _ (List.getElem_mem hlt)
    have HNX := Lib.hid (show (l.take (j + 1)).flatMap ctrC.put = (l.take j).flatMap ctrC.put ++ ctrC.put l[j] by
     rw [List.take_succ_eq_append_getElem hlt, List.flatMap_append]; simp)
    have hpl := flat_put_len ctrC.put 300 (l.take j) (fun y hy => ctr_put_len (HOK.out y (List.mem_of_mem_take hy)))
    have hpl2 : ((l.take j).flatMap ctrC.put).length ≤ 1000 * 300 := Nat.le_trans hpl (Nat.mul_le_mul_right _ (by rw [List.length_take]; omega))
    obtain ⟨x, hx⟩ : ∃ x, l[j] = x := ⟨_, rfl⟩
    rw [hx] at hc hnp HNX hox
    have HOX := Lib.hid hox
    have HNP := Lib.hid hnp
    obtain ⟨p0, p1, p2, p3, p4, p5, p6, p7, p8, p9, p10, _⟩ := hc
    clear hpl hx hbw hox hnp hc0
    obtain ⟨w3, hw3⟩ : ∃ v, wr.alloc (.cells #[.string x.name, .string x.image, .int .i64 x.rc, .int .i64 x.rm, .int .i64 x.rp, .int .i64 x.lc, .int .i64 x.lm, .int .i64 x.lp, .slice P x.ports.length pc, .int .i64 x.ev, .int .i64 x.fl] 74) = v := ⟨_, rfl⟩
    have hb3 : Below wr.heap.size wr w3 := by rw [← hw3]; exact (Below.refl _ _).alloc (Nat.le_refl _) _
    have z3 : w3.heap[wr.heap.size]? = some (.cells #[.string x.name, .string x.image, .int .i64 x.rc, .int .i64 x.rm, .int .i64 x.rp, .int .i64 x.lc, .int .i64 x.lm, .int .i64 x.lp, .slice P x.ports.length pc, .int .i64 x.ev, .int .i64 x.fl] 74 (0, 0)) := by rw [← hw3]; exact heap_alloc_new wr _
    have HW3 := Lib.hid (show Wr w3 g D c (addB c xs (leb l.length ++ (l.take j).flatMap ctrC.put)) by rw [← hw3]; exact (HW.out.alloc _).less (fun k hk => .inl hk))
    have HK3 := Lib.hid (show Kept D w w3 from HK.out.trans (Kept.of_below hb3 (fun k hk => (HW.out.1 k hk).1)))
    have HB3 := Lib.hid (show Below w0.heap.size w0 w3 from HBW.out.trans (hb3.mono HBW.out.size))
    have y0 : w3.cell? ⟨wr.heap.size, 0, none⟩ = some (.string x.name) := by simp [World.cell?, z3]
    have y1 : w3.cell? ⟨wr.heap.size, 1, none⟩ = some (.string x.image) := by simp [World.cell?, z3]
    have y2 : w3.cell? ⟨wr.heap.size, 2, none⟩ = some (.int .i64 x.rc) := by simp [World.cell?, z3]
    have y3 : w3.cell? ⟨wr.heap.size, 3, none⟩ = some (.int .i64 x.rm) := by simp [World.cell?, z3]
    have y4 : w3.cell? ⟨wr.heap.size, 4, none⟩ = some (.int .i64 x.rp) := by simp [World.cell?, z3]
    have y5 : w3.cell? ⟨wr.heap.size, 5, none⟩ = some (.int .i64 x.lc) := by simp [World.cell?, z3]
    have y6 : w3.cell? ⟨wr.heap.size, 6, none⟩ = some (.int .i64 x.lm) := by simp [World.cell?, z3]
    have y7 : w3.cell? ⟨wr.heap.size, 7, none⟩ = some (.int .i64 x.lp) := by simp [World.cell?, z3]
    have y8 : w3.cell? ⟨wr.heap.size, 8, none⟩ = some (.slice P x.ports.length pc) := by simp [World.cell?, z3]
    have y9 : w3.cell? ⟨wr.heap.size, 9, none⟩ = some (.int .i64 x.ev) := by simp [World.cell?, z3]
    have y10 : w3.cell? ⟨wr.heap.size, 10, none⟩ = some (.int .i64 x.fl) := by simp [World.cell?, z3]
    clear z3 hb3
    have HRUN := Lib.hid (ctr_wr g D c (addB c xs (leb l.length ++ (l.take j).flatMap ctrC.put)) x P pc HOX.out (by have := addB_len c xs (leb l.length ++ (l.take j).flatMap ctrC.put); simp only [List.length_append] at this; omega) w0 w3 HB3.out HD.out HNP.out HW3.out)
    go_wp2_with fail
    refine HRUN.out.mono ?_
    rintro e w5 ⟨rfl, h5, k5⟩
    rw [addB_two, List.append_assoc, ← HNX.out] at h5
    have HW5 := Lib.hid h5
    have HK5 := Lib.hid (HK3.out.trans k5)
    clear h5 k5 HRUN
    go_wp2
    go_roundw
    case rel => exact ⟨j + 1, by omega, by go_num, HW5.out, HK5.out⟩
    case measure => simp [RowKit.intOf]; omega
  · obtain rfl : j = l.length := by omega
    have hlt' : ¬ (l.length : Int) < (l.length : Int) := by omega
    go_wp2
    go_end0
    refine ⟨rfl, ?_, HK.out⟩
    have hw := HW.out
    rw [List.take_length] at hw
    exact hw
end Pk
end Go.Proofs.YtljbpelogjmciaaGreatDoor
set_option linter.unusedVariables false
set_option linter.unusedSimpArgs false
namespace Go.Proofs.YtljbpelogjmciaaGreatDoor
open Go.ChangeShapes Go.WideShapes Go.ChangeAt Go.RowKit Go.Lib
open LebMath WirePure Sd Wire SpecOwn SpecRef
namespace Pk
theorem spec_put_eq (S : Spc) : specC.put S = txB S.name ++ (labelsC.put S.labels ++ (initC.put S.init ++ (mainC.put S.main ++ ((intC 3 (by decide)).put S.restart ++ ((intC 1000 (by decide)).put S.grace ++ (intC 10 (by decide)).put S.prio))))) := rfl
theorem labels_put_len {l : List Lbl} (hn : l.length ≤ 1000) (h : ∀ x ∈ l, x.key.size ≤ 1000 ∧ x.val.size ≤ 1000) : (labelsC.put l).length ≤ 10 + 1000 * 2020 := by
 have h1 := flat_put_len labelC.put 2020 l (fun x hx => label_put_len (h x hx))
 have h2 := leb_le_ten (n := l.length) (by omega)
 have h3 := Nat.mul_le_mul_right 2020 hn
 show (leb l.length ++ l.flatMap labelC.put).length ≤ _
 rw [List.length_append]
 omega
theorem ctrs_put_len {l : List Ctr} (hn : l.length ≤ 4) (h : ∀ x ∈ l, ctrC.ok x) : (listP ctrC.put l).length ≤ 2000 := by
 have h1 := flat_put_len ctrC.put 300 l (fun x hx => ctr_put_len (h x hx))
 have h2 := leb_le_ten (n := l.length) (by omega)
 show (leb l.length ++ l.flatMap ctrC.put).length ≤ _
 rw [List.length_append]
 omega
set_option maxRecDepth 20000 in
theorem putLabels_wr (g : Nat) (D : Nat → Prop) (c : Int) (xs : List UInt8) (A : Option Addr) (cap : Nat) (l : List Lbl) (hn : l.length ≤ 1000) (hok : ∀ x ∈ l, (x.key.size ≤ 1000 ∧ x.val.size ≤ 1000)) (hz : xs.length + 10000000 ≤ 140737488355328) (w0 w : World) (hb : Below w0.heap.size w0 w) (hD : ∀ k, k < w0.heap.size → D k) (hL : Lbls w0 A l) (h : Wr w g D c xs) :
 Calls Tryz.prog 135 #[.pointer (some ⟨g, 0, none⟩), .slice A l.length cap] w fun e w' => e = .returned (.tuple #[]) ∧ Wr w' g D c (addB c xs (labelsC.put l)) ∧ Kept D w w' := by
 have HRUN := Lib.hid (labels_wr g D c xs A cap l hn hok hz w0 w hb hD hL h)
 clear h hok hL hb hD
 go_enter Tryz.func135, Tryz.ntmps135
 go_wp2_with fail
 refine HRUN.out.mono ?_
 rintro e w1 ⟨rfl, h1, k1⟩
 have H1 := Lib.hid h1
 have K1 := Lib.hid k1
 clear h1 k1
 go_wp2
 go_end0
 exact ⟨rfl, H1.out, K1.out⟩
set_option maxRecDepth 100000 in
set_option maxHeartbeats 2000000 in
theorem put_wr (g : Nat) (D : Nat → Prop) (c : Int) (xs : List UInt8) (S : Spc) (LA : Option Addr) (lc : Nat) (IA : Option Addr) (ic : Nat) (MA : Option Addr) (mc : Nat) (hLt : Book.Light S) (hz : xs.length + 100000000 ≤ 140737488355328) (w0 w : World) (hb : Below w0.heap.size w0 w) (hD : ∀ k, k < w0.heap.size → D k) (hS : S.In w0 LA lc IA ic MA mc) (hL : SLaid w) (h : Wr w g D c xs) :
 Calls Tryz.prog 84 #[.pointer (some ⟨g, 0, none⟩), .agg #[.string S.name, .slice LA S.labels.length lc, .slice IA S.init.length ic, .slice MA S.main.length mc, .int .i64 S.restart, .int .i64 S.grace, .int .i64 S.prio]] w fun e w' => e = .returned (.tuple #[]) ∧ Kept D w w' ∧ (((checkV S).1 = 0 ∧ Wr w' g D c (addB c xs (specC.put S))) ∨ ((checkV S).1 ≠ 0 ∧ Wr w' g D (fst c (checkV S).1) xs)) := by
 have HS := Lib.hid hS
 have HB := Lib.hid hb
 have HD := Lib.hid hD
 obtain ⟨w1, hw1⟩ : ∃ v, w.alloc (.cells #[.string S.name, .slice LA S.labels.length lc, .slice IA S.init.length ic, .slice MA S.main.length mc, .int .i64 S.restart, .int .i64 S.grace, .int .i64 S.prio] 28) = v := ⟨_, rfl⟩
 have hb1 : Below w.heap.size w w1 := by rw [← hw1]; exact (Below.refl _ _).alloc (Nat.le_refl _) _
 have SB1 := Lib.hid (show SBox S LA lc IA ic MA mc w1 w.heap.size by rw [← hw1]; exact heap_alloc_new w _)
 have H1 := Lib.hid (show Wr w1 g (fun k => D k ∨ k = w.heap.size) c xs by rw [← hw1]; exact h.alloc _)
 have KB1 := Lib.hid (show Kept D w w1 from Kept.of_below hb1 (fun k hk => (h.1 k hk).1))
 have HL1 := Lib.hid (hL.below hb1)
 have B1 := Lib.hid hb1
 have HB0 := Lib.hid (show Below w0.heap.size w0 w1 from HB.out.trans (hb1.mono HB.out.size))
 have HLT := Lib.hid hLt
 clear h hb1 hL hS hb hD hLt
 go_enter Tryz.func84, Tryz.ntmps84
 obtain ⟨c0, c1, c2, c3, c4, c5, c6⟩ := SB1.out.cells
 go_wp2_with fail
 refine (check_any S LA lc IA ic MA mc HLT.out w1 HL1.out (HS.out.below HB0.out)).mono ?_
 rintro e w2 ⟨E, rfl, hE, hb2⟩
 have HE := Lib.hid hE
 have B2 := Lib.hid hb2
 have HL2 := Lib.hid (HL1.out.below hb2)
 clear hE hb2 c0 c1 c2 c3 c4 c5 c6 hw1
 go_wp2_with fail
 refine (code_says HE.out HL2.out.err).mono ?_
 rintro e w3 ⟨rfl, hb3⟩
 have hb13 : Below w1.heap.size w1 w3 := B2.out.trans (hb3.mono B2.out.size)
 have H3 := Lib.hid (H1.out.below hb13)
 have K3 := Lib.hid (show Kept (fun k => D k ∨ k = w.heap.size) w1 w3 from Kept.of_below hb13 (fun k hk => (H1.out.1 k hk).1))
 have z3 : w3.heap[w.heap.size]? = some (.cells #[.string S.name, .slice LA S.labels.length lc, .slice IA S.init.length ic, .slice MA S.main.length mc, .int .i64 S.restart, .int .i64 S.grace, .int .i64 S.prio] 28 (0, 0)) := SB1.out.below hb13
 have Z3 := Lib.hid z3
 clear hb3 hb13 z3
 by_cases hc : (checkV S).1 = 0
 · have hz' : ((checkV S).1 != 0) = false := by simpa using hc
   have HC := Lib.hid hc
   have hok := spec_ok hc
   obtain ⟨⟨o1, ⟨o2a, o2⟩, ⟨o3a, o3⟩, ⟨o4a, o4⟩, o5, o6, o7⟩, _⟩ := hok
   have n2 : S.labels.length ≤ 4 := o2a
   have n3 : S.init.length ≤ 3 := o3a
   have n4 : S.main.length ≤ 4 := o4a
   have n1 : S.name.size ≤ 16 := o1
   have OL := Lib.hid (show ∀ x ∈ S.labels, x.key.size ≤ 1000 ∧ x.val.size ≤ 1000 from fun x hx => by
    obtain ⟨⟨p1, p2⟩, _⟩ := o2 x hx
    have q1 : x.key.size ≤ 33 := p1
    have q2 : x.val.size ≤ 16 := p2
    omega)
   have OI := Lib.hid (show ∀ x ∈ S.init, ctrC.ok x from o3)
   have OM := Lib.hid (show ∀ x ∈ S.main, ctrC.ok x from o4)
   have O5 := Lib.hid o5
   have O6 := Lib.hid o6
   have O7 := Lib.hid o7
   have l1 : (txB S.name).length ≤ 10 + 16 := txB_le n1
   have l2 := labels_put_len (l := S.labels) (by omega) OL.out
   have l3 : (initC.put S.init).length ≤ 2000 := ctrs_put_len (by omega) OI.out
   have l4 : (mainC.put S.main).length ≤ 2000 := ctrs_put_len n4 OM.out
   have l5 : ((intC 3 (by decide)).put S.restart).length ≤ 10 := int_put_len o5
   have l6 : ((intC 1000 (by decide)).put S.grace).length ≤ 10 := int_put_len o6
   have l7 : ((intC 10 (by decide)).put S.prio).length ≤ 10 := int_put_len o7
   clear hc o1 o2a o2 o3a o3 o4a o4 o5 o6 o7
   have b3_0 : w3.cell? ⟨w.heap.size, 0, none⟩ = some (.string S.name) := by simp [World.cell?, Z3.out]
   go_wp2_with fail
   refine (text_any g (fun k => D k ∨ k = w.heap.size) c xs S.name (by omega) w3 H3.out).mono ?_
   rintro e w4 ⟨rfl, h4, k4⟩
   have H4 := Lib.hid (show Wr w4 g (fun k => D k ∨ k = w.heap.size) c (addB c xs (txB S.name)) from by first | exact h4 | (simp only [List.append_assoc] at h4 ⊢; exact h4))
   have K4 := Lib.hid (K3.out.trans k4)
   have z4 := (k4.block w.heap.size (.inr rfl)).trans Z3.out
   have Z4 := Lib.hid z4
   clear h4 k4 z4 b3_0
   have b4_1 : w4.cell? ⟨w.heap.size, 1, none⟩ = some (.slice LA S.labels.length lc) := by simp [World.cell?, Z4.out]
   go_wp2_with fail
   refine (putLabels_wr g (fun k => D k ∨ k = w.heap.size) c (addB c xs (txB S.name)) LA lc S.labels (by omega) (fun y hy => OL.out y hy) (by have := addB_len c xs (txB S.name); (try simp only [List.length_append] at this); omega) w0 w4 (HB0.out.trans (K4.out.below (fun k hk => .inl (HD.out k hk)))) (fun k hk => .inl (HD.out k hk)) HS.out.labels H4.out).mono ?_
   rintro e w5 ⟨rfl, h5, k5⟩
   rw [addB_two] at h5
   have H5 := Lib.hid (show Wr w5 g (fun k => D k ∨ k = w.heap.size) c (addB c xs (txB S.name ++ labelsC.put S.labels)) from by first | exact h5 | (simp only [List.append_assoc] at h5 ⊢; exact h5))
   have K5 := Lib.hid (K4.out.trans k5)
   have z5 := (k5.block w.heap.size (.inr rfl)).trans Z4.out
   have Z5 := Lib.hid z5
   clear h5 k5 z5 b4_1
   have b5_2 : w5.cell? ⟨w.heap.size, 2, none⟩ = some (.slice IA S.init.length ic) := by simp [World.cell?, Z5.out]
   go_wp2_with fail
   refine (ctrs_wr g (fun k => D k ∨ k = w.heap.size) c (addB c xs (txB S.name ++ labelsC.put S.labels)) IA ic S.init (by omega) OI.out (by have := addB_len c xs (txB S.name ++ labelsC.put S.labels); (try simp only [List.length_append] at this); omega) w0 w5 (HB0.out.trans (K5.out.below (fun k hk => .inl (HD.out k hk)))) (fun k hk => .inl (HD.out k hk)) HS.out.init H5.out).mono ?_
   rintro e w6 ⟨rfl, h6, k6⟩
   rw [addB_two] at h6
   have H6 := Lib.hid (show Wr w6 g (fun k => D k ∨ k = w.heap.size) c (addB c xs (txB S.name ++ labelsC.put S.labels ++ initC.put S.init)) from by first | exact h6 | (simp only [List.append_assoc] at h6 ⊢; exact h6))
   have K6 := Lib.hid (K5.out.trans k6)
   have z6 := (k6.block w.heap.size (.inr rfl)).trans Z5.out
   have Z6 := Lib.hid z6
   clear h6 k6 z6 b5_2
   have b6_3 : w6.cell? ⟨w.heap.size, 3, none⟩ = some (.slice MA S.main.length mc) := by simp [World.cell?, Z6.out]
   go_wp2_with fail
   refine (ctrs_wr g (fun k => D k ∨ k = w.heap.size) c (addB c xs (txB S.name ++ labelsC.put S.labels ++ initC.put S.init)) MA mc S.main (by omega) OM.out (by have := addB_len c xs (txB S.name ++ labelsC.put S.labels ++ initC.put S.init); (try simp only [List.length_append] at this); omega) w0 w6 (HB0.out.trans (K6.out.below (fun k hk => .inl (HD.out k hk)))) (fun k hk => .inl (HD.out k hk)) HS.out.main H6.out).mono ?_
   rintro e w7 ⟨rfl, h7, k7⟩
   rw [addB_two] at h7
   have H7 := Lib.hid (show Wr w7 g (fun k => D k ∨ k = w.heap.size) c (addB c xs (txB S.name ++ labelsC.put S.labels ++ initC.put S.init ++ mainC.put S.main)) from by first | exact h7 | (simp only [List.append_assoc] at h7 ⊢; exact h7))
   have K7 := Lib.hid (K6.out.trans k7)
   have z7 := (k7.block w.heap.size (.inr rfl)).trans Z6.out
   have Z7 := Lib.hid z7
   clear h7 k7 z7 b6_3
   have b7_4 : w7.cell? ⟨w.heap.size, 4, none⟩ = some (.int .i64 S.restart) := by simp [World.cell?, Z7.out]
   go_wp2_with fail
   refine (num_wr g (fun k => D k ∨ k = w.heap.size) c (addB c xs (txB S.name ++ labelsC.put S.labels ++ initC.put S.init ++ mainC.put S.main)) S.restart 3 (by decide) O5.out (by have := addB_len c xs (txB S.name ++ labelsC.put S.labels ++ initC.put S.init ++ mainC.put S.main); (try simp only [List.length_append] at this); omega) w7 H7.out).mono ?_
   rintro e w8 ⟨rfl, h8, k8⟩
   rw [addB_two] at h8
   have H8 := Lib.hid (show Wr w8 g (fun k => D k ∨ k = w.heap.size) c (addB c xs (txB S.name ++ labelsC.put S.labels ++ initC.put S.init ++ mainC.put S.main ++ (intC 3 (by decide)).put S.restart)) from by first | exact h8 | (simp only [List.append_assoc] at h8 ⊢; exact h8))
   have K8 := Lib.hid (K7.out.trans k8)
   have z8 := (k8.block w.heap.size (.inr rfl)).trans Z7.out
   have Z8 := Lib.hid z8
   clear h8 k8 z8 b7_4
   have b8_5 : w8.cell? ⟨w.heap.size, 5, none⟩ = some (.int .i64 S.grace) := by simp [World.cell?, Z8.out]
   go_wp2_with fail
   refine (num_wr g (fun k => D k ∨ k = w.heap.size) c (addB c xs (txB S.name ++ labelsC.put S.labels ++ initC.put S.init ++ mainC.put S.main ++ (intC 3 (by decide)).put S.restart)) S.grace 1000 (by decide) O6.out (by have := addB_len c xs (txB S.name ++ labelsC.put S.labels ++ initC.put S.init ++ mainC.put S.main ++ (intC 3 (by decide)).put S.restart); (try simp only [List.length_append] at this); omega) w8 H8.out).mono ?_
   rintro e w9 ⟨rfl, h9, k9⟩
   rw [addB_two] at h9
   have H9 := Lib.hid (show Wr w9 g (fun k => D k ∨ k = w.heap.size) c (addB c xs (txB S.name ++ labelsC.put S.labels ++ initC.put S.init ++ mainC.put S.main ++ (intC 3 (by decide)).put S.restart ++ (intC 1000 (by decide)).put S.grace)) from by first | exact h9 | (simp only [List.append_assoc] at h9 ⊢; exact h9))
   have K9 := Lib.hid (K8.out.trans k9)
   have z9 := (k9.block w.heap.size (.inr rfl)).trans Z8.out
   have Z9 := Lib.hid z9
   clear h9 k9 z9 b8_5
   have b9_6 : w9.cell? ⟨w.heap.size, 6, none⟩ = some (.int .i64 S.prio) := by simp [World.cell?, Z9.out]
   go_wp2_with fail
   refine (num_wr g (fun k => D k ∨ k = w.heap.size) c (addB c xs (txB S.name ++ labelsC.put S.labels ++ initC.put S.init ++ mainC.put S.main ++ (intC 3 (by decide)).put S.restart ++ (intC 1000 (by decide)).put S.grace)) S.prio 10 (by decide) O7.out (by have := addB_len c xs (txB S.name ++ labelsC.put S.labels ++ initC.put S.init ++ mainC.put S.main ++ (intC 3 (by decide)).put S.restart ++ (intC 1000 (by decide)).put S.grace); (try simp only [List.length_append] at this); omega) w9 H9.out).mono ?_
   rintro e w10 ⟨rfl, h10, k10⟩
   rw [addB_two] at h10
   have H10 := Lib.hid (show Wr w10 g (fun k => D k ∨ k = w.heap.size) c (addB c xs (txB S.name ++ labelsC.put S.labels ++ initC.put S.init ++ mainC.put S.main ++ (intC 3 (by decide)).put S.restart ++ (intC 1000 (by decide)).put S.grace ++ (intC 10 (by decide)).put S.prio)) from by first | exact h10 | (simp only [List.append_assoc] at h10 ⊢; exact h10))
   have K10 := Lib.hid (K9.out.trans k10)
   have z10 := (k10.block w.heap.size (.inr rfl)).trans Z9.out
   have Z10 := Lib.hid z10
   clear h10 k10 z10 b9_6
   go_wp2
   go_end0
   refine ⟨rfl, KB1.out.trans (K10.out.mono (fun k hk => .inl hk)), .inl ⟨HC.out, ?_⟩⟩
   have hfin := H10.out.less (D' := D) (fun k hk => .inl hk)
   rw [spec_put_eq, ← List.append_assoc, ← List.append_assoc, ← List.append_assoc, ← List.append_assoc, ← List.append_assoc]
   exact hfin
 · have hz' : ((checkV S).1 != 0) = true := by simpa using hc
   have HC := Lib.hid hc
   obtain ⟨y, hy⟩ : ∃ y, (checkV S).1 = y := ⟨_, rfl⟩
   rw [hy] at hz' HC ⊢
   have HY := Lib.hid hy
   clear hc hy
   go_wp2_with fail
   refine (wfail_any g (fun k => D k ∨ k = w.heap.size) c y xs w3 H3.out).mono ?_
   rintro e w4 ⟨rfl, h4, k4⟩
   have HF := Lib.hid (h4.less (D' := D) (fun k hk => .inl hk))
   have KF := Lib.hid (KB1.out.trans ((K3.out.trans k4).mono (fun k hk => .inl hk)))
   clear h4 k4
   go_wp2
   first
   | go_end0
   | refine bodyPost_ret (results_none rfl _ _ _) rfl ?_
   exact ⟨rfl, KF.out, .inr ⟨by rw [HY.out]; exact HC.out, by rw [HY.out]; exact HF.out⟩⟩
end Pk
end Go.Proofs.YtljbpelogjmciaaGreatDoor
set_option linter.unusedVariables false
set_option linter.unusedSimpArgs false
namespace Go.Proofs.YtljbpelogjmciaaGreatDoor
open Go.ChangeShapes Go.WideShapes Go.ChangeAt Go.RowKit Go.Lib
open LebMath WirePure Sd Wire SpecOwn SpecRef Book
namespace Pk
theorem spec_put_len {S : Spc} (h : specC.ok S) : (specC.put S).length ≤ 3000000 := by
 obtain ⟨⟨o1, ⟨o2a, o2⟩, ⟨o3a, o3⟩, ⟨o4a, o4⟩, o5, o6, o7⟩, _⟩ := h
 have n1 : S.name.size ≤ 16 := o1
 have n2 : S.labels.length ≤ 4 := o2a
 have n3 : S.init.length ≤ 3 := o3a
 have n4 : S.main.length ≤ 4 := o4a
 have l1 : (txB S.name).length ≤ 10 + 16 := txB_le n1
 have l2 := labels_put_len (l := S.labels) (by omega) (fun x hx => by
  obtain ⟨⟨p1, p2⟩, _⟩ := o2 x hx
  have q1 : x.key.size ≤ 33 := p1
  have q2 : x.val.size ≤ 16 := p2
  omega)
 have l3 : (initC.put S.init).length ≤ 2000 := ctrs_put_len (by omega) o3
 have l4 : (mainC.put S.main).length ≤ 2000 := ctrs_put_len n4 o4
 have l5 : ((intC 3 (by decide)).put S.restart).length ≤ 10 := int_put_len o5
 have l6 : ((intC 1000 (by decide)).put S.grace).length ≤ 10 := int_put_len o6
 have l7 : ((intC 10 (by decide)).put S.prio).length ≤ 10 := int_put_len o7
 rw [spec_put_eq]
 simp only [List.length_append]
 omega
end Pk
end Go.Proofs.YtljbpelogjmciaaGreatDoor
