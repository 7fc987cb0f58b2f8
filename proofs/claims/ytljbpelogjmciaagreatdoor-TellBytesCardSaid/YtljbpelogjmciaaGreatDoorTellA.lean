/-
 What chapter 9 says, in plain functions: pods, replies, events, messages; which may be, their bytes, how they are read; there and back, just the bytes. No condition. And what follows of it, part by part, each with its conditions.
-/
import Derived.Test.YtljbpelogjmciaaGreatDoorPackAll
import Derived.Test.YtljbpelogjmciaaGreatDoorSpecDataAll
import Derived.Test.YtljbpelogjmciaaGreatDoorSpecSameAll
import Derived.Test.YtljbpelogjmciaaGreatDoorSpecMine
import Derived.Deep.MidRow
set_option linter.unusedVariables false
set_option linter.unusedSimpArgs false
namespace Go.Proofs.YtljbpelogjmciaaGreatDoor.Tl
open WirePure LebMath Sd TextPure Pk SpecOwn SpecRef Book
structure Pd where
 uid : Int
 rev : Nat
 spec : Spc
 phase : Int
 rs : List Int
 mark : Int
 grace : Int
structure Rp where
 code : Int
 uid : Int
 id : Int
 rev : Nat
 data : ByteArray
 pods : List Pd
 use : List (Int × Int × Int)
structure Ev where
 kind : Int
 rev : Nat
 pod : Pd
structure Mg where
 kind : Int
 num : Int
 reply : Rp
 event : Ev
def zeroS : Spc := ⟨⟨#[]⟩, [], [], [], 0, 0, 0⟩
def zeroP : Pd := ⟨0, 0, zeroS, 0, [], 0, 0⟩
def zeroR : Rp := ⟨0, 0, 0, 0, ⟨#[]⟩, [], []⟩
def zeroE : Ev := ⟨0, 0, zeroP⟩
def zeroM : Mg := ⟨0, 0, zeroR, zeroE⟩
def inB (n a b : Int) : Bool := decide (a ≤ n) && decide (n ≤ b)
def restB (n : Int) : Bool := inB n 0 1073741824
def useB (u : Int × Int × Int) : Bool := inB u.1 0 1099511627776 && inB u.2.1 0 1099511627776 && inB u.2.2 0 1099511627776
def podB (p : Pd) : Bool := inB p.uid 1 1073741824 && decide ((checkV p.spec).1 = 0) && inB p.phase 1 4 && decide (p.rs.length = p.spec.main.length) && p.rs.all restB && inB p.mark 0 2 && inB p.grace 0 1000
def noPodB (p : Pd) : Bool := p.uid == 0 && p.rev == 0 && sameS p.spec zeroS && p.phase == 0 && decide (p.rs.length = 0) && p.mark == 0 && p.grace == 0
def noReplyB (y : Rp) : Bool := y.code == 0 && y.uid == 0 && y.id == 0 && y.rev == 0 && decide (y.data = ⟨#[]⟩) && decide (y.pods.length = 0) && decide (y.use.length = 0)
def noEventB (e : Ev) : Bool := e.kind == 0 && e.rev == 0 && noPodB e.pod
def replyB (y : Rp) : Bool := inB y.code 0 999 && inB y.uid 0 1073741824 && inB y.id 0 1073741824 && decide (y.data.size ≤ 32) && decide (y.pods.length ≤ 16) && y.pods.all podB && decide (y.use.length ≤ 4) && y.use.all useB
def hasB (k : Int) : Bool := inB k 1 3
def noneB (k : Int) : Bool := inB k 4 5
def eventB (e : Ev) : Bool := hasB e.kind && podB e.pod || noneB e.kind && noPodB e.pod
def msgB (m : Mg) : Bool := inB m.num 1 1073741824 && (if m.kind = 1 then noEventB m.event && replyB m.reply else if m.kind = 2 then noReplyB m.reply && eventB m.event else false)
theorem inB_iff {n a b : Int} : inB n a b = true ↔ a ≤ n ∧ n ≤ b := by unfold inB; simp
theorem noPod_iff (p : Pd) : noPodB p = true ↔ p = zeroP := by
 unfold noPodB
 simp only [Bool.and_eq_true, beq_iff_eq, sameS_iff, decide_eq_true_eq, List.length_eq_zero_iff]
 constructor
 · rintro ⟨⟨⟨⟨⟨⟨h0, h1⟩, h2⟩, h3⟩, h4⟩, h5⟩, h6⟩
   obtain ⟨a0, a1, a2, a3, a4, a5, a6⟩ := p
   simp only at h0 h1 h2 h3 h4 h5 h6
   subst h0 h1 h2 h3 h4 h5 h6
   rfl
 · rintro rfl
   exact ⟨⟨⟨⟨⟨⟨rfl, rfl⟩, rfl⟩, rfl⟩, rfl⟩, rfl⟩, rfl⟩
theorem noEvent_iff (e : Ev) : noEventB e = true ↔ e = zeroE := by
 unfold noEventB
 simp only [Bool.and_eq_true, beq_iff_eq, noPod_iff]
 constructor
 · rintro ⟨⟨h0, h1⟩, h2⟩
   obtain ⟨a0, a1, a2⟩ := e
   simp only at h0 h1 h2
   subst h0 h1 h2
   rfl
 · rintro rfl
   exact ⟨⟨rfl, rfl⟩, rfl⟩
theorem noReply_iff (y : Rp) : noReplyB y = true ↔ y = zeroR := by
 unfold noReplyB
 simp only [Bool.and_eq_true, beq_iff_eq, decide_eq_true_eq, List.length_eq_zero_iff]
 constructor
 · rintro ⟨⟨⟨⟨⟨⟨h0, h1⟩, h2⟩, h3⟩, h4⟩, h5⟩, h6⟩
   obtain ⟨a0, a1, a2, a3, a4, a5, a6⟩ := y
   simp only at h0 h1 h2 h3 h4 h5 h6
   subst h0 h1 h2 h3 h4 h5 h6
   rfl
 · rintro rfl
   exact ⟨⟨⟨⟨⟨⟨rfl, rfl⟩, rfl⟩, rfl⟩, rfl⟩, rfl⟩, rfl⟩
def depR {α β : Type} (f : Rdr α) (g : α → Rdr β) : Rdr (α × β) := fun c l => (((f c l).1, (g (f c l).1 (f c l).2.1 (f c l).2.2).1), (g (f c l).1 (f c l).2.1 (f c l).2.2).2)
theorem dep_zero {α β : Type} {f : Rdr α} {g : α → Rdr β} (hg : ∀ x c l, c ≠ 0 → (g x c l).2 = (c, l)) {c : Int} {l : List UInt8} (h : ((depR f g) c l).2.1 = 0) : (f c l).2.1 = 0 := by
 by_cases h0 : (f c l).2.1 = 0
 · exact h0
 · have := hg (f c l).1 (f c l).2.1 (f c l).2.2 h0
   unfold depR at h
   rw [this] at h
   exact absurd h h0
def depC {α β : Type} (A : Codec α) (B : α → Codec β) : Codec (α × β) where
 rd := depR A.rd (fun x => (B x).rd)
 put := fun x => A.put x.1 ++ (B x.1).put x.2
 ok := fun x => A.ok x.1 ∧ (B x.1).ok x.2
 keeps := fun c l h => by
  have h1 := A.keeps c l h
  show ((B (A.rd c l).1).rd (A.rd c l).2.1 (A.rd c l).2.2).2 = _
  rw [h1]
  exact (B _).keeps c l h
 len := fun c l => Nat.le_trans ((B _).len _ _) (A.len c l)
 canon := fun l h => by
  have h0 := dep_zero (fun x => (B x).keeps) h
  have h1 := A.canon l h0
  have h2 : ((B (A.rd 0 l).1).rd (A.rd 0 l).2.1 (A.rd 0 l).2.2).2.1 = 0 := h
  rw [h0] at h2
  have h3 := (B _).canon _ h2
  refine ⟨⟨h1.1, ?_⟩, ?_⟩
  · show (B (A.rd 0 l).1).ok ((B (A.rd 0 l).1).rd (A.rd 0 l).2.1 (A.rd 0 l).2.2).1
    rw [h0]; exact h3.1
  · show l = (A.put (A.rd 0 l).1 ++ (B (A.rd 0 l).1).put ((B (A.rd 0 l).1).rd (A.rd 0 l).2.1 (A.rd 0 l).2.2).1) ++ ((B (A.rd 0 l).1).rd (A.rd 0 l).2.1 (A.rd 0 l).2.2).2.2
    rw [h0, List.append_assoc, ← h3.2]; exact h1.2
 back := fun x r h => by
  have h1 := A.back x.1 ((B x.1).put x.2 ++ r) h.1
  have h2 := (B x.1).back x.2 r h.2
  show depR A.rd (fun x => (B x).rd) 0 (A.put x.1 ++ (B x.1).put x.2 ++ r) = _
  rw [List.append_assoc]
  unfold depR
  rw [h1]
  show ((x.1, ((B x.1).rd 0 ((B x.1).put x.2 ++ r)).1), ((B x.1).rd 0 ((B x.1).put x.2 ++ r)).2) = _
  rw [h2]
 cut := fun x p q h hq e => by
  rcases List.append_eq_append_iff.1 e with ⟨a, h1, h2⟩ | ⟨a, h1, h2⟩
  · have e1 := A.back x.1 a h.1
    show ((B (A.rd 0 p).1).rd (A.rd 0 p).2.1 (A.rd 0 p).2.2).2.1 = 40
    rw [h1, e1]
    exact (B x.1).cut x.2 a q h.2 hq h2
  · show ((B (A.rd 0 p).1).rd (A.rd 0 p).2.1 (A.rd 0 p).2.2).2.1 = 40
    by_cases ha : a = []
    · subst ha
      have hp : p = A.put x.1 := by simpa using h1.symm
      have e1 := A.back x.1 [] h.1
      rw [List.append_nil] at e1
      rw [hp, e1]
      exact (B x.1).cut x.2 [] ((B x.1).put x.2) h.2 (by simp at h2; rw [← h2]; exact hq) (by simp)
    · have h3 := A.cut x.1 p a h.1 ha h1
      have h4 := (B (A.rd 0 p).1).keeps (A.rd 0 p).2.1 (A.rd 0 p).2.2 (by rw [h3]; decide)
      rw [h4]
      exact h3
 okay := fun c l => ⟨A.okay c l, (B _).okay _ _⟩
def unitC {α : Type} (z : α) : Codec α where
 rd := fun c l => (z, c, l)
 put := fun _ => []
 ok := fun x => x = z
 keeps := fun c l h => rfl
 len := fun c l => Nat.le_refl _
 canon := fun l h => ⟨rfl, rfl⟩
 back := fun x r h => by subst h; rfl
 cut := fun x p q h hq e => by
  have := (List.append_eq_nil_iff.1 e.symm).2
  exact absurd this hq
 okay := fun c l => rfl
def vecC {α : Type} (k : Nat) (C : Codec α) : Codec (List α) where
 rd := fun c l => (repX C.rd c l k, repS C.rd c l k)
 put := fun xs => xs.flatMap C.put
 ok := fun xs => xs.length = k ∧ ∀ x ∈ xs, C.ok x
 keeps := fun c l h => repS_err C h l k
 len := fun c l => repS_len C c l k
 canon := fun l h => by
  obtain ⟨h1, h2⟩ := rep_canon C k h
  exact ⟨⟨repX_len _ _ _ _, h1⟩, h2⟩
 back := fun xs r h => by
  obtain ⟨h1, h2⟩ := rep_back C r xs h.2 k (by omega)
  show (repX C.rd 0 (xs.flatMap C.put ++ r) k, repS C.rd 0 (xs.flatMap C.put ++ r) k) = _
  rw [h1, h2, ← h.1]
  simp
 cut := fun xs p q h hq e => rep_cut C xs p q h.2 hq e k h.1.symm
 okay := fun c l => ⟨repX_len _ _ _ _, repX_ok C c l k⟩
def rowR {α : Type} (m : Nat) (f : Rdr α) : Rdr (List α) := fun c l =>
 (repX f (numE m c l) (numL m c l) (numV m c l), repS f (numE m c l) (numL m c l) (numV m c l))
def rowC {α : Type} (m : Nat) (hm : m < 18446744073709551616) (C : Codec α) : Codec (List α) where
 rd := rowR m C.rd
 put := listP C.put
 ok := fun xs => xs.length ≤ m ∧ ∀ x ∈ xs, C.ok x
 keeps := fun c l h => (listC m hm C).keeps c l h
 len := fun c l => (listC m hm C).len c l
 canon := fun l h => by
  have h1 := (listC m hm C).canon l h
  have h2 : (listR m C.rd 0 l).1 = (rowR m C.rd 0 l).1 := by
   show (if _ then _ else _) = _
   rw [if_pos (show (repS C.rd (numE m 0 l) (numL m 0 l) (numV m 0 l)).1 = 0 from h)]
   rfl
  rw [← h2]
  exact h1
 back := fun xs r h => by
  have h1 := (listC m hm C).back xs r h
  have h3 : (listR m C.rd 0 (listP C.put xs ++ r)) = (xs, 0, r) := h1
  have h4 : (repS C.rd (numE m 0 (listP C.put xs ++ r)) (numL m 0 (listP C.put xs ++ r)) (numV m 0 (listP C.put xs ++ r))).1 = 0 := by
   have := congrArg (fun t => t.2.1) h3
   exact this
  have h2 : (listR m C.rd 0 (listP C.put xs ++ r)).1 = (rowR m C.rd 0 (listP C.put xs ++ r)).1 := by
   show (if _ then _ else _) = _
   rw [if_pos h4]
   rfl
  show ((rowR m C.rd 0 (listP C.put xs ++ r)).1, (listR m C.rd 0 (listP C.put xs ++ r)).2) = _
  rw [← h2, h3]
 cut := fun xs p q h hq e => (listC m hm C).cut xs p q h hq e
 okay := fun c l => ⟨by show (repX _ _ _ _).length ≤ m; rw [repX_len]; exact numV_le m c l, repX_ok C _ _ _⟩
def uidC : Codec Int := intC 1073741824 (by decide)
def revC : Codec Nat := numC 18446744073709551615 (by decide)
def phaseC : Codec Int := intC 4 (by decide)
def markC : Codec Int := intC 2 (by decide)
def graceC : Codec Int := intC 1000 (by decide)
def codeC : Codec Int := intC 999 (by decide)
def dataC : Codec ByteArray := textC 32 (by decide)
def podC : Codec Pd := mapC (depC (pairC uidC (pairC revC (pairC specC phaseC))) (fun t => pairC (vecC t.2.2.1.main.length uidC) (pairC markC graceC)))
 (fun x => ⟨x.1.1, x.1.2.1, x.1.2.2.1, x.1.2.2.2, x.2.1, x.2.2.1, x.2.2.2⟩) (fun y => ((y.uid, y.rev, y.spec, y.phase), (y.rs, y.mark, y.grace))) (fun _ => rfl)
def podsC : Codec (List Pd) := rowC 16 (by decide) podC
def usesC : Codec (List (Int × Int × Int)) := rowC 4 (by decide) resC
def replyC : Codec Rp := mapC (pairC codeC (pairC uidC (pairC uidC (pairC revC (pairC dataC (pairC podsC usesC))))))
 (fun x => ⟨x.1, x.2.1, x.2.2.1, x.2.2.2.1, x.2.2.2.2.1, x.2.2.2.2.2.1, x.2.2.2.2.2.2⟩) (fun y => (y.code, y.uid, y.id, y.rev, y.data, y.pods, y.use)) (fun _ => rfl)
def podIfC (k : Int) : Codec Pd := if hasB k = true then podC else unitC zeroP
def ekindC : Codec Int := intC 5 (by decide)
def eventC : Codec Ev := mapC (depC (pairC ekindC revC) (fun t => podIfC t.1)) (fun x => ⟨x.1.1, x.1.2, x.2⟩) (fun y => ((y.kind, y.rev), y.pod)) (fun _ => rfl)
def bodyC (k : Int) : Codec (Rp × Ev) :=
 if k = 1 then mapC replyC (fun r => (r, zeroE)) (fun x => x.1) (fun _ => rfl) else if k = 2 then mapC eventC (fun e => (zeroR, e)) (fun x => x.2) (fun _ => rfl) else unitC (zeroR, zeroE)
def mkindC : Codec Int := intC 2 (by decide)
def msgC : Codec Mg := mapC (depC (pairC mkindC uidC) (fun t => bodyC t.1)) (fun x => ⟨x.1.1, x.1.2, x.2.1, x.2.2⟩) (fun y => ((y.kind, y.num), (y.reply, y.event))) (fun _ => rfl)
def revsR (y : Rp) : Prop := y.rev < 18446744073709551616 ∧ ∀ p ∈ y.pods, p.rev < 18446744073709551616
def revsM (m : Mg) : Prop := revsR m.reply ∧ m.event.rev < 18446744073709551616 ∧ m.event.pod.rev < 18446744073709551616
theorem int_in {m : Nat} {hm : m < 18446744073709551616} {z a : Int} {b : Int} (h : inB z a b = true) (ha : 0 ≤ a) (hb : b = (m : Int)) : (intC m hm).ok z := by
 have := inB_iff.1 h
 exact int_ok (by omega) (by omega)
theorem pod_ok {p : Pd} (h : podB p = true) (hr : p.rev < 18446744073709551616) : podC.ok p := by
 unfold podB at h
 simp only [Bool.and_eq_true, decide_eq_true_eq, List.all_eq_true] at h
 obtain ⟨⟨⟨⟨⟨⟨h0, h1⟩, h2⟩, h3⟩, h4⟩, h5⟩, h6⟩ := h
 exact ⟨⟨⟨int_in h0 (by decide) rfl, (by show p.rev ≤ 18446744073709551615; omega), spec_ok h1, int_in h2 (by decide) rfl⟩, ⟨h3, fun x hx => int_in (h4 x hx) (by decide) rfl⟩, int_in h5 (by decide) rfl, int_in h6 (by decide) rfl⟩, rfl⟩
theorem use_ok {u : Int × Int × Int} (h : useB u = true) : resC.ok u := by
 unfold useB at h
 simp only [Bool.and_eq_true] at h
 exact ⟨int_in h.1.1 (by decide) rfl, int_in h.1.2 (by decide) rfl, int_in h.2 (by decide) rfl⟩
theorem reply_ok {y : Rp} (h : replyB y = true) (hr : revsR y) : replyC.ok y := by
 unfold replyB at h
 simp only [Bool.and_eq_true, decide_eq_true_eq, List.all_eq_true] at h
 obtain ⟨⟨⟨⟨⟨⟨⟨h0, h1⟩, h2⟩, h3⟩, h4⟩, h5⟩, h6⟩, h7⟩ := h
 exact ⟨⟨int_in h0 (by decide) rfl, int_in h1 (by decide) rfl, int_in h2 (by decide) rfl, (by show y.rev ≤ 18446744073709551615; have := hr.1; omega), h3, ⟨h4, fun p hp => pod_ok (h5 p hp) (hr.2 p hp)⟩, ⟨h6, fun u hu => use_ok (h7 u hu)⟩⟩, rfl⟩
theorem event_ok {e : Ev} (h : eventB e = true) (h1 : e.rev < 18446744073709551616) (h2 : e.pod.rev < 18446744073709551616) : eventC.ok e := by
 unfold eventB at h
 rw [Bool.or_eq_true, Bool.and_eq_true, Bool.and_eq_true] at h
 refine ⟨⟨⟨?_, (by show e.rev ≤ 18446744073709551615; omega)⟩, ?_⟩, rfl⟩
 · rcases h with h | h
   · have := inB_iff.1 h.1
     exact int_ok (z := e.kind) (by omega) (by omega)
   · have := inB_iff.1 h.1
     exact int_ok (z := e.kind) (by omega) (by omega)
 · show (podIfC e.kind).ok e.pod
   unfold podIfC
   rcases h with h | h
   · rw [if_pos h.1]
     exact pod_ok h.2 h2
   · have := inB_iff.1 h.1
     rw [if_neg (by intro h9; have := inB_iff.1 h9; omega)]
     exact (noPod_iff _).1 h.2
theorem msg_ok {m : Mg} (h : msgB m = true) (hr : revsM m) : msgC.ok m := by
 unfold msgB at h
 rw [Bool.and_eq_true] at h
 obtain ⟨h0, h⟩ := h
 refine ⟨⟨⟨?_, int_in h0 (by decide) rfl⟩, ?_⟩, rfl⟩
 · show (intC 2 (by decide)).ok m.kind
   split at h
   · next e => rw [e]; exact int_ok (by decide) (by decide)
   · split at h
     · next e => rw [e]; exact int_ok (by decide) (by decide)
     · simp at h
 · show (bodyC m.kind).ok (m.reply, m.event)
   unfold bodyC
   split at h
   · next e =>
     rw [if_pos e]
     rw [Bool.and_eq_true] at h
     have he := (noEvent_iff _).1 h.1
     exact ⟨reply_ok h.2 hr.1, by show (m.reply, zeroE) = (m.reply, m.event); rw [he]⟩
   · split at h
     · next e1 e =>
       rw [if_neg e1, if_pos e]
       rw [Bool.and_eq_true] at h
       have he := (noReply_iff _).1 h.1
       exact ⟨event_ok h.2 hr.2.1 hr.2.2, by show (zeroR, m.event) = (m.reply, m.event); rw [he]⟩
     · simp at h
def ofM (l : List UInt8) : Int := if endE (msgC.rd 0 l).2.1 (msgC.rd 0 l).2.2 ≠ 0 then endE (msgC.rd 0 l).2.1 (msgC.rd 0 l).2.2 else if msgB (msgC.rd 0 l).1 = true then 0 else 4
theorem ofM_back {m : Mg} (h : msgB m = true) (hr : revsM m) : msgC.rd 0 (msgC.put m) = (m, 0, []) ∧ ofM (msgC.put m) = 0 := by
 have h1 := msgC.back m [] (msg_ok h hr)
 rw [List.append_nil] at h1
 refine ⟨h1, ?_⟩
 unfold ofM
 rw [h1]
 show (if endE 0 [] ≠ 0 then endE 0 [] else if msgB m = true then 0 else 4) = 0
 rw [h]
 decide
end Go.Proofs.YtljbpelogjmciaaGreatDoor.Tl
set_option linter.unusedVariables false
set_option linter.unusedSimpArgs false
namespace Go.Proofs.YtljbpelogjmciaaGreatDoor
open Go.ChangeShapes Go.WideShapes Go.ChangeAt Go.RowKit Go.Lib
open Sd Lists Pk
namespace Tl
theorem box_cell {w : World} {g : Nat} {A : Array Value} {t : TypeId} (h : w.heap[g]? = some (.cells A t (0, 0))) (k : Nat) {v : Value} (hv : A[k]? = some v) : w.cell? ⟨g, k, none⟩ = some v := by
 simp [World.cell?, h, hv]
theorem box_free {w : World} {g : Nat} {A : Array Value} {t : TypeId} (h : w.heap[g]? = some (.cells A t (0, 0))) (k : Nat) : w.frozen? ⟨g, k, none⟩ = false := by
 simp [World.frozen?, h]
theorem box_set {w : World} {g : Nat} {A : Array Value} {t : TypeId} (h : w.heap[g]? = some (.cells A t (0, 0))) (k : Nat) (v : Value) {B : Array Value} (hB : A.setIfInBounds k v = B) : (w.setCell ⟨g, k, none⟩ v).heap[g]? = some (.cells B t (0, 0)) := by
 rw [← hB]; exact heap_setCell_same w g k _ _ v h
theorem range_at {w : World} {b : Nat} {A : Array Value} {t : TypeId} (h : w.heap[b]? = some (.cells A t (0, 0))) (o : Nat) (cs : List Value) (hcs : (A.toList.drop o).take cs.length = cs) : w.rangeAt b o cs :=
 fun j v hv => box_cell h (o + j) (by
  have hj : j < cs.length := (List.getElem?_eq_some_iff.1 hv).1
  rw [← hcs, List.getElem?_take_of_lt hj, List.getElem?_drop] at hv
  simpa using hv)
theorem text_nil {z : ByteArray} (h : z.size = 0) : z.toList = [] := by
 rw [ByteArray.toList_eq]
 exact List.length_eq_zero_iff.1 (by rw [Array.length_toList]; exact h)
theorem text_some {z : ByteArray} (h : z.size ≠ 0) : z.toList.isEmpty = false := by
 rw [ByteArray.toList_eq]
 cases e : z.data.toList with
 | nil =>
  have := congrArg List.length e
  rw [Array.length_toList] at this
  exact absurd this h
 | cons x xs => rfl
def CellsAt (w : World) (a : Addr) : List Value → Prop
 | [] => True
 | v :: vs => w.cell? a = some v ∧ ∀ (i : Nat) (x : Value), vs[i]? = some x → w.cell? ⟨a.block, a.off + (i + 1), none⟩ = some x
theorem CellsAt.keep {w w' : World} {a : Addr} {vs : List Value} (h : CellsAt w a vs) (hb : w'.heap[a.block]? = w.heap[a.block]?) : CellsAt w' a vs := by
 have e : ∀ p : Addr, p.block = a.block → w'.cell? p = w.cell? p := fun p hp => World.cell?_of_block (by rw [hp]; exact hb)
 cases vs with
 | nil => trivial
 | cons v vs => exact ⟨(e a rfl).trans h.1, fun i x hx => (e ⟨a.block, a.off + (i + 1), none⟩ rfl).trans (h.2 i x hx)⟩
theorem CellsAt.all {w : World} {p : Addr} : ∀ {vs : List Value}, CellsAt w p vs → ∀ j v, vs[j]? = some v → w.cell? (p.add j) = some v
 | [], _, j, v, hv => by simp at hv
 | x :: vs, h, 0, v, hv => by
  have e : p.add 0 = p := by unfold Addr.add; simp
  rw [e]
  simp at hv
  rw [← hv]
  exact h.1
 | x :: vs, h, j + 1, v, hv => by
  have e : p.add (j + 1) = ⟨p.block, p.off + (j + 1), none⟩ := by unfold Addr.add; rw [if_neg (by omega)]
  rw [e]
  exact h.2 j v (by simpa using hv)
theorem run_load_addr {P : Program} (w : World) (p : Addr) (ty : TypeId) (cs : List Value) (d : TypeDesc) (hc : ∀ j v, cs[j]? = some v → w.cell? (p.add j) = some v)
 (hu : P.underlying ty = some d) (hd : d.isRow = true) (hi : (P.info? ty).map (·.size) = some cs.length) : (loadVar ty p).run P w = .ok (.agg cs.toArray) w := by
 have hl : (loadCells p cs.length).run P w = .ok cs.toArray w := run_loadCells_list (P := P) w p cs hc
 cases hq : P.info? ty with
 | none => simp [hq] at hi
 | some i =>
  have hs : i.size = cs.length := by simpa [hq] using hi
  have hagg : (isAgg ty).run P w = .ok true w := by
   unfold isAgg
   rw [Sem.run_bind, run_underlying hu w]
   cases d <;> simp_all
  simp [loadVar, Sem.run_bind, hagg, sizeOf, typeInfo, hq, hs, hl]
theorem wpList_load_addr {P : Program} {ops : Array Oper} {rest : List Oper} {op : Oper} {a : Act} {w : World} {Q : Exit → Act → World → Prop} (hgd : op.guard = none) (ty : TypeId) (x : Operand) (ho : op.op = .load ty x)
 (p : Addr) (hx : a.eval x = .pointer (some p)) (cs : List Value) (d : TypeDesc) (hc : ∀ j v, cs[j]? = some v → w.cell? (p.add j) = some v)
 (hu : P.underlying ty = some d) (hd : d.isRow = true) (hi : (P.info? ty).map (·.size) = some cs.length)
 (h : wpList P ops Q rest (a.put op.dst (.agg cs.toArray)) w) : wpList P ops Q (op :: rest) a w :=
 wpList_plain hgd fun _ hK => by
  unfold Oper.wp execOp
  simp only [ho, hx, Instr.loadAt, Instr.sureAddr, Sem.run_bind, Sem.run_pure, Result.andThen_ok, run_load_addr w p ty cs d hc hu hd hi]
  exact hK _ _ h
def Pd.vals (p : Pd) (LA : Option Addr) (lc : Nat) (IA : Option Addr) (ic : Nat) (MA : Option Addr) (mc : Nat) (RA : Option Addr) (rc : Nat) : List Value :=
 [.int .i64 p.uid, .int .u64 p.rev, .string p.spec.name, .slice LA p.spec.labels.length lc, .slice IA p.spec.init.length ic, .slice MA p.spec.main.length mc, .int .i64 p.spec.restart, .int .i64 p.spec.grace, .int .i64 p.spec.prio, .int .i64 p.phase, .slice RA p.rs.length rc, .int .i64 p.mark, .int .i64 p.grace]
structure Pd.In (p : Pd) (w : World) (LA : Option Addr) (lc : Nat) (IA : Option Addr) (ic : Nat) (MA : Option Addr) (mc : Nat) (RA : Option Addr) : Prop where
 spec : p.spec.In w LA lc IA ic MA mc
 rs : Nums .i64 w RA p.rs
 nr : p.rs.length ≤ 9223372036854775807
 rev : p.rev < 18446744073709551616
theorem Pd.In.below {p : Pd} {w w' : World} {LA : Option Addr} {lc : Nat} {IA : Option Addr} {ic : Nat} {MA : Option Addr} {mc : Nat} {RA : Option Addr} (h : p.In w LA lc IA ic MA mc RA) (hb : Below w.heap.size w w') : p.In w' LA lc IA ic MA mc RA :=
 ⟨h.spec.below hb, Sd.Nums.below h.rs hb, h.nr, h.rev⟩
def Pds (w : World) (A : Option Addr) (l : List Pd) : Prop := ∀ (k : Nat) (p : Pd), l[k]? = some p → ∃ a LA lc IA ic MA mc RA rc, A = some a ∧ a.block < w.heap.size ∧ CellsAt w (a.add (k * 13)) (p.vals LA lc IA ic MA mc RA rc) ∧ p.In w LA lc IA ic MA mc RA
theorem Pds.below {w w' : World} {A : Option Addr} {l : List Pd} (h : Pds w A l) (hb : Below w.heap.size w w') : Pds w' A l := by
 intro k x hk
 obtain ⟨a, LA, lc, IA, ic, MA, mc, RA, rc, hA, ha, hc, hi⟩ := h k x hk
 exact ⟨a, LA, lc, IA, ic, MA, mc, RA, rc, hA, Nat.lt_of_lt_of_le ha hb.size, hc.keep (by rw [add_block]; exact hb.block _ ha), hi.below hb⟩
theorem Pds.at {w : World} {A : Option Addr} {l : List Pd} (h : Pds w A l) {k : Nat} (hk : k < l.length) : ∃ a LA lc IA ic MA mc RA rc, A = some a ∧ a.block < w.heap.size ∧ CellsAt w (a.add (k * 13)) (l[k].vals LA lc IA ic MA mc RA rc) ∧ l[k].In w LA lc IA ic MA mc RA := h k _ (List.getElem?_eq_getElem hk)
theorem pds_nil (w : World) (A : Option Addr) : Pds w A [] := fun k x hk => (by simp at hk)
def useVals (u : Int × Int × Int) : List Value := [.int .i64 u.1, .int .i64 u.2.1, .int .i64 u.2.2]
def Uses (w : World) (A : Option Addr) (l : List (Int × Int × Int)) : Prop := ∀ (k : Nat) (u : Int × Int × Int), l[k]? = some u → ∃ a, A = some a ∧ a.block < w.heap.size ∧ CellsAt w (a.add (k * 3)) (useVals u)
theorem Uses.below {w w' : World} {A : Option Addr} {l : List (Int × Int × Int)} (h : Uses w A l) (hb : Below w.heap.size w w') : Uses w' A l := by
 intro k x hk
 obtain ⟨a, hA, ha, hc⟩ := h k x hk
 exact ⟨a, hA, Nat.lt_of_lt_of_le ha hb.size, hc.keep (by rw [add_block]; exact hb.block _ ha)⟩
theorem Uses.at {w : World} {A : Option Addr} {l : List (Int × Int × Int)} (h : Uses w A l) {k : Nat} (hk : k < l.length) : ∃ a, A = some a ∧ a.block < w.heap.size ∧ CellsAt w (a.add (k * 3)) (useVals l[k]) := h k _ (List.getElem?_eq_getElem hk)
theorem uses_nil (w : World) (A : Option Addr) : Uses w A [] := fun k x hk => (by simp at hk)
structure Rp.In (y : Rp) (w : World) (PA : Option Addr) (UA : Option Addr) : Prop where
 pods : Pds w PA y.pods
 use : Uses w UA y.use
 np : y.pods.length ≤ 9223372036854775807
 nu : y.use.length ≤ 9223372036854775807
 rev : y.rev < 18446744073709551616
theorem Rp.In.below {y : Rp} {w w' : World} {PA UA : Option Addr} (h : y.In w PA UA) (hb : Below w.heap.size w w') : y.In w' PA UA := ⟨h.pods.below hb, h.use.below hb, h.np, h.nu, h.rev⟩
structure Mg.In (m : Mg) (w : World) (PA UA : Option Addr) (LA : Option Addr) (lc : Nat) (IA : Option Addr) (ic : Nat) (MA : Option Addr) (mc : Nat) (RA : Option Addr) : Prop where
 reply : m.reply.In w PA UA
 pod : m.event.pod.In w LA lc IA ic MA mc RA
 rev : m.event.rev < 18446744073709551616
theorem Mg.In.below {m : Mg} {w w' : World} {PA UA : Option Addr} {LA : Option Addr} {lc : Nat} {IA : Option Addr} {ic : Nat} {MA : Option Addr} {mc : Nat} {RA : Option Addr} (h : m.In w PA UA LA lc IA ic MA mc RA) (hb : Below w.heap.size w w') : m.In w' PA UA LA lc IA ic MA mc RA :=
 ⟨h.reply.below hb, h.pod.below hb, h.rev⟩
theorem Mg.In.revs {m : Mg} {w : World} {PA UA : Option Addr} {LA : Option Addr} {lc : Nat} {IA : Option Addr} {ic : Nat} {MA : Option Addr} {mc : Nat} {RA : Option Addr} (h : m.In w PA UA LA lc IA ic MA mc RA) : revsM m := by
 refine ⟨⟨h.reply.rev, fun p hp => ?_⟩, h.rev, h.pod.rev⟩
 obtain ⟨k, hk⟩ := List.getElem?_of_mem hp
 obtain ⟨a, LA, lc, IA, ic, MA, mc, RA, rc, hA, ha, hc, hi⟩ := h.reply.pods k p hk
 exact hi.rev
end Tl
end Go.Proofs.YtljbpelogjmciaaGreatDoor
set_option linter.unusedVariables false
set_option linter.unusedSimpArgs false
namespace Go.Proofs.YtljbpelogjmciaaGreatDoor
open Go.ChangeShapes Go.WideShapes Go.ChangeAt Go.RowKit Go.Lib
open LebMath WirePure Sd Wire SpecOwn SpecRef Book Pk
namespace Tl
structure LightP (p : Pd) : Prop where
 spec : Book.Light p.spec
 rs : p.rs.length ≤ 20
structure LightR (y : Rp) : Prop where
 data : y.data.size ≤ 300
 np : y.pods.length ≤ 20
 nu : y.use.length ≤ 20
 pods : ∀ p ∈ y.pods, LightP p
structure LightM (m : Mg) : Prop where
 reply : LightR m.reply
 pod : LightP m.event.pod
theorem text_empty (s : ByteArray) : s.toList.isEmpty = decide (s = ⟨#[]⟩) := by
 by_cases h : s = ⟨#[]⟩
 · subst h; rw [text_nil (show (⟨#[]⟩ : ByteArray).size = 0 from rfl)]; simp
 · rw [decide_eq_false h, text_some (fun h0 => h (ByteArray.ext (Array.eq_empty_of_size_eq_zero h0)))]
theorem len_zero (n : Nat) : ((n : Int) == 0) = decide (n = 0) := by
 by_cases h : n = 0
 · subst h; rfl
 · rw [decide_eq_false h, beq_eq_false_iff_ne]; omega
theorem len_eq (n m : Nat) : ((n : Int) == (m : Int)) = decide (n = m) := by
 by_cases h : n = m
 · subst h; simp
 · rw [decide_eq_false h, beq_eq_false_iff_ne]; omega
theorem le_32 (n : Nat) : decide ((n : Int) ≤ 32) = decide (n ≤ 32) := by
 have : ((n : Int) ≤ 32) ↔ n ≤ 32 := by omega
 simp only [this]
theorem le_16 (n : Nat) : decide ((n : Int) ≤ 16) = decide (n ≤ 16) := by
 have : ((n : Int) ≤ 16) ↔ n ≤ 16 := by omega
 simp only [this]
theorem le_4 (n : Nat) : decide ((n : Int) ≤ 4) = decide (n ≤ 4) := by
 have : ((n : Int) ≤ 4) ↔ n ≤ 4 := by omega
 simp only [this]
theorem rev_zero (n : Nat) : ((n : Int) == 0) = (n == 0) := by
 rw [len_zero]
 rfl
theorem zs_in (w : World) : zeroS.In w none 0 none 0 none 0 :=
 ⟨fun k x hk => by simp [zeroS] at hk, fun k x hk => by simp [zeroS] at hk, fun k x hk => by simp [zeroS] at hk, by simp [zeroS], by simp [zeroS], by simp [zeroS], by unfold I64 zeroS; decide, by unfold I64 zeroS; decide, by unfold I64 zeroS; decide⟩
theorem all_next {α : Type} (f : α → Bool) (l : List α) (k : Nat) (hk : k < l.length) (h : (l.take k).all f = true) : f l[k] = true → (l.take (k + 1)).all f = true := by
 intro h1
 rw [List.take_succ_eq_append_getElem hk, List.all_append, h]
 simp [h1]
theorem all_not {α : Type} (f : α → Bool) (l : List α) (k : Nat) (hk : k < l.length) : f l[k] = false → l.all f = false := by
 intro h1
 rw [List.all_eq_false]
 exact ⟨l[k], List.getElem_mem hk, by rw [h1]; decide⟩
theorem within_any (n a b : Int) (w : World) : Calls Tryz.prog 102 #[.int .i64 n, .int .i64 a, .int .i64 b] w fun e w' => e = .returned (.bool (inB n a b)) ∧ w = w' := by
 by_cases h1 : a ≤ n
 · by_cases h2 : n ≤ b
   · have HD := Lib.hid (show inB n a b = true from inB_iff.2 ⟨h1, h2⟩)
     go_enter Tryz.func102, Tryz.ntmps102
     go_wp2
     go_ret
     exact ⟨Book.ret_b HD.out.symm, rfl⟩
   · have HD := Lib.hid (show inB n a b = false by rw [Bool.eq_false_iff]; exact fun h => h2 (inB_iff.1 h).2)
     go_enter Tryz.func102, Tryz.ntmps102
     go_wp2
     go_ret
     exact ⟨Book.ret_b HD.out.symm, rfl⟩
 · have HD := Lib.hid (show inB n a b = false by rw [Bool.eq_false_iff]; exact fun h => h1 (inB_iff.1 h).1)
   go_enter Tryz.func102, Tryz.ntmps102
   go_wp2
   go_ret
   exact ⟨Book.ret_b HD.out.symm, rfl⟩
theorem restB_any (n : Int) (w : World) : Calls Tryz.prog 104 #[.int .i64 n] w fun e w' => e = .returned (.bool (restB n)) ∧ w = w' := by
 go_enter Tryz.func104, Tryz.ntmps104
 go_wp2_with fail
 refine (within_any n 0 1073741824 w).mono ?_
 rintro e w1 ⟨rfl, rfl⟩
 go_wp2
 go_ret
 exact ⟨rfl, rfl⟩
theorem shape_any (b : Bool) (w : World) : Calls Tryz.prog 54 #[.bool b] w fun e w' => e = .returned (.int .i64 (bif b then 0 else 4)) ∧ w = w' := by
 cases b <;>
 · go_enter Tryz.func54, Tryz.ntmps54
   go_wp2
   go_ret
   exact ⟨rfl, rfl⟩
theorem hasB_any (k : Int) (w : World) : Calls Tryz.prog 116 #[.int .i64 k] w fun e w' => e = .returned (.bool (hasB k)) ∧ w = w' := by
 by_cases h1 : k = 1
 · subst h1
   go_enter Tryz.func116, Tryz.ntmps116
   go_wp2
   go_ret
   exact ⟨rfl, rfl⟩
 by_cases h2 : k = 2
 · subst h2
   go_enter Tryz.func116, Tryz.ntmps116
   go_wp2
   go_ret
   exact ⟨rfl, rfl⟩
 by_cases h3 : k = 3
 · subst h3
   go_enter Tryz.func116, Tryz.ntmps116
   go_wp2
   go_ret
   exact ⟨rfl, rfl⟩
 have HD := Lib.hid (show hasB k = false by rw [Bool.eq_false_iff]; intro h; have := inB_iff.1 h; omega)
 have q1 : (k == 1) = false := by rw [beq_eq_false_iff_ne]; exact h1
 have q2 : (k == 2) = false := by rw [beq_eq_false_iff_ne]; exact h2
 have q3 : (k == 3) = false := by rw [beq_eq_false_iff_ne]; exact h3
 clear h1 h2 h3
 go_enter Tryz.func116, Tryz.ntmps116
 go_wp2
 go_ret
 exact ⟨Book.ret_b HD.out.symm, rfl⟩
theorem noneB_any (k : Int) (w : World) : Calls Tryz.prog 156 #[.int .i64 k] w fun e w' => e = .returned (.bool (noneB k)) ∧ w = w' := by
 by_cases h1 : k = 4
 · subst h1
   go_enter Tryz.func156, Tryz.ntmps156
   go_wp2
   go_ret
   exact ⟨rfl, rfl⟩
 by_cases h2 : k = 5
 · subst h2
   go_enter Tryz.func156, Tryz.ntmps156
   go_wp2
   go_ret
   exact ⟨rfl, rfl⟩
 have HD := Lib.hid (show noneB k = false by rw [Bool.eq_false_iff]; intro h; have := inB_iff.1 h; omega)
 have q1 : (k == 4) = false := by rw [beq_eq_false_iff_ne]; exact h1
 have q2 : (k == 5) = false := by rw [beq_eq_false_iff_ne]; exact h2
 clear h1 h2
 go_enter Tryz.func156, Tryz.ntmps156
 go_wp2
 go_ret
 exact ⟨Book.ret_b HD.out.symm, rfl⟩
set_option maxRecDepth 100000 in
theorem all_rests (A : Option Addr) (cap : Nat) (l : List Int) (hn : l.length ≤ 100) (w : World) (h : Lists.Nums .i64 w A l) :
 Calls Tryz.prog 103 #[.slice A l.length cap, .func (.func 104) #[] #[]] w fun e w' => e = .returned (.bool (l.all restB)) ∧ w = w' := by
 have H := Lib.hid h
 have hn' : (l.length : Int) ≤ 100 := by omega
 clear h hn
 go_enter Tryz.func103, Tryz.ntmps103
 go_wp2
 go_loop [9] (fun i => ∃ k : Nat, k ≤ l.length ∧ i = .int .i64 k ∧ Hid ((l.take k).all restB = true)) (fun i => l.length - (RowKit.intOf i).toNat)
 case atStart => exact ⟨0, Nat.zero_le _, rfl, by rfl⟩
 case round =>
  obtain ⟨k, hk, rfl, HF⟩ := hrel
  by_cases hlt : k < l.length
  · obtain ⟨_, a, rfl, ha, hc⟩ := H.out.at hlt
    have hka : (k : Int) < (l.length : Int) := by omega
    have HN := Lib.hid (all_next restB l k hlt HF.out)
    have HNO := Lib.hid (all_not restB l k hlt)
    obtain ⟨x, ex⟩ : ∃ x, l[k] = x := ⟨_, rfl⟩
    rw [ex] at hc HN HNO
    clear ha ex HF
    go_wp2_with fail
    refine (restB_any x w).mono ?_
    rintro e w1 ⟨rfl, rfl⟩
    cases hm : restB x with
    | true =>
     have HT := Lib.hid (HN.out hm)
     clear hm HN HNO
     go_wp2
     go_round
     case rel => exact ⟨k + 1, by omega, by go_num, HT.out⟩
     case measure => simp [RowKit.intOf]; omega
    | false =>
     have HD := Lib.hid (HNO.out hm)
     clear hm HN HNO
     go_wp2
     go_ret
     exact ⟨Book.ret_b HD.out.symm, rfl⟩
  · have hka : ¬ (k : Int) < (l.length : Int) := by omega
    have HD := Lib.hid (show l.all restB = true by have := HF.out; rwa [List.take_of_length_le (by omega)] at this)
    clear HF
    go_wp2
    go_ret
    exact ⟨Book.ret_b HD.out.symm, rfl⟩
set_option maxRecDepth 100000 in
set_option maxHeartbeats 4000000 in
theorem useB_any (u : Int × Int × Int) (w : World)  :
 Calls Tryz.prog 155 #[.agg #[.int .i64 u.1, .int .i64 u.2.1, .int .i64 u.2.2]] w fun e w' => e = .returned (.bool (useB u)) ∧ Below w.heap.size w w' := by
 skip
 obtain ⟨b0, e0⟩ : ∃ b : Bool, inB u.1 0 1099511627776 = b := ⟨_, rfl⟩
 obtain ⟨b1, e1⟩ : ∃ b : Bool, inB u.2.1 0 1099511627776 = b := ⟨_, rfl⟩
 obtain ⟨b2, e2⟩ : ∃ b : Bool, inB u.2.2 0 1099511627776 = b := ⟨_, rfl⟩
 have HR := Lib.hid (show (b0 && b1 && b2) = useB u by rw [← e0, ← e1, ← e2]; (try simp only [text_empty, len_zero, le_32, le_16, le_4, len_eq, rev_zero]); rfl)
 have E0 := Lib.hid e0
 clear e0
 have E1 := Lib.hid e1
 clear e1
 have E2 := Lib.hid e2
 clear e2
 obtain ⟨w2, hw2⟩ : ∃ v, w.alloc (.cells #[.int .i64 u.1, .int .i64 u.2.1, .int .i64 u.2.2] 70) = v := ⟨_, rfl⟩
 have B2 := Lib.hid (show Below w.heap.size w w2 by rw [← hw2]; exact (Below.refl _ _).alloc (Nat.le_refl _) _)
 have X2 := Lib.hid (show w2.heap[w.heap.size]? = some (.cells #[.int .i64 u.1, .int .i64 u.2.1, .int .i64 u.2.2] 70) by rw [← hw2]; exact heap_alloc_new w _)
 have c0 := box_cell X2.out 0 rfl
 have c1 := box_cell X2.out 1 rfl
 have c2 := box_cell X2.out 2 rfl
 go_enter Tryz.func155, Tryz.ntmps155
 go_wp2_with fail
 refine (within_any u.1 0 1099511627776 w2).mono ?_
 rintro e w3 ⟨rfl, rfl⟩
 rw [E0.out]
 cases b0 with
 | false =>
  have HD := Lib.hid (show false = useB u from by have := HR.out; simpa using this)
  go_wp2
  go_ret
  exact ⟨Book.ret_b HD.out, B2.out⟩
 | true =>
  go_wp2_with fail
  refine (within_any u.2.1 0 1099511627776 w2).mono ?_
  rintro e w3 ⟨rfl, rfl⟩
  rw [E1.out]
  cases b1 with
  | false =>
   have HD := Lib.hid (show false = useB u from by have := HR.out; simpa using this)
   go_wp2
   go_ret
   exact ⟨Book.ret_b HD.out, B2.out⟩
  | true =>
   go_wp2_with fail
   refine (within_any u.2.2 0 1099511627776 w2).mono ?_
   rintro e w3 ⟨rfl, rfl⟩
   rw [E2.out]
   have HD := Lib.hid (show b2 = useB u from by have := HR.out; simpa using this)
   go_wp2
   go_ret
   exact ⟨Book.ret_b HD.out, B2.out⟩
set_option maxRecDepth 100000 in
set_option maxHeartbeats 4000000 in
theorem podB_any (p : Pd) (LA : Option Addr) (lc : Nat) (IA : Option Addr) (ic : Nat) (MA : Option Addr) (mc : Nat) (RA : Option Addr) (rc : Nat) (w : World) (hLt : LightP p) (hL : SLaid w) (h : p.In w LA lc IA ic MA mc RA) :
 Calls Tryz.prog 55 #[.agg #[.int .i64 p.uid, .int .u64 p.rev, .string p.spec.name, .slice LA p.spec.labels.length lc, .slice IA p.spec.init.length ic, .slice MA p.spec.main.length mc, .int .i64 p.spec.restart, .int .i64 p.spec.grace, .int .i64 p.spec.prio, .int .i64 p.phase, .slice RA p.rs.length rc, .int .i64 p.mark, .int .i64 p.grace]] w fun e w' => e = .returned (.bool (podB p)) ∧ Below w.heap.size w w' := by
 have HLT := Lib.hid hLt
 have HL := Lib.hid hL
 have H := Lib.hid h
 clear hLt hL h
 obtain ⟨b0, e0⟩ : ∃ b : Bool, inB p.uid 1 1073741824 = b := ⟨_, rfl⟩
 obtain ⟨b1, e1⟩ : ∃ b : Bool, decide ((checkV p.spec).1 = 0) = b := ⟨_, rfl⟩
 obtain ⟨b2, e2⟩ : ∃ b : Bool, inB p.phase 1 4 = b := ⟨_, rfl⟩
 obtain ⟨b3, e3⟩ : ∃ b : Bool, ((p.rs.length : Int) == (p.spec.main.length : Int)) = b := ⟨_, rfl⟩
 obtain ⟨b4, e4⟩ : ∃ b : Bool, p.rs.all restB = b := ⟨_, rfl⟩
 obtain ⟨b5, e5⟩ : ∃ b : Bool, inB p.mark 0 2 = b := ⟨_, rfl⟩
 obtain ⟨b6, e6⟩ : ∃ b : Bool, inB p.grace 0 1000 = b := ⟨_, rfl⟩
 have HR := Lib.hid (show (b0 && b1 && b2 && b3 && b4 && b5 && b6) = podB p by rw [← e0, ← e1, ← e2, ← e3, ← e4, ← e5, ← e6]; (try simp only [text_empty, len_zero, le_32, le_16, le_4, len_eq, rev_zero]); rfl)
 have E0 := Lib.hid e0
 clear e0
 have E1 := Lib.hid e1
 clear e1
 have E2 := Lib.hid e2
 clear e2
 have E4 := Lib.hid e4
 clear e4
 have E5 := Lib.hid e5
 clear e5
 have E6 := Lib.hid e6
 clear e6
 obtain ⟨w2, hw2⟩ : ∃ v, w.alloc (.cells #[.int .i64 p.uid, .int .u64 p.rev, .string p.spec.name, .slice LA p.spec.labels.length lc, .slice IA p.spec.init.length ic, .slice MA p.spec.main.length mc, .int .i64 p.spec.restart, .int .i64 p.spec.grace, .int .i64 p.spec.prio, .int .i64 p.phase, .slice RA p.rs.length rc, .int .i64 p.mark, .int .i64 p.grace] 42) = v := ⟨_, rfl⟩
 have B2 := Lib.hid (show Below w.heap.size w w2 by rw [← hw2]; exact (Below.refl _ _).alloc (Nat.le_refl _) _)
 have X2 := Lib.hid (show w2.heap[w.heap.size]? = some (.cells #[.int .i64 p.uid, .int .u64 p.rev, .string p.spec.name, .slice LA p.spec.labels.length lc, .slice IA p.spec.init.length ic, .slice MA p.spec.main.length mc, .int .i64 p.spec.restart, .int .i64 p.spec.grace, .int .i64 p.spec.prio, .int .i64 p.phase, .slice RA p.rs.length rc, .int .i64 p.mark, .int .i64 p.grace] 42) by rw [← hw2]; exact heap_alloc_new w _)
 have c0 := box_cell X2.out 0 rfl
 have c2 := box_cell X2.out 2 rfl
 have c3 := box_cell X2.out 3 rfl
 have c4 := box_cell X2.out 4 rfl
 have c5 := box_cell X2.out 5 rfl
 have c6 := box_cell X2.out 6 rfl
 have c7 := box_cell X2.out 7 rfl
 have c8 := box_cell X2.out 8 rfl
 go_enter Tryz.func55, Tryz.ntmps55
 go_wp2_with fail
 refine (within_any p.uid 1 1073741824 w2).mono ?_
 rintro e w3 ⟨rfl, rfl⟩
 rw [E0.out]
 cases b0 with
 | false =>
  have HD := Lib.hid (show false = podB p from by have := HR.out; simpa using this)
  go_wp2
  go_ret
  exact ⟨Book.ret_b HD.out, B2.out⟩
 | true =>
  go_wp2_with fail
  refine (check_any p.spec LA lc IA ic MA mc HLT.out.spec w2 (HL.out.below B2.out) (H.out.spec.below B2.out)).mono ?_
  rintro e w3 ⟨E, rfl, hE, hb3⟩
  have B3 := Lib.hid (B2.out.trans (hb3.mono B2.out.size))
  have X3 := Lib.hid ((hb3.block w.heap.size (lt_of_block X2.out)).trans X2.out)
  clear hb3 X2 hw2 c0 c2 c3 c4 c5 c6 c7 c8
  rcases hE.form with rfl | ⟨eu, ex, rfl⟩
  rotate_left
  · obtain rfl : b1 = false := by
     rw [← E1.out]
     exact decide_eq_false (fun h => by have := hE.nil_iff.2 h; cases this)
    clear hE E1
    have HD := Lib.hid (show false = podB p from by have := HR.out; simpa using this)
    go_wp2
    go_ret
    exact ⟨Book.ret_b HD.out, B3.out⟩
  obtain rfl : b1 = true := by
   rw [← E1.out]
   exact decide_eq_true (hE.nil_iff.1 rfl)
  clear hE E1
  as_aux_lemma =>
   have c5 := box_cell X3.out 5 rfl
   have c9 := box_cell X3.out 9 rfl
   have c10 := box_cell X3.out 10 rfl
   have c11 := box_cell X3.out 11 rfl
   have c12 := box_cell X3.out 12 rfl
   go_wp2_with fail
   refine (within_any p.phase 1 4 w3).mono ?_
   rintro e w4 ⟨rfl, rfl⟩
   rw [E2.out]
   cases b2 with
   | false =>
    have HD := Lib.hid (show false = podB p from by have := HR.out; simpa using this)
    go_wp2
    go_ret
    exact ⟨Book.ret_b HD.out, B3.out⟩
   | true =>
    cases b3 with
    | false =>
     have HD := Lib.hid (show false = podB p from by have := HR.out; simpa using this)
     go_wp2
     go_ret
     exact ⟨Book.ret_b HD.out, B3.out⟩
    | true =>
     go_wp2_with fail
     refine (all_rests RA rc p.rs (by have := HLT.out.rs; omega) w3 (Sd.Nums.below H.out.rs B3.out)).mono ?_
     rintro e w4 ⟨rfl, rfl⟩
     rw [E4.out]
     cases b4 with
     | false =>
      have HD := Lib.hid (show false = podB p from by have := HR.out; simpa using this)
      go_wp2
      go_ret
      exact ⟨Book.ret_b HD.out, B3.out⟩
     | true =>
      go_wp2_with fail
      refine (within_any p.mark 0 2 w3).mono ?_
      rintro e w4 ⟨rfl, rfl⟩
      rw [E5.out]
      cases b5 with
      | false =>
       have HD := Lib.hid (show false = podB p from by have := HR.out; simpa using this)
       go_wp2
       go_ret
       exact ⟨Book.ret_b HD.out, B3.out⟩
      | true =>
       go_wp2_with fail
       refine (within_any p.grace 0 1000 w3).mono ?_
       rintro e w4 ⟨rfl, rfl⟩
       rw [E6.out]
       have HD := Lib.hid (show b6 = podB p from by have := HR.out; simpa using this)
       go_wp2
       go_ret
       exact ⟨Book.ret_b HD.out, B3.out⟩
set_option maxRecDepth 100000 in
set_option maxHeartbeats 4000000 in
theorem noPodB_any (p : Pd) (LA : Option Addr) (lc : Nat) (IA : Option Addr) (ic : Nat) (MA : Option Addr) (mc : Nat) (RA : Option Addr) (rc : Nat) (w : World) (h : p.In w LA lc IA ic MA mc RA) :
 Calls Tryz.prog 152 #[.agg #[.int .i64 p.uid, .int .u64 p.rev, .string p.spec.name, .slice LA p.spec.labels.length lc, .slice IA p.spec.init.length ic, .slice MA p.spec.main.length mc, .int .i64 p.spec.restart, .int .i64 p.spec.grace, .int .i64 p.spec.prio, .int .i64 p.phase, .slice RA p.rs.length rc, .int .i64 p.mark, .int .i64 p.grace]] w fun e w' => e = .returned (.bool (noPodB p)) ∧ Below w.heap.size w w' := by
 have H := Lib.hid h
 clear h
 obtain ⟨b0, e0⟩ : ∃ b : Bool, (p.uid == 0) = b := ⟨_, rfl⟩
 obtain ⟨b1, e1⟩ : ∃ b : Bool, ((p.rev : Int) == 0) = b := ⟨_, rfl⟩
 obtain ⟨b2, e2⟩ : ∃ b : Bool, sameS p.spec zeroS = b := ⟨_, rfl⟩
 obtain ⟨b3, e3⟩ : ∃ b : Bool, (p.phase == 0) = b := ⟨_, rfl⟩
 obtain ⟨b4, e4⟩ : ∃ b : Bool, ((p.rs.length : Int) == 0) = b := ⟨_, rfl⟩
 obtain ⟨b5, e5⟩ : ∃ b : Bool, (p.mark == 0) = b := ⟨_, rfl⟩
 obtain ⟨b6, e6⟩ : ∃ b : Bool, (p.grace == 0) = b := ⟨_, rfl⟩
 have HR := Lib.hid (show (b0 && b1 && b2 && b3 && b4 && b5 && b6) = noPodB p by rw [← e0, ← e1, ← e2, ← e3, ← e4, ← e5, ← e6]; (try simp only [text_empty, len_zero, le_32, le_16, le_4, len_eq, rev_zero]); rfl)
 have E2 := Lib.hid e2
 clear e2
 obtain ⟨w2, hw2⟩ : ∃ v, w.alloc (.cells #[.int .i64 p.uid, .int .u64 p.rev, .string p.spec.name, .slice LA p.spec.labels.length lc, .slice IA p.spec.init.length ic, .slice MA p.spec.main.length mc, .int .i64 p.spec.restart, .int .i64 p.spec.grace, .int .i64 p.spec.prio, .int .i64 p.phase, .slice RA p.rs.length rc, .int .i64 p.mark, .int .i64 p.grace] 42) = v := ⟨_, rfl⟩
 have B2 := Lib.hid (show Below w.heap.size w w2 by rw [← hw2]; exact (Below.refl _ _).alloc (Nat.le_refl _) _)
 have X2 := Lib.hid (show w2.heap[w.heap.size]? = some (.cells #[.int .i64 p.uid, .int .u64 p.rev, .string p.spec.name, .slice LA p.spec.labels.length lc, .slice IA p.spec.init.length ic, .slice MA p.spec.main.length mc, .int .i64 p.spec.restart, .int .i64 p.spec.grace, .int .i64 p.spec.prio, .int .i64 p.phase, .slice RA p.rs.length rc, .int .i64 p.mark, .int .i64 p.grace] 42) by rw [← hw2]; exact heap_alloc_new w _)
 have c0 := box_cell X2.out 0 rfl
 have c1 := box_cell X2.out 1 rfl
 have c2 := box_cell X2.out 2 rfl
 have c3 := box_cell X2.out 3 rfl
 have c4 := box_cell X2.out 4 rfl
 have c5 := box_cell X2.out 5 rfl
 have c6 := box_cell X2.out 6 rfl
 have c7 := box_cell X2.out 7 rfl
 have c8 := box_cell X2.out 8 rfl
 go_enter Tryz.func152, Tryz.ntmps152
 cases b0 with
 | false =>
  have HD := Lib.hid (show false = noPodB p from by have := HR.out; simpa using this)
  go_wp2
  go_ret
  exact ⟨Book.ret_b HD.out, B2.out⟩
 | true =>
  cases b1 with
  | false =>
   have HD := Lib.hid (show false = noPodB p from by have := HR.out; simpa using this)
   go_wp2
   go_ret
   exact ⟨Book.ret_b HD.out, B2.out⟩
  | true =>
   go_wp2_with fail
   refine (same_any p.spec LA lc IA ic MA mc zeroS none 0 none 0 none 0 w2 (H.out.spec.below B2.out) (zs_in w2)).mono ?_
   rintro e w3 ⟨rfl, hb3⟩
   have B3 := Lib.hid (B2.out.trans (hb3.mono B2.out.size))
   have X3 := Lib.hid ((hb3.block w.heap.size (lt_of_block X2.out)).trans X2.out)
   clear hb3 X2 hw2 c0 c1 c2 c3 c4 c5 c6 c7 c8
   rw [E2.out]
   as_aux_lemma =>
    have c9 := box_cell X3.out 9 rfl
    have c10 := box_cell X3.out 10 rfl
    have c11 := box_cell X3.out 11 rfl
    have c12 := box_cell X3.out 12 rfl
    cases b2 with
    | false =>
     have HD := Lib.hid (show false = noPodB p from by have := HR.out; simpa using this)
     go_wp2
     go_ret
     exact ⟨Book.ret_b HD.out, B3.out⟩
    | true =>
     cases b3 with
     | false =>
      have HD := Lib.hid (show false = noPodB p from by have := HR.out; simpa using this)
      go_wp2
      go_ret
      exact ⟨Book.ret_b HD.out, B3.out⟩
     | true =>
      cases b4 with
      | false =>
       have HD := Lib.hid (show false = noPodB p from by have := HR.out; simpa using this)
       go_wp2
       go_ret
       exact ⟨Book.ret_b HD.out, B3.out⟩
      | true =>
       cases b5 with
       | false =>
        have HD := Lib.hid (show false = noPodB p from by have := HR.out; simpa using this)
        go_wp2
        go_ret
        exact ⟨Book.ret_b HD.out, B3.out⟩
       | true =>
        have HD := Lib.hid (show b6 = noPodB p from by have := HR.out; simpa using this)
        go_wp2
        go_ret
        exact ⟨Book.ret_b HD.out, B3.out⟩
set_option maxRecDepth 100000 in
set_option maxHeartbeats 4000000 in
theorem noReplyB_any (y : Rp) (PA : Option Addr) (pc : Nat) (UA : Option Addr) (uc : Nat) (w : World)  :
 Calls Tryz.prog 108 #[.agg #[.int .i64 y.code, .int .i64 y.uid, .int .i64 y.id, .int .u64 y.rev, .string y.data, .slice PA y.pods.length pc, .slice UA y.use.length uc]] w fun e w' => e = .returned (.bool (noReplyB y)) ∧ Below w.heap.size w w' := by
 skip
 obtain ⟨b0, e0⟩ : ∃ b : Bool, (y.code == 0) = b := ⟨_, rfl⟩
 obtain ⟨b1, e1⟩ : ∃ b : Bool, (y.uid == 0) = b := ⟨_, rfl⟩
 obtain ⟨b2, e2⟩ : ∃ b : Bool, (y.id == 0) = b := ⟨_, rfl⟩
 obtain ⟨b3, e3⟩ : ∃ b : Bool, ((y.rev : Int) == 0) = b := ⟨_, rfl⟩
 obtain ⟨b4, e4⟩ : ∃ b : Bool, y.data.toList.isEmpty = b := ⟨_, rfl⟩
 obtain ⟨b5, e5⟩ : ∃ b : Bool, ((y.pods.length : Int) == 0) = b := ⟨_, rfl⟩
 obtain ⟨b6, e6⟩ : ∃ b : Bool, ((y.use.length : Int) == 0) = b := ⟨_, rfl⟩
 have HR := Lib.hid (show (b0 && b1 && b2 && b3 && b4 && b5 && b6) = noReplyB y by rw [← e0, ← e1, ← e2, ← e3, ← e4, ← e5, ← e6]; (try simp only [text_empty, len_zero, le_32, le_16, le_4, len_eq, rev_zero]); rfl)
 obtain ⟨w2, hw2⟩ : ∃ v, w.alloc (.cells #[.int .i64 y.code, .int .i64 y.uid, .int .i64 y.id, .int .u64 y.rev, .string y.data, .slice PA y.pods.length pc, .slice UA y.use.length uc] 46) = v := ⟨_, rfl⟩
 have B2 := Lib.hid (show Below w.heap.size w w2 by rw [← hw2]; exact (Below.refl _ _).alloc (Nat.le_refl _) _)
 have X2 := Lib.hid (show w2.heap[w.heap.size]? = some (.cells #[.int .i64 y.code, .int .i64 y.uid, .int .i64 y.id, .int .u64 y.rev, .string y.data, .slice PA y.pods.length pc, .slice UA y.use.length uc] 46) by rw [← hw2]; exact heap_alloc_new w _)
 have c0 := box_cell X2.out 0 rfl
 have c1 := box_cell X2.out 1 rfl
 have c2 := box_cell X2.out 2 rfl
 have c3 := box_cell X2.out 3 rfl
 have c4 := box_cell X2.out 4 rfl
 have c5 := box_cell X2.out 5 rfl
 have c6 := box_cell X2.out 6 rfl
 go_enter Tryz.func108, Tryz.ntmps108
 cases b0 with
 | false =>
  have HD := Lib.hid (show false = noReplyB y from by have := HR.out; simpa using this)
  go_wp2
  go_ret
  exact ⟨Book.ret_b HD.out, B2.out⟩
 | true =>
  cases b1 with
  | false =>
   have HD := Lib.hid (show false = noReplyB y from by have := HR.out; simpa using this)
   go_wp2
   go_ret
   exact ⟨Book.ret_b HD.out, B2.out⟩
  | true =>
   cases b2 with
   | false =>
    have HD := Lib.hid (show false = noReplyB y from by have := HR.out; simpa using this)
    go_wp2
    go_ret
    exact ⟨Book.ret_b HD.out, B2.out⟩
   | true =>
    cases b3 with
    | false =>
     have HD := Lib.hid (show false = noReplyB y from by have := HR.out; simpa using this)
     go_wp2
     go_ret
     exact ⟨Book.ret_b HD.out, B2.out⟩
    | true =>
     cases b4 with
     | false =>
      have HD := Lib.hid (show false = noReplyB y from by have := HR.out; simpa using this)
      go_wp2
      go_ret
      exact ⟨Book.ret_b HD.out, B2.out⟩
     | true =>
      cases b5 with
      | false =>
       have HD := Lib.hid (show false = noReplyB y from by have := HR.out; simpa using this)
       go_wp2
       go_ret
       exact ⟨Book.ret_b HD.out, B2.out⟩
      | true =>
       have HD := Lib.hid (show b6 = noReplyB y from by have := HR.out; simpa using this)
       go_wp2
       go_ret
       exact ⟨Book.ret_b HD.out, B2.out⟩
set_option maxRecDepth 100000 in
set_option maxHeartbeats 4000000 in
theorem noEventB_any (ev : Ev) (LA : Option Addr) (lc : Nat) (IA : Option Addr) (ic : Nat) (MA : Option Addr) (mc : Nat) (RA : Option Addr) (rc : Nat) (w : World) (h : ev.pod.In w LA lc IA ic MA mc RA) :
 Calls Tryz.prog 106 #[.agg #[.int .i64 ev.kind, .int .u64 ev.rev, .int .i64 ev.pod.uid, .int .u64 ev.pod.rev, .string ev.pod.spec.name, .slice LA ev.pod.spec.labels.length lc, .slice IA ev.pod.spec.init.length ic, .slice MA ev.pod.spec.main.length mc, .int .i64 ev.pod.spec.restart, .int .i64 ev.pod.spec.grace, .int .i64 ev.pod.spec.prio, .int .i64 ev.pod.phase, .slice RA ev.pod.rs.length rc, .int .i64 ev.pod.mark, .int .i64 ev.pod.grace]] w fun e w' => e = .returned (.bool (noEventB ev)) ∧ Below w.heap.size w w' := by
 have H := Lib.hid h
 clear h
 obtain ⟨b0, e0⟩ : ∃ b : Bool, (ev.kind == 0) = b := ⟨_, rfl⟩
 obtain ⟨b1, e1⟩ : ∃ b : Bool, ((ev.rev : Int) == 0) = b := ⟨_, rfl⟩
 obtain ⟨b2, e2⟩ : ∃ b : Bool, noPodB ev.pod = b := ⟨_, rfl⟩
 have HR := Lib.hid (show (b0 && b1 && b2) = noEventB ev by rw [← e0, ← e1, ← e2]; (try simp only [text_empty, len_zero, le_32, le_16, le_4, len_eq, rev_zero]); rfl)
 have E2 := Lib.hid e2
 clear e2
 obtain ⟨w2, hw2⟩ : ∃ v, w.alloc (.cells #[.int .i64 ev.kind, .int .u64 ev.rev, .int .i64 ev.pod.uid, .int .u64 ev.pod.rev, .string ev.pod.spec.name, .slice LA ev.pod.spec.labels.length lc, .slice IA ev.pod.spec.init.length ic, .slice MA ev.pod.spec.main.length mc, .int .i64 ev.pod.spec.restart, .int .i64 ev.pod.spec.grace, .int .i64 ev.pod.spec.prio, .int .i64 ev.pod.phase, .slice RA ev.pod.rs.length rc, .int .i64 ev.pod.mark, .int .i64 ev.pod.grace] 48) = v := ⟨_, rfl⟩
 have B2 := Lib.hid (show Below w.heap.size w w2 by rw [← hw2]; exact (Below.refl _ _).alloc (Nat.le_refl _) _)
 have X2 := Lib.hid (show w2.heap[w.heap.size]? = some (.cells #[.int .i64 ev.kind, .int .u64 ev.rev, .int .i64 ev.pod.uid, .int .u64 ev.pod.rev, .string ev.pod.spec.name, .slice LA ev.pod.spec.labels.length lc, .slice IA ev.pod.spec.init.length ic, .slice MA ev.pod.spec.main.length mc, .int .i64 ev.pod.spec.restart, .int .i64 ev.pod.spec.grace, .int .i64 ev.pod.spec.prio, .int .i64 ev.pod.phase, .slice RA ev.pod.rs.length rc, .int .i64 ev.pod.mark, .int .i64 ev.pod.grace] 48) by rw [← hw2]; exact heap_alloc_new w _)
 have c0 := box_cell X2.out 0 rfl
 have c1 := box_cell X2.out 1 rfl
 have c2 := box_cell X2.out 2 rfl
 have c3 := box_cell X2.out 3 rfl
 have c4 := box_cell X2.out 4 rfl
 have c5 := box_cell X2.out 5 rfl
 have c6 := box_cell X2.out 6 rfl
 have c7 := box_cell X2.out 7 rfl
 have c8 := box_cell X2.out 8 rfl
 have c9 := box_cell X2.out 9 rfl
 have c10 := box_cell X2.out 10 rfl
 have c11 := box_cell X2.out 11 rfl
 have c12 := box_cell X2.out 12 rfl
 have c13 := box_cell X2.out 13 rfl
 have c14 := box_cell X2.out 14 rfl
 go_enter Tryz.func106, Tryz.ntmps106
 cases b0 with
 | false =>
  have HD := Lib.hid (show false = noEventB ev from by have := HR.out; simpa using this)
  go_wp2
  go_ret
  exact ⟨Book.ret_b HD.out, B2.out⟩
 | true =>
  cases b1 with
  | false =>
   have HD := Lib.hid (show false = noEventB ev from by have := HR.out; simpa using this)
   go_wp2
   go_ret
   exact ⟨Book.ret_b HD.out, B2.out⟩
  | true =>
   go_wp2_with fail
   refine (noPodB_any ev.pod LA lc IA ic MA mc RA rc w2 (H.out.below B2.out)).mono ?_
   rintro e w3 ⟨rfl, hb3⟩
   have B3 := Lib.hid (B2.out.trans (hb3.mono B2.out.size))
   have X3 := Lib.hid ((hb3.block w.heap.size (lt_of_block X2.out)).trans X2.out)
   clear hb3 X2 hw2 c0 c1 c2 c3 c4 c5 c6 c7 c8 c9 c10 c11 c12 c13 c14
   rw [E2.out]
   have HD := Lib.hid (show b2 = noEventB ev from by have := HR.out; simpa using this)
   go_wp2
   go_ret
   exact ⟨Book.ret_b HD.out, B3.out⟩
set_option maxRecDepth 100000 in
set_option maxHeartbeats 4000000 in
theorem all_pods (A : Option Addr) (cap : Nat) (l : List Pd) (hn : l.length ≤ 100) (hLt : ∀ p ∈ l, LightP p) (w : World) (hL : SLaid w) (h : Pds w A l) :
 Calls Tryz.prog 153 #[.slice A l.length cap, .func (.func 55) #[] #[]] w fun e w' => e = .returned (.bool (l.all podB)) ∧ Below w.heap.size w w' := by
 have HLT := Lib.hid hLt
 have HL := Lib.hid hL
 have H := Lib.hid h
 clear hLt hL h
 have hn' : (l.length : Int) ≤ 100 := by omega
 clear hn
 go_enter Tryz.func153, Tryz.ntmps153
 go_wp2_with fail
 go_loopw [9] (fun i wr => ∃ k : Nat, k ≤ l.length ∧ i = .int .i64 k ∧ Hid (Below w.heap.size w wr) ∧ Hid ((l.take k).all podB = true)) (fun i _ => l.length - (RowKit.intOf i).toNat)
 case atStart => exact ⟨0, Nat.zero_le _, rfl, Below.refl _ _, by rfl⟩
 case round =>
  obtain ⟨k, hk, rfl, BW, HF⟩ := hrel
  by_cases hlt : k < l.length
  · obtain ⟨a, LA, lc, IA, ic, MA, mc, RA, rc, rfl, ha, hcIN⟩ := (H.out.below BW.out).at hlt
    have hka : (k : Int) < (l.length : Int) := by omega
    have HIN := Lib.hid hcIN
    have HMEM := Lib.hid (List.getElem_mem hlt)
    have HN := Lib.hid (all_next podB l k hlt HF.out)
    have HNO := Lib.hid (all_not podB l k hlt)
    obtain ⟨x, ex⟩ : ∃ x, l[k] = x := ⟨_, rfl⟩
    rw [ex] at HIN HMEM HN HNO
    have hc := HIN.out.1
    have c0 : wr.cell? (a.add (k * 13)) = some (.int .i64 x.uid) := hc.1
    have c1 : wr.cell? ⟨(a.add (k * 13)).block, (a.add (k * 13)).off + 1, none⟩ = some (.int .u64 x.rev) := hc.2 0 _ rfl
    have c2 : wr.cell? ⟨(a.add (k * 13)).block, (a.add (k * 13)).off + 2, none⟩ = some (.string x.spec.name) := hc.2 1 _ rfl
    have c3 : wr.cell? ⟨(a.add (k * 13)).block, (a.add (k * 13)).off + 3, none⟩ = some (.slice LA x.spec.labels.length lc) := hc.2 2 _ rfl
    have c4 : wr.cell? ⟨(a.add (k * 13)).block, (a.add (k * 13)).off + 4, none⟩ = some (.slice IA x.spec.init.length ic) := hc.2 3 _ rfl
    have c5 : wr.cell? ⟨(a.add (k * 13)).block, (a.add (k * 13)).off + 5, none⟩ = some (.slice MA x.spec.main.length mc) := hc.2 4 _ rfl
    have c6 : wr.cell? ⟨(a.add (k * 13)).block, (a.add (k * 13)).off + 6, none⟩ = some (.int .i64 x.spec.restart) := hc.2 5 _ rfl
    have c7 : wr.cell? ⟨(a.add (k * 13)).block, (a.add (k * 13)).off + 7, none⟩ = some (.int .i64 x.spec.grace) := hc.2 6 _ rfl
    have c8 : wr.cell? ⟨(a.add (k * 13)).block, (a.add (k * 13)).off + 8, none⟩ = some (.int .i64 x.spec.prio) := hc.2 7 _ rfl
    have c9 : wr.cell? ⟨(a.add (k * 13)).block, (a.add (k * 13)).off + 9, none⟩ = some (.int .i64 x.phase) := hc.2 8 _ rfl
    have c10 : wr.cell? ⟨(a.add (k * 13)).block, (a.add (k * 13)).off + 10, none⟩ = some (.slice RA x.rs.length rc) := hc.2 9 _ rfl
    have c11 : wr.cell? ⟨(a.add (k * 13)).block, (a.add (k * 13)).off + 11, none⟩ = some (.int .i64 x.mark) := hc.2 10 _ rfl
    have c12 : wr.cell? ⟨(a.add (k * 13)).block, (a.add (k * 13)).off + 12, none⟩ = some (.int .i64 x.grace) := hc.2 11 _ rfl
    clear hc ha ex hcIN HF
    go_wp2_with fail
    obtain ⟨w5, hw5⟩ : ∃ v, wr.alloc (.cells #[.int .i64 x.uid, .int .u64 x.rev, .string x.spec.name, .slice LA x.spec.labels.length lc, .slice IA x.spec.init.length ic, .slice MA x.spec.main.length mc, .int .i64 x.spec.restart, .int .i64 x.spec.grace, .int .i64 x.spec.prio, .int .i64 x.phase, .slice RA x.rs.length rc, .int .i64 x.mark, .int .i64 x.grace] 42) = v := ⟨_, rfl⟩
    have hb5 : Below wr.heap.size wr w5 := by rw [← hw5]; exact (Below.refl _ _).alloc (Nat.le_refl _) _
    have B5 := Lib.hid (BW.out.trans (hb5.mono BW.out.size))
    first | rw [hw5] | skip
    clear hw5
    refine (podB_any x LA lc IA ic MA mc RA rc w5 (HLT.out x HMEM.out) (HL.out.below B5.out) (HIN.out.2.below hb5)).mono ?_
    rintro e w6 ⟨rfl, hb6⟩
    have B6 := Lib.hid (B5.out.trans (hb6.mono B5.out.size))
    clear hb5 hb6 c0 c1 c2 c3 c4 c5 c6 c7 c8 c9 c10 c11 c12
    cases hm : podB x with
    | true =>
     have HT := Lib.hid (HN.out hm)
     clear hm HN HNO
     go_wp2
     go_roundw
     case rel => exact ⟨k + 1, by omega, by go_num, B6.out, HT.out⟩
     case measure => simp [RowKit.intOf]; omega
    | false =>
     have HD := Lib.hid (HNO.out hm)
     clear hm HN HNO
     go_wp2
     go_ret
     exact ⟨Book.ret_b HD.out.symm, B6.out⟩
  · have hka : ¬ (k : Int) < (l.length : Int) := by omega
    have HD := Lib.hid (show l.all podB = true by have := HF.out; rwa [List.take_of_length_le (by omega)] at this)
    clear HF
    go_wp2
    go_ret
    exact ⟨Book.ret_b HD.out.symm, BW.out⟩
set_option maxRecDepth 100000 in
set_option maxHeartbeats 4000000 in
theorem all_uses (A : Option Addr) (cap : Nat) (l : List (Int × Int × Int)) (hn : l.length ≤ 100) (w : World) (h : Uses w A l) :
 Calls Tryz.prog 154 #[.slice A l.length cap, .func (.func 155) #[] #[]] w fun e w' => e = .returned (.bool (l.all useB)) ∧ Below w.heap.size w w' := by
 have H := Lib.hid h
 clear h
 have hn' : (l.length : Int) ≤ 100 := by omega
 clear hn
 go_enter Tryz.func154, Tryz.ntmps154
 go_wp2_with fail
 go_loopw [9] (fun i wr => ∃ k : Nat, k ≤ l.length ∧ i = .int .i64 k ∧ Hid (Below w.heap.size w wr) ∧ Hid ((l.take k).all useB = true)) (fun i _ => l.length - (RowKit.intOf i).toNat)
 case atStart => exact ⟨0, Nat.zero_le _, rfl, Below.refl _ _, by rfl⟩
 case round =>
  obtain ⟨k, hk, rfl, BW, HF⟩ := hrel
  by_cases hlt : k < l.length
  · obtain ⟨a, rfl, ha, hcIN⟩ := (H.out.below BW.out).at hlt
    have hka : (k : Int) < (l.length : Int) := by omega
    have HIN := Lib.hid hcIN
    have HMEM := Lib.hid (List.getElem_mem hlt)
    have HN := Lib.hid (all_next useB l k hlt HF.out)
    have HNO := Lib.hid (all_not useB l k hlt)
    obtain ⟨x, ex⟩ : ∃ x, l[k] = x := ⟨_, rfl⟩
    rw [ex] at HIN HMEM HN HNO
    have hc := HIN.out
    have c0 : wr.cell? (a.add (k * 3)) = some (.int .i64 x.1) := hc.1
    have c1 : wr.cell? ⟨(a.add (k * 3)).block, (a.add (k * 3)).off + 1, none⟩ = some (.int .i64 x.2.1) := hc.2 0 _ rfl
    have c2 : wr.cell? ⟨(a.add (k * 3)).block, (a.add (k * 3)).off + 2, none⟩ = some (.int .i64 x.2.2) := hc.2 1 _ rfl
    clear hc ha ex hcIN HF
    go_wp2_with fail
    obtain ⟨w5, hw5⟩ : ∃ v, wr.alloc (.cells #[.int .i64 x.1, .int .i64 x.2.1, .int .i64 x.2.2] 70) = v := ⟨_, rfl⟩
    have hb5 : Below wr.heap.size wr w5 := by rw [← hw5]; exact (Below.refl _ _).alloc (Nat.le_refl _) _
    have B5 := Lib.hid (BW.out.trans (hb5.mono BW.out.size))
    first | rw [hw5] | skip
    clear hw5
    refine (useB_any x w5).mono ?_
    rintro e w6 ⟨rfl, hb6⟩
    have B6 := Lib.hid (B5.out.trans (hb6.mono B5.out.size))
    clear hb5 hb6 c0 c1 c2
    cases hm : useB x with
    | true =>
     have HT := Lib.hid (HN.out hm)
     clear hm HN HNO
     go_wp2
     go_roundw
     case rel => exact ⟨k + 1, by omega, by go_num, B6.out, HT.out⟩
     case measure => simp [RowKit.intOf]; omega
    | false =>
     have HD := Lib.hid (HNO.out hm)
     clear hm HN HNO
     go_wp2
     go_ret
     exact ⟨Book.ret_b HD.out.symm, B6.out⟩
  · have hka : ¬ (k : Int) < (l.length : Int) := by omega
    have HD := Lib.hid (show l.all useB = true by have := HF.out; rwa [List.take_of_length_le (by omega)] at this)
    clear HF
    go_wp2
    go_ret
    exact ⟨Book.ret_b HD.out.symm, BW.out⟩
set_option maxRecDepth 100000 in
set_option maxHeartbeats 4000000 in
theorem replyB_any (y : Rp) (PA : Option Addr) (pc : Nat) (UA : Option Addr) (uc : Nat) (w : World) (hLt : LightR y) (hL : SLaid w) (h : y.In w PA UA) :
 Calls Tryz.prog 107 #[.agg #[.int .i64 y.code, .int .i64 y.uid, .int .i64 y.id, .int .u64 y.rev, .string y.data, .slice PA y.pods.length pc, .slice UA y.use.length uc]] w fun e w' => e = .returned (.bool (replyB y)) ∧ Below w.heap.size w w' := by
 have HLT := Lib.hid hLt
 have HL := Lib.hid hL
 have H := Lib.hid h
 clear hLt hL h
 obtain ⟨b0, e0⟩ : ∃ b : Bool, inB y.code 0 999 = b := ⟨_, rfl⟩
 obtain ⟨b1, e1⟩ : ∃ b : Bool, inB y.uid 0 1073741824 = b := ⟨_, rfl⟩
 obtain ⟨b2, e2⟩ : ∃ b : Bool, inB y.id 0 1073741824 = b := ⟨_, rfl⟩
 obtain ⟨b3, e3⟩ : ∃ b : Bool, decide ((y.data.size : Int) ≤ 32) = b := ⟨_, rfl⟩
 obtain ⟨b4, e4⟩ : ∃ b : Bool, decide ((y.pods.length : Int) ≤ 16) = b := ⟨_, rfl⟩
 obtain ⟨b5, e5⟩ : ∃ b : Bool, y.pods.all podB = b := ⟨_, rfl⟩
 obtain ⟨b6, e6⟩ : ∃ b : Bool, decide ((y.use.length : Int) ≤ 4) = b := ⟨_, rfl⟩
 obtain ⟨b7, e7⟩ : ∃ b : Bool, y.use.all useB = b := ⟨_, rfl⟩
 have HR := Lib.hid (show (b0 && b1 && b2 && b3 && b4 && b5 && b6 && b7) = replyB y by rw [← e0, ← e1, ← e2, ← e3, ← e4, ← e5, ← e6, ← e7]; (try simp only [text_empty, len_zero, le_32, le_16, le_4, len_eq, rev_zero]); rfl)
 have E0 := Lib.hid e0
 clear e0
 have E1 := Lib.hid e1
 clear e1
 have E2 := Lib.hid e2
 clear e2
 have E5 := Lib.hid e5
 clear e5
 have E7 := Lib.hid e7
 clear e7
 obtain ⟨w2, hw2⟩ : ∃ v, w.alloc (.cells #[.int .i64 y.code, .int .i64 y.uid, .int .i64 y.id, .int .u64 y.rev, .string y.data, .slice PA y.pods.length pc, .slice UA y.use.length uc] 46) = v := ⟨_, rfl⟩
 have B2 := Lib.hid (show Below w.heap.size w w2 by rw [← hw2]; exact (Below.refl _ _).alloc (Nat.le_refl _) _)
 have X2 := Lib.hid (show w2.heap[w.heap.size]? = some (.cells #[.int .i64 y.code, .int .i64 y.uid, .int .i64 y.id, .int .u64 y.rev, .string y.data, .slice PA y.pods.length pc, .slice UA y.use.length uc] 46) by rw [← hw2]; exact heap_alloc_new w _)
 have c0 := box_cell X2.out 0 rfl
 have c1 := box_cell X2.out 1 rfl
 have c2 := box_cell X2.out 2 rfl
 have c4 := box_cell X2.out 4 rfl
 have c5 := box_cell X2.out 5 rfl
 go_enter Tryz.func107, Tryz.ntmps107
 go_wp2_with fail
 refine (within_any y.code 0 999 w2).mono ?_
 rintro e w3 ⟨rfl, rfl⟩
 rw [E0.out]
 cases b0 with
 | false =>
  have HD := Lib.hid (show false = replyB y from by have := HR.out; simpa using this)
  go_wp2
  go_ret
  exact ⟨Book.ret_b HD.out, B2.out⟩
 | true =>
  go_wp2_with fail
  refine (within_any y.uid 0 1073741824 w2).mono ?_
  rintro e w3 ⟨rfl, rfl⟩
  rw [E1.out]
  cases b1 with
  | false =>
   have HD := Lib.hid (show false = replyB y from by have := HR.out; simpa using this)
   go_wp2
   go_ret
   exact ⟨Book.ret_b HD.out, B2.out⟩
  | true =>
   go_wp2_with fail
   refine (within_any y.id 0 1073741824 w2).mono ?_
   rintro e w3 ⟨rfl, rfl⟩
   rw [E2.out]
   cases b2 with
   | false =>
    have HD := Lib.hid (show false = replyB y from by have := HR.out; simpa using this)
    go_wp2
    go_ret
    exact ⟨Book.ret_b HD.out, B2.out⟩
   | true =>
    cases b3 with
    | false =>
     have HD := Lib.hid (show false = replyB y from by have := HR.out; simpa using this)
     go_wp2
     go_ret
     exact ⟨Book.ret_b HD.out, B2.out⟩
    | true =>
     cases b4 with
     | false =>
      have HD := Lib.hid (show false = replyB y from by have := HR.out; simpa using this)
      go_wp2
      go_ret
      exact ⟨Book.ret_b HD.out, B2.out⟩
     | true =>
      go_wp2_with fail
      refine (all_pods PA pc y.pods (by have := HLT.out.np; omega) HLT.out.pods w2 (HL.out.below B2.out) (H.out.pods.below B2.out)).mono ?_
      rintro e w3 ⟨rfl, hb3⟩
      have B3 := Lib.hid (B2.out.trans (hb3.mono B2.out.size))
      have X3 := Lib.hid ((hb3.block w.heap.size (lt_of_block X2.out)).trans X2.out)
      clear hb3 X2 hw2 c0 c1 c2 c4 c5
      rw [E5.out]
      as_aux_lemma =>
       have c6 := box_cell X3.out 6 rfl
       cases b5 with
       | false =>
        have HD := Lib.hid (show false = replyB y from by have := HR.out; simpa using this)
        go_wp2
        go_ret
        exact ⟨Book.ret_b HD.out, B3.out⟩
       | true =>
        cases b6 with
        | false =>
         have HD := Lib.hid (show false = replyB y from by have := HR.out; simpa using this)
         go_wp2
         go_ret
         exact ⟨Book.ret_b HD.out, B3.out⟩
        | true =>
         go_wp2_with fail
         refine (all_uses UA uc y.use (by have := HLT.out.nu; omega) w3 (H.out.use.below B3.out)).mono ?_
         rintro e w4 ⟨rfl, hb4⟩
         have B4 := Lib.hid (B3.out.trans (hb4.mono B3.out.size))
         have X4 := Lib.hid ((hb4.block w.heap.size (lt_of_block X3.out)).trans X3.out)
         clear hb4 X3 c6
         rw [E7.out]
         have HD := Lib.hid (show b7 = replyB y from by have := HR.out; simpa using this)
         go_wp2
         go_ret
         exact ⟨Book.ret_b HD.out, B4.out⟩
end Tl
end Go.Proofs.YtljbpelogjmciaaGreatDoor
set_option linter.unusedVariables false
set_option linter.unusedSimpArgs false
namespace Go.Proofs.YtljbpelogjmciaaGreatDoor
open Go.ChangeShapes Go.WideShapes Go.ChangeAt Go.RowKit Go.Lib
open LebMath WirePure Sd Wire SpecOwn SpecRef Book Pk
namespace Tl
theorem le_20 (n : Nat) : decide ((n : Int) ≤ 20) = decide (n ≤ 20) := by
 have : ((n : Int) ≤ 20) ↔ n ≤ 20 := by omega
 simp only [this]
def lightPB (p : Pd) : Bool := LightB p.spec && decide (p.rs.length ≤ 20)
theorem lightPB_iff {p : Pd} : lightPB p = true ↔ LightP p := by
 unfold lightPB
 rw [Bool.and_eq_true, LightB_iff, decide_eq_true_eq]
 exact ⟨fun h => ⟨h.1, h.2⟩, fun h => ⟨h.spec, h.rs⟩⟩
def lightMB (m : Mg) : Bool := decide (m.reply.data.size ≤ 300) && decide (m.reply.pods.length ≤ 20) && decide (m.reply.use.length ≤ 20) && lightPB m.event.pod && m.reply.pods.all lightPB
theorem lightMB_iff {m : Mg} : lightMB m = true ↔ LightM m := by
 unfold lightMB
 simp only [Bool.and_eq_true, decide_eq_true_eq, lightPB_iff, List.all_eq_true]
 exact ⟨fun ⟨⟨⟨⟨h1, h2⟩, h3⟩, h4⟩, h5⟩ => ⟨⟨h1, h2, h3, h5⟩, h4⟩, fun h => ⟨⟨⟨⟨h.reply.data, h.reply.np⟩, h.reply.nu⟩, h.pod⟩, h.reply.pods⟩⟩
set_option maxRecDepth 100000 in
set_option maxHeartbeats 4000000 in
theorem lightP_any (p : Pd) (LA : Option Addr) (lc : Nat) (IA : Option Addr) (ic : Nat) (MA : Option Addr) (mc : Nat) (RA : Option Addr) (rc : Nat) (w : World) (h : p.In w LA lc IA ic MA mc RA) :
 Calls Tryz.prog 15 #[.agg #[.int .i64 p.uid, .int .u64 p.rev, .string p.spec.name, .slice LA p.spec.labels.length lc, .slice IA p.spec.init.length ic, .slice MA p.spec.main.length mc, .int .i64 p.spec.restart, .int .i64 p.spec.grace, .int .i64 p.spec.prio, .int .i64 p.phase, .slice RA p.rs.length rc, .int .i64 p.mark, .int .i64 p.grace]] w fun e w' => e = .returned (.bool (lightPB p)) ∧ Below w.heap.size w w' := by
 have H := Lib.hid h
 clear h
 obtain ⟨b0, e0⟩ : ∃ b : Bool, LightB p.spec = b := ⟨_, rfl⟩
 obtain ⟨b1, e1⟩ : ∃ b : Bool, decide ((p.rs.length : Int) ≤ 20) = b := ⟨_, rfl⟩
 have HR := Lib.hid (show (b0 && b1) = lightPB p by rw [← e0, ← e1]; (try simp only [le_20]); rfl)
 have E0 := Lib.hid e0
 clear e0
 obtain ⟨w2, hw2⟩ : ∃ v, w.alloc (.cells #[.int .i64 p.uid, .int .u64 p.rev, .string p.spec.name, .slice LA p.spec.labels.length lc, .slice IA p.spec.init.length ic, .slice MA p.spec.main.length mc, .int .i64 p.spec.restart, .int .i64 p.spec.grace, .int .i64 p.spec.prio, .int .i64 p.phase, .slice RA p.rs.length rc, .int .i64 p.mark, .int .i64 p.grace] 42) = v := ⟨_, rfl⟩
 have B2 := Lib.hid (show Below w.heap.size w w2 by rw [← hw2]; exact (Below.refl _ _).alloc (Nat.le_refl _) _)
 have X2 := Lib.hid (show w2.heap[w.heap.size]? = some (.cells #[.int .i64 p.uid, .int .u64 p.rev, .string p.spec.name, .slice LA p.spec.labels.length lc, .slice IA p.spec.init.length ic, .slice MA p.spec.main.length mc, .int .i64 p.spec.restart, .int .i64 p.spec.grace, .int .i64 p.spec.prio, .int .i64 p.phase, .slice RA p.rs.length rc, .int .i64 p.mark, .int .i64 p.grace] 42) by rw [← hw2]; exact heap_alloc_new w _)
 have c2 := box_cell X2.out 2 rfl
 have c3 := box_cell X2.out 3 rfl
 have c4 := box_cell X2.out 4 rfl
 have c5 := box_cell X2.out 5 rfl
 have c6 := box_cell X2.out 6 rfl
 have c7 := box_cell X2.out 7 rfl
 have c8 := box_cell X2.out 8 rfl
 go_enter Tryz.func15, Tryz.ntmps15
 go_wp2_with fail
 refine (light_any p.spec LA lc IA ic MA mc w2 (H.out.spec.below B2.out)).mono ?_
 rintro e w3 ⟨rfl, hb3⟩
 have B3 := Lib.hid (B2.out.trans (hb3.mono B2.out.size))
 have X3 := Lib.hid ((hb3.block w.heap.size (lt_of_block X2.out)).trans X2.out)
 clear hb3 X2 hw2 c2 c3 c4 c5 c6 c7 c8
 rw [E0.out]
 as_aux_lemma =>
  have c10 := box_cell X3.out 10 rfl
  cases b0 with
  | false =>
   have HD := Lib.hid (show false = lightPB p from by have := HR.out; simpa using this)
   go_wp2
   go_ret
   exact ⟨Book.ret_b HD.out, B3.out⟩
  | true =>
   have HD := Lib.hid (show b1 = lightPB p from by have := HR.out; simpa using this)
   go_wp2
   go_ret
   exact ⟨Book.ret_b HD.out, B3.out⟩
set_option maxRecDepth 100000 in
set_option maxHeartbeats 4000000 in
theorem lightM_any (m : Mg) (PA : Option Addr) (pc : Nat) (UA : Option Addr) (uc : Nat) (LA : Option Addr) (lc : Nat) (IA : Option Addr) (ic : Nat) (MA : Option Addr) (mc : Nat) (RA : Option Addr) (rc : Nat) (w : World) (h : m.In w PA UA LA lc IA ic MA mc RA) :
 Calls Tryz.prog 16 #[.agg #[.int .i64 m.kind, .int .i64 m.num, .int .i64 m.reply.code, .int .i64 m.reply.uid, .int .i64 m.reply.id, .int .u64 m.reply.rev, .string m.reply.data, .slice PA m.reply.pods.length pc, .slice UA m.reply.use.length uc, .int .i64 m.event.kind, .int .u64 m.event.rev, .int .i64 m.event.pod.uid, .int .u64 m.event.pod.rev, .string m.event.pod.spec.name, .slice LA m.event.pod.spec.labels.length lc, .slice IA m.event.pod.spec.init.length ic, .slice MA m.event.pod.spec.main.length mc, .int .i64 m.event.pod.spec.restart, .int .i64 m.event.pod.spec.grace, .int .i64 m.event.pod.spec.prio, .int .i64 m.event.pod.phase, .slice RA m.event.pod.rs.length rc, .int .i64 m.event.pod.mark, .int .i64 m.event.pod.grace]] w fun e w' => e = .returned (.bool (lightMB m)) ∧ Below w.heap.size w w' := by
 have H := Lib.hid h
 have HE := Lib.hid (show lightMB m = (decide (m.reply.data.size ≤ 300) && decide (m.reply.pods.length ≤ 20) && decide (m.reply.use.length ≤ 20) && lightPB m.event.pod && m.reply.pods.all lightPB) from rfl)
 clear h
 obtain ⟨w2, hw2⟩ : ∃ v, w.alloc (.cells #[.int .i64 m.kind, .int .i64 m.num, .int .i64 m.reply.code, .int .i64 m.reply.uid, .int .i64 m.reply.id, .int .u64 m.reply.rev, .string m.reply.data, .slice PA m.reply.pods.length pc, .slice UA m.reply.use.length uc, .int .i64 m.event.kind, .int .u64 m.event.rev, .int .i64 m.event.pod.uid, .int .u64 m.event.pod.rev, .string m.event.pod.spec.name, .slice LA m.event.pod.spec.labels.length lc, .slice IA m.event.pod.spec.init.length ic, .slice MA m.event.pod.spec.main.length mc, .int .i64 m.event.pod.spec.restart, .int .i64 m.event.pod.spec.grace, .int .i64 m.event.pod.spec.prio, .int .i64 m.event.pod.phase, .slice RA m.event.pod.rs.length rc, .int .i64 m.event.pod.mark, .int .i64 m.event.pod.grace] 50) = v := ⟨_, rfl⟩
 have B2 := Lib.hid (show Below w.heap.size w w2 by rw [← hw2]; exact (Below.refl _ _).alloc (Nat.le_refl _) _)
 have X2 := Lib.hid (show w2.heap[w.heap.size]? = some (.cells #[.int .i64 m.kind, .int .i64 m.num, .int .i64 m.reply.code, .int .i64 m.reply.uid, .int .i64 m.reply.id, .int .u64 m.reply.rev, .string m.reply.data, .slice PA m.reply.pods.length pc, .slice UA m.reply.use.length uc, .int .i64 m.event.kind, .int .u64 m.event.rev, .int .i64 m.event.pod.uid, .int .u64 m.event.pod.rev, .string m.event.pod.spec.name, .slice LA m.event.pod.spec.labels.length lc, .slice IA m.event.pod.spec.init.length ic, .slice MA m.event.pod.spec.main.length mc, .int .i64 m.event.pod.spec.restart, .int .i64 m.event.pod.spec.grace, .int .i64 m.event.pod.spec.prio, .int .i64 m.event.pod.phase, .slice RA m.event.pod.rs.length rc, .int .i64 m.event.pod.mark, .int .i64 m.event.pod.grace] 50) by rw [← hw2]; exact heap_alloc_new w _)
 have c6 := box_cell X2.out 6 rfl
 have c7 := box_cell X2.out 7 rfl
 have c8 := box_cell X2.out 8 rfl
 go_enter Tryz.func16, Tryz.ntmps16
 by_cases h1 : m.reply.data.size ≤ 300
 rotate_left
 · have h1' : ¬ (m.reply.data.size : Int) ≤ 300 := by omega
   have HD := Lib.hid (show false = lightMB m by rw [HE.out, decide_eq_false h1]; rfl)
   clear h1
   go_wp2
   go_ret
   exact ⟨Book.ret_b HD.out, B2.out⟩
 by_cases h2 : m.reply.pods.length ≤ 20
 rotate_left
 · have h1' : (m.reply.data.size : Int) ≤ 300 := by omega
   have h2' : ¬ (m.reply.pods.length : Int) ≤ 20 := by omega
   have HD := Lib.hid (show false = lightMB m by rw [HE.out, decide_eq_true h1, decide_eq_false h2]; rfl)
   clear h1 h2
   go_wp2
   go_ret
   exact ⟨Book.ret_b HD.out, B2.out⟩
 by_cases h3 : m.reply.use.length ≤ 20
 rotate_left
 · have h1' : (m.reply.data.size : Int) ≤ 300 := by omega
   have h2' : (m.reply.pods.length : Int) ≤ 20 := by omega
   have h3' : ¬ (m.reply.use.length : Int) ≤ 20 := by omega
   have HD := Lib.hid (show false = lightMB m by rw [HE.out, decide_eq_true h1, decide_eq_true h2, decide_eq_false h3]; rfl)
   clear h1 h2 h3
   go_wp2
   go_ret
   exact ⟨Book.ret_b HD.out, B2.out⟩
 have h1' : (m.reply.data.size : Int) ≤ 300 := by omega
 have h2' : (m.reply.pods.length : Int) ≤ 20 := by omega
 have h3' : (m.reply.use.length : Int) ≤ 20 := by omega
 have HE2 := Lib.hid (show lightMB m = (lightPB m.event.pod && m.reply.pods.all lightPB) by rw [HE.out, decide_eq_true h1, decide_eq_true h2, decide_eq_true h3]; rfl)
 clear h1 h2 h3 HE
 have c11 := box_cell X2.out 11 rfl
 have c12 := box_cell X2.out 12 rfl
 have c13 := box_cell X2.out 13 rfl
 have c14 := box_cell X2.out 14 rfl
 have c15 := box_cell X2.out 15 rfl
 have c16 := box_cell X2.out 16 rfl
 have c17 := box_cell X2.out 17 rfl
 have c18 := box_cell X2.out 18 rfl
 have c19 := box_cell X2.out 19 rfl
 have c20 := box_cell X2.out 20 rfl
 have c21 := box_cell X2.out 21 rfl
 have c22 := box_cell X2.out 22 rfl
 have c23 := box_cell X2.out 23 rfl
 go_wp2_with fail
 refine (lightP_any m.event.pod LA lc IA ic MA mc RA rc w2 (H.out.pod.below B2.out)).mono ?_
 rintro e w3 ⟨rfl, hb3⟩
 have B3 := Lib.hid (B2.out.trans (hb3.mono B2.out.size))
 have X3 := Lib.hid ((hb3.block w.heap.size (lt_of_block X2.out)).trans X2.out)
 clear hb3 X2 hw2 c6 c7 c8 c11 c12 c13 c14 c15 c16 c17 c18 c19 c20 c21 c22 c23
 cases hp : lightPB m.event.pod with
 | false =>
  have HD := Lib.hid (show false = lightMB m by rw [HE2.out, hp]; rfl)
  clear hp
  go_wp2
  go_ret
  exact ⟨Book.ret_b HD.out, B3.out⟩
 | true =>
  have HE3 := Lib.hid (show lightMB m = m.reply.pods.all lightPB by rw [HE2.out, hp]; rfl)
  clear hp HE2
  as_aux_lemma =>
   go_wp2_with fail
   go_loopw [3] (fun i wr => ∃ k : Nat, k ≤ m.reply.pods.length ∧ i = .int .i64 k ∧ Hid (Below w.heap.size w wr) ∧ Hid (Below w3.heap.size w3 wr) ∧ Hid ((m.reply.pods.take k).all lightPB = true)) (fun i _ => m.reply.pods.length - (RowKit.intOf i).toNat)
   case atStart => exact ⟨0, Nat.zero_le _, rfl, B3.out, Below.refl _ _, by rfl⟩
   case round =>
    obtain ⟨k, hk, rfl, BW, CW, HF⟩ := hrel
    have XW := Lib.hid ((CW.out.block w.heap.size (lt_of_block X3.out)).trans X3.out)
    have c7 := box_cell XW.out 7 rfl
    by_cases hlt : k < m.reply.pods.length
    · obtain ⟨a, LAx, lcx, IAx, icx, MAx, mcx, RAx, rcx, hPA, ha, hcIN⟩ := (H.out.reply.pods.below BW.out).at hlt
      have HPA := Lib.hid hPA
      have hka : (k : Int) < (m.reply.pods.length : Int) := by omega
      have HIN := Lib.hid hcIN
      have HN := Lib.hid (all_next lightPB m.reply.pods k hlt HF.out)
      have HNO := Lib.hid (all_not lightPB m.reply.pods k hlt)
      obtain ⟨x, ex⟩ : ∃ x, m.reply.pods[k] = x := ⟨_, rfl⟩
      rw [ex] at HIN HN HNO
      have CA := Lib.hid (show ∀ j_ v_, ([.int .i64 x.uid, .int .u64 x.rev, .string x.spec.name, .slice LAx x.spec.labels.length lcx, .slice IAx x.spec.init.length icx, .slice MAx x.spec.main.length mcx, .int .i64 x.spec.restart, .int .i64 x.spec.grace, .int .i64 x.spec.prio, .int .i64 x.phase, .slice RAx x.rs.length rcx, .int .i64 x.mark, .int .i64 x.grace] : List Value)[j_]? = some v_ → wr.cell? ((a.add (k * 13)).add j_) = some v_ from CellsAt.all HIN.out.1)
      clear ha ex hcIN HF hPA
      rw [HPA.out] at c7
      as_aux_lemma =>
       go_wp2_with (refine wpList_load_addr rfl _ _ rfl _ rfl _ _ CA.out Tryz.underlying42 rfl (by kernel_rfl) ?_)
       refine (lightP_any x LAx lcx IAx icx MAx mcx RAx rcx wr HIN.out.2).mono ?_
       rintro e w6 ⟨rfl, hb6⟩
       have B6 := Lib.hid (BW.out.trans (hb6.mono BW.out.size))
       have C6 := Lib.hid (CW.out.trans (hb6.mono CW.out.size))
       clear hb6 CA
       cases hm : lightPB x with
       | true =>
        have HT := Lib.hid (HN.out hm)
        clear hm HN HNO
        go_wp2
        go_roundw
        case rel => exact ⟨k + 1, by omega, by go_num, B6.out, C6.out, HT.out⟩
        case measure => simp [RowKit.intOf]; omega
       | false =>
        have HD := Lib.hid (show false = lightMB m from (HE3.out.trans (HNO.out hm)).symm)
        clear hm HN HNO
        go_wp2
        go_ret
        exact ⟨Book.ret_b HD.out, B6.out⟩
    · have hka : ¬ (k : Int) < (m.reply.pods.length : Int) := by omega
      have HD := Lib.hid (show true = lightMB m by have := HF.out; rw [List.take_of_length_le (by omega)] at this; exact (HE3.out.trans this).symm)
      clear HF
      go_wp2
      go_ret
      exact ⟨Book.ret_b HD.out, BW.out⟩
end Tl
end Go.Proofs.YtljbpelogjmciaaGreatDoor
set_option linter.unusedVariables false
set_option linter.unusedSimpArgs false
namespace Go.Proofs.YtljbpelogjmciaaGreatDoor
open Go.ChangeShapes Go.WideShapes Go.ChangeAt Go.RowKit Go.Lib
open LebMath WirePure Sd Wire SpecOwn SpecRef Book Pk
namespace Tl
set_option maxRecDepth 100000 in
set_option maxHeartbeats 4000000 in
theorem eventB_any (ev : Ev) (LA : Option Addr) (lc : Nat) (IA : Option Addr) (ic : Nat) (MA : Option Addr) (mc : Nat) (RA : Option Addr) (rc : Nat) (w : World) (hLt : LightP ev.pod) (hL : SLaid w) (h : ev.pod.In w LA lc IA ic MA mc RA) :
 Calls Tryz.prog 109 #[.agg #[.int .i64 ev.kind, .int .u64 ev.rev, .int .i64 ev.pod.uid, .int .u64 ev.pod.rev, .string ev.pod.spec.name, .slice LA ev.pod.spec.labels.length lc, .slice IA ev.pod.spec.init.length ic, .slice MA ev.pod.spec.main.length mc, .int .i64 ev.pod.spec.restart, .int .i64 ev.pod.spec.grace, .int .i64 ev.pod.spec.prio, .int .i64 ev.pod.phase, .slice RA ev.pod.rs.length rc, .int .i64 ev.pod.mark, .int .i64 ev.pod.grace]] w fun e w' => e = .returned (.bool (eventB ev)) ∧ Below w.heap.size w w' := by
 have HLT := Lib.hid hLt
 have HL := Lib.hid hL
 have H := Lib.hid h
 have HE := Lib.hid (show eventB ev = (hasB ev.kind && podB ev.pod || noneB ev.kind && noPodB ev.pod) from rfl)
 have HXX := Lib.hid (show hasB ev.kind = true → noneB ev.kind = false from fun h => by
  have h1 := inB_iff.1 h
  rw [Bool.eq_false_iff]
  intro h2
  have h3 := inB_iff.1 h2
  omega)
 clear hLt hL h
 obtain ⟨w2, hw2⟩ : ∃ v, w.alloc (.cells #[.int .i64 ev.kind, .int .u64 ev.rev, .int .i64 ev.pod.uid, .int .u64 ev.pod.rev, .string ev.pod.spec.name, .slice LA ev.pod.spec.labels.length lc, .slice IA ev.pod.spec.init.length ic, .slice MA ev.pod.spec.main.length mc, .int .i64 ev.pod.spec.restart, .int .i64 ev.pod.spec.grace, .int .i64 ev.pod.spec.prio, .int .i64 ev.pod.phase, .slice RA ev.pod.rs.length rc, .int .i64 ev.pod.mark, .int .i64 ev.pod.grace] 48) = v := ⟨_, rfl⟩
 have B2 := Lib.hid (show Below w.heap.size w w2 by rw [← hw2]; exact (Below.refl _ _).alloc (Nat.le_refl _) _)
 have X2 := Lib.hid (show w2.heap[w.heap.size]? = some (.cells #[.int .i64 ev.kind, .int .u64 ev.rev, .int .i64 ev.pod.uid, .int .u64 ev.pod.rev, .string ev.pod.spec.name, .slice LA ev.pod.spec.labels.length lc, .slice IA ev.pod.spec.init.length ic, .slice MA ev.pod.spec.main.length mc, .int .i64 ev.pod.spec.restart, .int .i64 ev.pod.spec.grace, .int .i64 ev.pod.spec.prio, .int .i64 ev.pod.phase, .slice RA ev.pod.rs.length rc, .int .i64 ev.pod.mark, .int .i64 ev.pod.grace] 48) by rw [← hw2]; exact heap_alloc_new w _)
 have c0 := box_cell X2.out 0 rfl
 have c1 := box_cell X2.out 1 rfl
 have c2 := box_cell X2.out 2 rfl
 have c3 := box_cell X2.out 3 rfl
 have c4 := box_cell X2.out 4 rfl
 have c5 := box_cell X2.out 5 rfl
 have c6 := box_cell X2.out 6 rfl
 have c7 := box_cell X2.out 7 rfl
 have c8 := box_cell X2.out 8 rfl
 have c9 := box_cell X2.out 9 rfl
 have c10 := box_cell X2.out 10 rfl
 have c11 := box_cell X2.out 11 rfl
 have c12 := box_cell X2.out 12 rfl
 have c13 := box_cell X2.out 13 rfl
 have c14 := box_cell X2.out 14 rfl
 go_enter Tryz.func109, Tryz.ntmps109
 go_wp2_with fail
 refine (hasB_any ev.kind w2).mono ?_
 rintro e w3 ⟨rfl, rfl⟩
 cases hk : hasB ev.kind with
 | true =>
  have HNN := Lib.hid (HXX.out hk)
  rw [hk] at HE
  clear hk HXX
  go_wp2_with fail
  refine (podB_any ev.pod LA lc IA ic MA mc RA rc w2 HLT.out (HL.out.below B2.out) (H.out.below B2.out)).mono ?_
  rintro e w3 ⟨rfl, hb3⟩
  clear hw2
  have B3 := Lib.hid (B2.out.trans (hb3.mono B2.out.size))
  have X3 := Lib.hid ((hb3.block w.heap.size (lt_of_block X2.out)).trans X2.out)
  clear hb3 X2
  clear c0 c1 c2 c3 c4 c5 c6 c7 c8 c9 c10 c11 c12 c13 c14
  have c0 := box_cell X3.out 0 rfl
  cases hp : podB ev.pod with
  | true =>
   rw [hp] at HE
   clear hp
   have HD := Lib.hid (show true = eventB ev from by rw [HE.out]; rfl)
   go_wp2
   go_ret
   exact ⟨Book.ret_b HD.out, B3.out⟩
  | false =>
   rw [hp] at HE
   clear hp
   go_wp2_with fail
   refine (noneB_any ev.kind w3).mono ?_
   rintro e w4 ⟨rfl, rfl⟩
   rw [HNN.out]
   have HD := Lib.hid (show false = eventB ev from by rw [HE.out, HNN.out]; rfl)
   go_wp2
   go_ret
   exact ⟨Book.ret_b HD.out, B3.out⟩
 | false =>
  rw [hk] at HE
  clear hk HXX
  go_wp2_with fail
  refine (noneB_any ev.kind w2).mono ?_
  rintro e w3 ⟨rfl, rfl⟩
  cases hn : noneB ev.kind with
  | false =>
   rw [hn] at HE
   clear hn
   have HD := Lib.hid (show false = eventB ev from by rw [HE.out]; rfl)
   go_wp2
   go_ret
   exact ⟨Book.ret_b HD.out, B2.out⟩
  | true =>
   rw [hn] at HE
   clear hn
   go_wp2_with fail
   refine (noPodB_any ev.pod LA lc IA ic MA mc RA rc w2 (H.out.below B2.out)).mono ?_
   rintro e w3 ⟨rfl, hb3⟩
   clear hw2
   have B3 := Lib.hid (B2.out.trans (hb3.mono B2.out.size))
   have X3 := Lib.hid ((hb3.block w.heap.size (lt_of_block X2.out)).trans X2.out)
   clear hb3 X2
   clear c0 c1 c2 c3 c4 c5 c6 c7 c8 c9 c10 c11 c12 c13 c14
   obtain ⟨z, hz⟩ : ∃ z, noPodB ev.pod = z := ⟨_, rfl⟩
   rw [hz] at HE ⊢
   clear hz
   have HD := Lib.hid (show z = eventB ev from by rw [HE.out]; simp)
   go_wp2
   go_ret
   exact ⟨Book.ret_b HD.out, B3.out⟩
set_option maxRecDepth 100000 in
set_option maxHeartbeats 4000000 in
theorem msgB_any (m : Mg) (PA : Option Addr) (pc : Nat) (UA : Option Addr) (uc : Nat) (LA : Option Addr) (lc : Nat) (IA : Option Addr) (ic : Nat) (MA : Option Addr) (mc : Nat) (RA : Option Addr) (rc : Nat) (w : World) (hLt : LightM m) (hL : SLaid w) (h : m.In w PA UA LA lc IA ic MA mc RA) :
 Calls Tryz.prog 58 #[.agg #[.int .i64 m.kind, .int .i64 m.num, .int .i64 m.reply.code, .int .i64 m.reply.uid, .int .i64 m.reply.id, .int .u64 m.reply.rev, .string m.reply.data, .slice PA m.reply.pods.length pc, .slice UA m.reply.use.length uc, .int .i64 m.event.kind, .int .u64 m.event.rev, .int .i64 m.event.pod.uid, .int .u64 m.event.pod.rev, .string m.event.pod.spec.name, .slice LA m.event.pod.spec.labels.length lc, .slice IA m.event.pod.spec.init.length ic, .slice MA m.event.pod.spec.main.length mc, .int .i64 m.event.pod.spec.restart, .int .i64 m.event.pod.spec.grace, .int .i64 m.event.pod.spec.prio, .int .i64 m.event.pod.phase, .slice RA m.event.pod.rs.length rc, .int .i64 m.event.pod.mark, .int .i64 m.event.pod.grace]] w fun e w' => e = .returned (.bool (msgB m)) ∧ Below w.heap.size w w' := by
 have HLT := Lib.hid hLt
 have HL := Lib.hid hL
 have H := Lib.hid h
 have HE := Lib.hid (show msgB m = (inB m.num 1 1073741824 && (if m.kind = 1 then noEventB m.event && replyB m.reply else if m.kind = 2 then noReplyB m.reply && eventB m.event else false)) from rfl)
 clear hLt hL h
 obtain ⟨w2, hw2⟩ : ∃ v, w.alloc (.cells #[.int .i64 m.kind, .int .i64 m.num, .int .i64 m.reply.code, .int .i64 m.reply.uid, .int .i64 m.reply.id, .int .u64 m.reply.rev, .string m.reply.data, .slice PA m.reply.pods.length pc, .slice UA m.reply.use.length uc, .int .i64 m.event.kind, .int .u64 m.event.rev, .int .i64 m.event.pod.uid, .int .u64 m.event.pod.rev, .string m.event.pod.spec.name, .slice LA m.event.pod.spec.labels.length lc, .slice IA m.event.pod.spec.init.length ic, .slice MA m.event.pod.spec.main.length mc, .int .i64 m.event.pod.spec.restart, .int .i64 m.event.pod.spec.grace, .int .i64 m.event.pod.spec.prio, .int .i64 m.event.pod.phase, .slice RA m.event.pod.rs.length rc, .int .i64 m.event.pod.mark, .int .i64 m.event.pod.grace] 50) = v := ⟨_, rfl⟩
 have B2 := Lib.hid (show Below w.heap.size w w2 by rw [← hw2]; exact (Below.refl _ _).alloc (Nat.le_refl _) _)
 have X2 := Lib.hid (show w2.heap[w.heap.size]? = some (.cells #[.int .i64 m.kind, .int .i64 m.num, .int .i64 m.reply.code, .int .i64 m.reply.uid, .int .i64 m.reply.id, .int .u64 m.reply.rev, .string m.reply.data, .slice PA m.reply.pods.length pc, .slice UA m.reply.use.length uc, .int .i64 m.event.kind, .int .u64 m.event.rev, .int .i64 m.event.pod.uid, .int .u64 m.event.pod.rev, .string m.event.pod.spec.name, .slice LA m.event.pod.spec.labels.length lc, .slice IA m.event.pod.spec.init.length ic, .slice MA m.event.pod.spec.main.length mc, .int .i64 m.event.pod.spec.restart, .int .i64 m.event.pod.spec.grace, .int .i64 m.event.pod.spec.prio, .int .i64 m.event.pod.phase, .slice RA m.event.pod.rs.length rc, .int .i64 m.event.pod.mark, .int .i64 m.event.pod.grace] 50) by rw [← hw2]; exact heap_alloc_new w _)
 have c0 := box_cell X2.out 0 rfl
 have c1 := box_cell X2.out 1 rfl
 have c2 := box_cell X2.out 2 rfl
 have c3 := box_cell X2.out 3 rfl
 have c4 := box_cell X2.out 4 rfl
 have c5 := box_cell X2.out 5 rfl
 have c6 := box_cell X2.out 6 rfl
 have c7 := box_cell X2.out 7 rfl
 have c8 := box_cell X2.out 8 rfl
 have c9 := box_cell X2.out 9 rfl
 have c10 := box_cell X2.out 10 rfl
 have c11 := box_cell X2.out 11 rfl
 have c12 := box_cell X2.out 12 rfl
 have c13 := box_cell X2.out 13 rfl
 have c14 := box_cell X2.out 14 rfl
 have c15 := box_cell X2.out 15 rfl
 have c16 := box_cell X2.out 16 rfl
 have c17 := box_cell X2.out 17 rfl
 have c18 := box_cell X2.out 18 rfl
 have c19 := box_cell X2.out 19 rfl
 have c20 := box_cell X2.out 20 rfl
 have c21 := box_cell X2.out 21 rfl
 have c22 := box_cell X2.out 22 rfl
 have c23 := box_cell X2.out 23 rfl
 go_enter Tryz.func58, Tryz.ntmps58
 go_wp2_with fail
 refine (within_any m.num 1 1073741824 w2).mono ?_
 rintro e w3 ⟨rfl, rfl⟩
 cases hn : inB m.num 1 1073741824 with
 | false =>
  rw [hn] at HE
  clear hn
  have HD := Lib.hid (show false = msgB m from by rw [HE.out]; rfl)
  go_wp2
  go_ret
  exact ⟨Book.ret_b HD.out, B2.out⟩
 | true =>
  rw [hn] at HE
  clear hn
  by_cases hk1 : m.kind = 1
  · rw [if_pos hk1] at HE
    have hq : (m.kind == 1) = true := by rw [hk1]; rfl
    clear hk1
    as_aux_lemma =>
     go_wp2_with fail
     refine (noEventB_any m.event LA lc IA ic MA mc RA rc w2 (H.out.pod.below B2.out)).mono ?_
     rintro e w3 ⟨rfl, hb3⟩
     clear hw2
     have B3 := Lib.hid (B2.out.trans (hb3.mono B2.out.size))
     have X3 := Lib.hid ((hb3.block w.heap.size (lt_of_block X2.out)).trans X2.out)
     clear hb3 X2
     clear c0 c1 c2 c3 c4 c5 c6 c7 c8 c9 c10 c11 c12 c13 c14 c15 c16 c17 c18 c19 c20 c21 c22 c23
     as_aux_lemma =>
      have c2 := box_cell X3.out 2 rfl
      have c3 := box_cell X3.out 3 rfl
      have c4 := box_cell X3.out 4 rfl
      have c5 := box_cell X3.out 5 rfl
      have c6 := box_cell X3.out 6 rfl
      have c7 := box_cell X3.out 7 rfl
      have c8 := box_cell X3.out 8 rfl
      cases h1 : noEventB m.event with
      | false =>
       rw [h1] at HE
       clear h1
       have HD := Lib.hid (show false = msgB m from by rw [HE.out]; rfl)
       go_wp2
       go_ret
       exact ⟨Book.ret_b HD.out, B3.out⟩
      | true =>
       rw [h1] at HE
       clear h1
       go_wp2_with fail
       refine (replyB_any m.reply PA pc UA uc w3 HLT.out.reply (HL.out.below B3.out) (H.out.reply.below B3.out)).mono ?_
       rintro e w4 ⟨rfl, hb4⟩
       have B4 := Lib.hid (B3.out.trans (hb4.mono B3.out.size))
       clear hb4
       obtain ⟨z, hz⟩ : ∃ z, replyB m.reply = z := ⟨_, rfl⟩
       rw [hz] at HE ⊢
       clear hz
       have HD := Lib.hid (show z = msgB m from by rw [HE.out]; simp)
       go_wp2
       go_ret
       exact ⟨Book.ret_b HD.out, B4.out⟩
  by_cases hk2 : m.kind = 2
  · rw [if_neg hk1, if_pos hk2] at HE
    have hq : (m.kind == 1) = false := by rw [hk2]; rfl
    have hq2 : (m.kind == 2) = true := by rw [hk2]; rfl
    clear hk1 hk2
    as_aux_lemma =>
     go_wp2_with fail
     refine (noReplyB_any m.reply PA pc UA uc w2).mono ?_
     rintro e w3 ⟨rfl, hb3⟩
     clear hw2
     have B3 := Lib.hid (B2.out.trans (hb3.mono B2.out.size))
     have X3 := Lib.hid ((hb3.block w.heap.size (lt_of_block X2.out)).trans X2.out)
     clear hb3 X2
     clear c0 c1 c2 c3 c4 c5 c6 c7 c8 c9 c10 c11 c12 c13 c14 c15 c16 c17 c18 c19 c20 c21 c22 c23
     as_aux_lemma =>
      have c9 := box_cell X3.out 9 rfl
      have c10 := box_cell X3.out 10 rfl
      have c11 := box_cell X3.out 11 rfl
      have c12 := box_cell X3.out 12 rfl
      have c13 := box_cell X3.out 13 rfl
      have c14 := box_cell X3.out 14 rfl
      have c15 := box_cell X3.out 15 rfl
      have c16 := box_cell X3.out 16 rfl
      have c17 := box_cell X3.out 17 rfl
      have c18 := box_cell X3.out 18 rfl
      have c19 := box_cell X3.out 19 rfl
      have c20 := box_cell X3.out 20 rfl
      have c21 := box_cell X3.out 21 rfl
      have c22 := box_cell X3.out 22 rfl
      have c23 := box_cell X3.out 23 rfl
      cases h1 : noReplyB m.reply with
      | false =>
       rw [h1] at HE
       clear h1
       have HD := Lib.hid (show false = msgB m from by rw [HE.out]; rfl)
       go_wp2
       go_ret
       exact ⟨Book.ret_b HD.out, B3.out⟩
      | true =>
       rw [h1] at HE
       clear h1
       go_wp2_with fail
       refine (eventB_any m.event LA lc IA ic MA mc RA rc w3 HLT.out.pod (HL.out.below B3.out) (H.out.pod.below B3.out)).mono ?_
       rintro e w4 ⟨rfl, hb4⟩
       have B4 := Lib.hid (B3.out.trans (hb4.mono B3.out.size))
       clear hb4
       obtain ⟨z, hz⟩ : ∃ z, eventB m.event = z := ⟨_, rfl⟩
       rw [hz] at HE ⊢
       clear hz
       have HD := Lib.hid (show z = msgB m from by rw [HE.out]; simp)
       go_wp2
       go_ret
       exact ⟨Book.ret_b HD.out, B4.out⟩
  rw [if_neg hk1, if_neg hk2] at HE
  have hq : (m.kind == 1) = false := by rw [beq_eq_false_iff_ne]; exact hk1
  have hq2 : (m.kind == 2) = false := by rw [beq_eq_false_iff_ne]; exact hk2
  clear hk1 hk2
  have HD := Lib.hid (show false = msgB m from by rw [HE.out]; rfl)
  go_wp2
  go_ret
  exact ⟨Book.ret_b HD.out, B2.out⟩
set_option maxRecDepth 100000 in
set_option maxHeartbeats 4000000 in
theorem check_code (m : Mg) (PA : Option Addr) (pc : Nat) (UA : Option Addr) (uc : Nat) (LA : Option Addr) (lc : Nat) (IA : Option Addr) (ic : Nat) (MA : Option Addr) (mc : Nat) (RA : Option Addr) (rc : Nat) (w : World) (hLt : LightM m) (hL : SLaid w) (h : m.In w PA UA LA lc IA ic MA mc RA) :
 Calls Tryz.prog 24 #[.agg #[.int .i64 m.kind, .int .i64 m.num, .int .i64 m.reply.code, .int .i64 m.reply.uid, .int .i64 m.reply.id, .int .u64 m.reply.rev, .string m.reply.data, .slice PA m.reply.pods.length pc, .slice UA m.reply.use.length uc, .int .i64 m.event.kind, .int .u64 m.event.rev, .int .i64 m.event.pod.uid, .int .u64 m.event.pod.rev, .string m.event.pod.spec.name, .slice LA m.event.pod.spec.labels.length lc, .slice IA m.event.pod.spec.init.length ic, .slice MA m.event.pod.spec.main.length mc, .int .i64 m.event.pod.spec.restart, .int .i64 m.event.pod.spec.grace, .int .i64 m.event.pod.spec.prio, .int .i64 m.event.pod.phase, .slice RA m.event.pod.rs.length rc, .int .i64 m.event.pod.mark, .int .i64 m.event.pod.grace]] w fun e w' => e = .returned (.int .i64 (bif msgB m then 0 else 4)) ∧ Below w.heap.size w w' := by
 have HLT := Lib.hid hLt
 have HL := Lib.hid hL
 have H := Lib.hid h
 clear hLt hL h
 obtain ⟨w2, hw2⟩ : ∃ v, w.alloc (.cells #[.int .i64 m.kind, .int .i64 m.num, .int .i64 m.reply.code, .int .i64 m.reply.uid, .int .i64 m.reply.id, .int .u64 m.reply.rev, .string m.reply.data, .slice PA m.reply.pods.length pc, .slice UA m.reply.use.length uc, .int .i64 m.event.kind, .int .u64 m.event.rev, .int .i64 m.event.pod.uid, .int .u64 m.event.pod.rev, .string m.event.pod.spec.name, .slice LA m.event.pod.spec.labels.length lc, .slice IA m.event.pod.spec.init.length ic, .slice MA m.event.pod.spec.main.length mc, .int .i64 m.event.pod.spec.restart, .int .i64 m.event.pod.spec.grace, .int .i64 m.event.pod.spec.prio, .int .i64 m.event.pod.phase, .slice RA m.event.pod.rs.length rc, .int .i64 m.event.pod.mark, .int .i64 m.event.pod.grace] 50) = v := ⟨_, rfl⟩
 have B2 := Lib.hid (show Below w.heap.size w w2 by rw [← hw2]; exact (Below.refl _ _).alloc (Nat.le_refl _) _)
 have X2 := Lib.hid (show w2.heap[w.heap.size]? = some (.cells #[.int .i64 m.kind, .int .i64 m.num, .int .i64 m.reply.code, .int .i64 m.reply.uid, .int .i64 m.reply.id, .int .u64 m.reply.rev, .string m.reply.data, .slice PA m.reply.pods.length pc, .slice UA m.reply.use.length uc, .int .i64 m.event.kind, .int .u64 m.event.rev, .int .i64 m.event.pod.uid, .int .u64 m.event.pod.rev, .string m.event.pod.spec.name, .slice LA m.event.pod.spec.labels.length lc, .slice IA m.event.pod.spec.init.length ic, .slice MA m.event.pod.spec.main.length mc, .int .i64 m.event.pod.spec.restart, .int .i64 m.event.pod.spec.grace, .int .i64 m.event.pod.spec.prio, .int .i64 m.event.pod.phase, .slice RA m.event.pod.rs.length rc, .int .i64 m.event.pod.mark, .int .i64 m.event.pod.grace] 50) by rw [← hw2]; exact heap_alloc_new w _)
 have RG := Lib.hid (range_at X2.out 0 [.int .i64 m.kind, .int .i64 m.num, .int .i64 m.reply.code, .int .i64 m.reply.uid, .int .i64 m.reply.id, .int .u64 m.reply.rev, .string m.reply.data, .slice PA m.reply.pods.length pc, .slice UA m.reply.use.length uc, .int .i64 m.event.kind, .int .u64 m.event.rev, .int .i64 m.event.pod.uid, .int .u64 m.event.pod.rev, .string m.event.pod.spec.name, .slice LA m.event.pod.spec.labels.length lc, .slice IA m.event.pod.spec.init.length ic, .slice MA m.event.pod.spec.main.length mc, .int .i64 m.event.pod.spec.restart, .int .i64 m.event.pod.spec.grace, .int .i64 m.event.pod.spec.prio, .int .i64 m.event.pod.phase, .slice RA m.event.pod.rs.length rc, .int .i64 m.event.pod.mark, .int .i64 m.event.pod.grace] rfl)
 go_enter Tryz.func24, Tryz.ntmps24
 go_wp2_with (refine wpList_load_mid rfl _ _ rfl _ _ rfl _ _ RG.out Tryz.underlying50 rfl (by kernel_rfl) ?_)
 refine (msgB_any m PA pc UA uc LA lc IA ic MA mc RA rc w2 HLT.out (HL.out.below B2.out) (H.out.below B2.out)).mono ?_
 rintro e w3 ⟨rfl, hb3⟩
 clear hw2 RG
 have B3 := Lib.hid (B2.out.trans (hb3.mono B2.out.size))
 have X3 := Lib.hid ((hb3.block w.heap.size (lt_of_block X2.out)).trans X2.out)
 clear hb3 X2
 as_aux_lemma =>
  go_wp2_with fail
  refine (shape_any (msgB m) w3).mono ?_
  rintro e w4 ⟨rfl, rfl⟩
  go_wp2
  go_ret
  exact ⟨rfl, B3.out⟩
end Tl
end Go.Proofs.YtljbpelogjmciaaGreatDoor
set_option linter.unusedVariables false
set_option linter.unusedSimpArgs false
namespace Go.Proofs.YtljbpelogjmciaaGreatDoor
open Go.ChangeShapes Go.WideShapes Go.ChangeAt Go.RowKit Go.Lib
open LebMath WirePure Sd Wire SpecOwn SpecRef Book Pk
namespace Tl
structure PodParts (p : Pd) : Prop where
 uid : uidC.ok p.uid
 rev : revC.ok p.rev
 spec : specC.ok p.spec
 phase : phaseC.ok p.phase
 len : p.rs.length = p.spec.main.length
 rs : ∀ x ∈ p.rs, uidC.ok x
 mark : markC.ok p.mark
 grace : graceC.ok p.grace
theorem pod_parts {p : Pd} (h : podC.ok p) : PodParts p := ⟨h.1.1.1, h.1.1.2.1, h.1.1.2.2.1, h.1.1.2.2.2, h.1.2.1.1, h.1.2.1.2, h.1.2.2.1, h.1.2.2.2⟩
theorem pod_put_len {p : Pd} (h : podC.ok p) (hl : p.rs.length ≤ 20) : (podC.put p).length ≤ 3100000 := by
 have h := pod_parts h
 have L1 : (uidC.put p.uid).length ≤ 10 := int_put_len h.uid
 have hr : p.rev ≤ 18446744073709551615 := h.rev
 have L2 := leb_le_ten (n := p.rev) (by omega)
 have L3 := spec_put_len h.spec
 have L4 : (phaseC.put p.phase).length ≤ 10 := int_put_len h.phase
 have L5 : (p.rs.flatMap uidC.put).length ≤ 20 * 10 := Nat.le_trans (flat_put_len uidC.put 10 p.rs (fun y hy => int_put_len (h.rs y hy))) (Nat.mul_le_mul_right _ hl)
 have L6 : (markC.put p.mark).length ≤ 10 := int_put_len h.mark
 have L7 : (graceC.put p.grace).length ≤ 10 := int_put_len h.grace
 have e : podC.put p = (uidC.put p.uid ++ (leb p.rev ++ (specC.put p.spec ++ phaseC.put p.phase))) ++ (p.rs.flatMap uidC.put ++ (markC.put p.mark ++ graceC.put p.grace)) := rfl
 rw [e]
 simp only [List.length_append]
 omega
set_option maxRecDepth 100000 in
set_option maxHeartbeats 4000000 in
theorem use_wr (g : Nat) (D : Nat → Prop) (c : Int) (xs : List UInt8) (u : Int × Int × Int) (hok : resC.ok u) (hz : xs.length + 1000 ≤ 140737488355328) (w0 w : World) (hb : Below w0.heap.size w0 w) (hD : ∀ k, k < w0.heap.size → D k) (h : Wr w g D c xs) :
 Calls Tryz.prog 115 #[.pointer (some ⟨g, 0, none⟩), .agg #[.int .i64 u.1, .int .i64 u.2.1, .int .i64 u.2.2]] w fun e w' => e = .returned (.tuple #[]) ∧ Wr w' g D c (addB c xs (resC.put u)) ∧ Kept D w w' := by
 have HOK := Lib.hid hok
 have HZ := Lib.hid hz
 have HB := Lib.hid hb
 have HD := Lib.hid hD
 have L1 := Lib.hid (show (bigC.put u.1).length ≤ 10 from int_put_len hok.1)
 have L2 := Lib.hid (show (bigC.put u.2.1).length ≤ 10 from int_put_len hok.2.1)
 have L3 := Lib.hid (show (bigC.put u.2.2).length ≤ 10 from int_put_len hok.2.2)
 clear hok hz hb hD
 obtain ⟨w1, hw1⟩ : ∃ v, w.alloc (.cells #[.int .i64 u.1, .int .i64 u.2.1, .int .i64 u.2.2] 70) = v := ⟨_, rfl⟩
 have hb1 : Below w.heap.size w w1 := by rw [← hw1]; exact (Below.refl _ _).alloc (Nat.le_refl _) _
 have X1 := Lib.hid (show w1.heap[w.heap.size]? = some (.cells #[.int .i64 u.1, .int .i64 u.2.1, .int .i64 u.2.2] 70) by rw [← hw1]; exact heap_alloc_new w _)
 obtain ⟨D1, hD1⟩ : ∃ D1 : Nat → Prop, D1 = fun k => D k ∨ k = w.heap.size := ⟨_, rfl⟩
 have HD1 := Lib.hid hD1
 have HDX := Lib.hid (show D1 w.heap.size by rw [hD1]; exact .inr rfl)
 have HDD := Lib.hid (show ∀ k, D k → D1 k from fun k hk => by rw [hD1]; exact .inl hk)
 have HW1 := Lib.hid (show Wr w1 g D1 c xs by rw [hD1, ← hw1]; exact h.alloc _)
 have HK0 := Lib.hid (show Kept D w w1 from Kept.of_below hb1 (fun k hk => (h.1 k hk).1))
 have K1 := Lib.hid (Kept.refl D1 w1)
 have C1 := Lib.hid (HB.out.trans (hb1.mono HB.out.size))
 have HDL := Lib.hid (show ∀ k, k < w0.heap.size → D1 k from fun k hk => HDD.out k (HD.out k hk))
 clear hb1 hD1 h
 go_enter Tryz.func115, Tryz.ntmps115
 as_aux_lemma =>
  have c0 := box_cell X1.out 0 rfl
  have HRUN := Lib.hid (num_wr g D1 c xs (u.1) 1099511627776 (by decide) HOK.out.1 (by have HZ_ := HZ.out; have L1_ := L1.out; have L2_ := L2.out; have L3_ := L3.out; omega) w1 HW1.out)
  go_wp2_with fail
  refine HRUN.out.mono ?_
  rintro e w2 ⟨rfl, h_, k_⟩
  have HW2 := Lib.hid (show Wr w2 g D1 c (addB c xs (bigC.put u.1)) from h_)
  have K2 := Lib.hid (K1.out.trans k_)
  have C2 := Lib.hid (C1.out.trans (k_.below HDL.out))
  have X2 := Lib.hid ((k_.block w.heap.size HDX.out).trans X1.out)
  clear h_ k_ HRUN HW1 K1 C1 X1 hw1 c0
  as_aux_lemma =>
   have c1 := box_cell X2.out 1 rfl
   have HRUN := Lib.hid (num_wr g D1 c (addB c xs (bigC.put u.1)) (u.2.1) 1099511627776 (by decide) HOK.out.2.1 (by have HZ_ := HZ.out; have L1_ := L1.out; have L2_ := L2.out; have L3_ := L3.out; have hz_ := addB_len c xs (bigC.put u.1); (try simp only [List.length_append] at hz_); omega) w2 HW2.out)
   go_wp2_with fail
   refine HRUN.out.mono ?_
   rintro e w3 ⟨rfl, h_, k_⟩
   rw [addB_two] at h_
   have HW3 := Lib.hid (show Wr w3 g D1 c (addB c xs (bigC.put u.1 ++ bigC.put u.2.1)) from h_)
   have K3 := Lib.hid (K2.out.trans k_)
   have C3 := Lib.hid (C2.out.trans (k_.below HDL.out))
   have X3 := Lib.hid ((k_.block w.heap.size HDX.out).trans X2.out)
   clear h_ k_ HRUN HW2 K2 C2 X2 c1
   as_aux_lemma =>
    have c2 := box_cell X3.out 2 rfl
    have HRUN := Lib.hid (num_wr g D1 c (addB c xs (bigC.put u.1 ++ bigC.put u.2.1)) (u.2.2) 1099511627776 (by decide) HOK.out.2.2 (by have HZ_ := HZ.out; have L1_ := L1.out; have L2_ := L2.out; have L3_ := L3.out; have hz_ := addB_len c xs (bigC.put u.1 ++ bigC.put u.2.1); (try simp only [List.length_append] at hz_); omega) w3 HW3.out)
    go_wp2_with fail
    refine HRUN.out.mono ?_
    rintro e w4 ⟨rfl, h_, k_⟩
    rw [addB_two] at h_
    have HW4 := Lib.hid (show Wr w4 g D1 c (addB c xs (bigC.put u.1 ++ bigC.put u.2.1 ++ bigC.put u.2.2)) from h_)
    have K4 := Lib.hid (K3.out.trans k_)
    have C4 := Lib.hid (C3.out.trans (k_.below HDL.out))
    have X4 := Lib.hid ((k_.block w.heap.size HDX.out).trans X3.out)
    clear h_ k_ HRUN HW3 K3 C3 X3 c2
    as_aux_lemma =>
     go_wp2
     go_end0
     refine ⟨rfl, ?_, HK0.out.trans (K4.out.mono HDD.out)⟩
     have hE : bigC.put u.1 ++ bigC.put u.2.1 ++ bigC.put u.2.2 = resC.put u := by
      skip
      first | rfl | (simp only [List.append_assoc]; done) | (simp only [List.append_assoc]; rfl)
     have hW_ := HW4.out
     rw [hE] at hW_
     exact hW_.less HDD.out
set_option maxRecDepth 100000 in
set_option maxHeartbeats 4000000 in
theorem pod_wr (g : Nat) (D : Nat → Prop) (c : Int) (xs : List UInt8) (p : Pd) (LA : Option Addr) (lc : Nat) (IA : Option Addr) (ic : Nat) (MA : Option Addr) (mc : Nat) (RA : Option Addr) (rc : Nat) (hok : podC.ok p) (hLt : LightP p) (hck : (checkV p.spec).1 = 0) (hz : xs.length + 200000000 ≤ 140737488355328) (w0 w : World) (hb : Below w0.heap.size w0 w) (hD : ∀ k, k < w0.heap.size → D k) (hP : p.In w0 LA lc IA ic MA mc RA) (hL : SLaid w0) (h : Wr w g D c xs) :
 Calls Tryz.prog 114 #[.pointer (some ⟨g, 0, none⟩), .agg #[.int .i64 p.uid, .int .u64 p.rev, .string p.spec.name, .slice LA p.spec.labels.length lc, .slice IA p.spec.init.length ic, .slice MA p.spec.main.length mc, .int .i64 p.spec.restart, .int .i64 p.spec.grace, .int .i64 p.spec.prio, .int .i64 p.phase, .slice RA p.rs.length rc, .int .i64 p.mark, .int .i64 p.grace]] w fun e w' => e = .returned (.tuple #[]) ∧ Wr w' g D c (addB c xs (podC.put p)) ∧ Kept D w w' := by
 have HOK := Lib.hid (pod_parts hok)
 have HLT := Lib.hid hLt
 have HL := Lib.hid hL
 have HP := Lib.hid hP
 have HZ := Lib.hid hz
 have HB := Lib.hid hb
 have HD := Lib.hid hD
 have HCK := Lib.hid hck
 have L1 := Lib.hid (show (uidC.put p.uid).length ≤ 10 from int_put_len (pod_parts hok).uid)
 have L2 := Lib.hid (leb_le_ten (n := p.rev) hP.rev)
 have L3 := Lib.hid (spec_put_len (pod_parts hok).spec)
 have L4 := Lib.hid (show (phaseC.put p.phase).length ≤ 10 from int_put_len (pod_parts hok).phase)
 have L6 := Lib.hid (show (markC.put p.mark).length ≤ 10 from int_put_len (pod_parts hok).mark)
 have L7 := Lib.hid (show (graceC.put p.grace).length ≤ 10 from int_put_len (pod_parts hok).grace)
 have hn' : (p.rs.length : Int) ≤ 20 := by have := hLt.rs; omega
 clear hok hz hb hD hLt hL hP hck
 obtain ⟨w1, hw1⟩ : ∃ v, w.alloc (.cells #[.int .i64 p.uid, .int .u64 p.rev, .string p.spec.name, .slice LA p.spec.labels.length lc, .slice IA p.spec.init.length ic, .slice MA p.spec.main.length mc, .int .i64 p.spec.restart, .int .i64 p.spec.grace, .int .i64 p.spec.prio, .int .i64 p.phase, .slice RA p.rs.length rc, .int .i64 p.mark, .int .i64 p.grace] 42) = v := ⟨_, rfl⟩
 have hb1 : Below w.heap.size w w1 := by rw [← hw1]; exact (Below.refl _ _).alloc (Nat.le_refl _) _
 have X1 := Lib.hid (show w1.heap[w.heap.size]? = some (.cells #[.int .i64 p.uid, .int .u64 p.rev, .string p.spec.name, .slice LA p.spec.labels.length lc, .slice IA p.spec.init.length ic, .slice MA p.spec.main.length mc, .int .i64 p.spec.restart, .int .i64 p.spec.grace, .int .i64 p.spec.prio, .int .i64 p.phase, .slice RA p.rs.length rc, .int .i64 p.mark, .int .i64 p.grace] 42) by rw [← hw1]; exact heap_alloc_new w _)
 obtain ⟨D1, hD1⟩ : ∃ D1 : Nat → Prop, D1 = fun k => D k ∨ k = w.heap.size := ⟨_, rfl⟩
 have HD1 := Lib.hid hD1
 have HDX := Lib.hid (show D1 w.heap.size by rw [hD1]; exact .inr rfl)
 have HDD := Lib.hid (show ∀ k, D k → D1 k from fun k hk => by rw [hD1]; exact .inl hk)
 have HW1 := Lib.hid (show Wr w1 g D1 c xs by rw [hD1, ← hw1]; exact h.alloc _)
 have HK0 := Lib.hid (show Kept D w w1 from Kept.of_below hb1 (fun k hk => (h.1 k hk).1))
 have K1 := Lib.hid (Kept.refl D1 w1)
 have C1 := Lib.hid (HB.out.trans (hb1.mono HB.out.size))
 have HDL := Lib.hid (show ∀ k, k < w0.heap.size → D1 k from fun k hk => HDD.out k (HD.out k hk))
 clear hb1 hD1 h
 go_enter Tryz.func114, Tryz.ntmps114
 as_aux_lemma =>
  have c0 := box_cell X1.out 0 rfl
  have HRUN := Lib.hid (num_wr g D1 c xs (p.uid) 1073741824 (by decide) HOK.out.uid (by have HZ_ := HZ.out; have L1_ := L1.out; have L2_ := L2.out; have L3_ := L3.out; have L4_ := L4.out; have L6_ := L6.out; have L7_ := L7.out; omega) w1 HW1.out)
  go_wp2_with fail
  refine HRUN.out.mono ?_
  rintro e w2 ⟨rfl, h_, k_⟩
  have HW2 := Lib.hid (show Wr w2 g D1 c (addB c xs (uidC.put p.uid)) from h_)
  have K2 := Lib.hid (K1.out.trans k_)
  have C2 := Lib.hid (C1.out.trans (k_.below HDL.out))
  have X2 := Lib.hid ((k_.block w.heap.size HDX.out).trans X1.out)
  clear h_ k_ HRUN HW1 K1 C1 X1 hw1 c0
  as_aux_lemma =>
   have c1 := box_cell X2.out 1 rfl
   have HRUN := Lib.hid (big_any g D1 c (addB c xs (uidC.put p.uid)) p.rev HP.out.rev (fun _ => (by have HZ_ := HZ.out; have L1_ := L1.out; have L2_ := L2.out; have L3_ := L3.out; have L4_ := L4.out; have L6_ := L6.out; have L7_ := L7.out; have hz_ := addB_len c xs (uidC.put p.uid); (try simp only [List.length_append] at hz_); omega)) w2 HW2.out)
   go_wp2_with fail
   refine HRUN.out.mono ?_
   rintro e w3 ⟨rfl, h_, k_⟩
   rw [addB_two] at h_
   have HW3 := Lib.hid (show Wr w3 g D1 c (addB c xs (uidC.put p.uid ++ leb p.rev)) from h_)
   have K3 := Lib.hid (K2.out.trans k_)
   have C3 := Lib.hid (C2.out.trans (k_.below HDL.out))
   have X3 := Lib.hid ((k_.block w.heap.size HDX.out).trans X2.out)
   clear h_ k_ HRUN HW2 K2 C2 X2 c1
   as_aux_lemma =>
    have RG := Lib.hid (range_at X3.out 2 [.string p.spec.name, .slice LA p.spec.labels.length lc, .slice IA p.spec.init.length ic, .slice MA p.spec.main.length mc, .int .i64 p.spec.restart, .int .i64 p.spec.grace, .int .i64 p.spec.prio] rfl)
    have HRUN := Lib.hid (put_wr g D1 c (addB c xs (uidC.put p.uid ++ leb p.rev)) p.spec LA lc IA ic MA mc HLT.out.spec (by have HZ_ := HZ.out; have L1_ := L1.out; have L2_ := L2.out; have L3_ := L3.out; have L4_ := L4.out; have L6_ := L6.out; have L7_ := L7.out; have hz_ := addB_len c xs (uidC.put p.uid ++ leb p.rev); (try simp only [List.length_append] at hz_); omega) w0 w3 C3.out HDL.out HP.out.spec (HL.out.below C3.out) HW3.out)
    go_wp2_with (refine wpList_load_mid rfl _ _ rfl _ _ rfl _ _ RG.out Tryz.underlying28 rfl (by kernel_rfl) ?_)
    refine HRUN.out.mono ?_
    rintro e w4 ⟨rfl, k_, hcs⟩
    rcases hcs with ⟨_, h_⟩ | ⟨hno, _⟩
    rotate_left
    · exact absurd HCK.out hno
    rw [addB_two] at h_
    have HW4 := Lib.hid (show Wr w4 g D1 c (addB c xs (uidC.put p.uid ++ leb p.rev ++ specC.put p.spec)) from h_)
    have K4 := Lib.hid (K3.out.trans k_)
    have C4 := Lib.hid (C3.out.trans (k_.below HDL.out))
    have X4 := Lib.hid ((k_.block w.heap.size HDX.out).trans X3.out)
    clear h_ k_ HRUN RG HW3 K3 C3 X3 
    as_aux_lemma =>
     have c9 := box_cell X4.out 9 rfl
     have HRUN := Lib.hid (num_wr g D1 c (addB c xs (uidC.put p.uid ++ leb p.rev ++ specC.put p.spec)) (p.phase) 4 (by decide) HOK.out.phase (by have HZ_ := HZ.out; have L1_ := L1.out; have L2_ := L2.out; have L3_ := L3.out; have L4_ := L4.out; have L6_ := L6.out; have L7_ := L7.out; have hz_ := addB_len c xs (uidC.put p.uid ++ leb p.rev ++ specC.put p.spec); (try simp only [List.length_append] at hz_); omega) w4 HW4.out)
     go_wp2_with fail
     refine HRUN.out.mono ?_
     rintro e w5 ⟨rfl, h_, k_⟩
     rw [addB_two] at h_
     have HW5 := Lib.hid (show Wr w5 g D1 c (addB c xs (uidC.put p.uid ++ leb p.rev ++ specC.put p.spec ++ phaseC.put p.phase)) from h_)
     have K5 := Lib.hid (K4.out.trans k_)
     have C5 := Lib.hid (C4.out.trans (k_.below HDL.out))
     have X5 := Lib.hid ((k_.block w.heap.size HDX.out).trans X4.out)
     clear h_ k_ HRUN HW4 K4 C4 X4 c9
     as_aux_lemma =>
      have c10 := box_cell X5.out 10 rfl
      go_wp2_with fail
      have HW0 := Lib.hid (show Wr w5 g D1 c (addB c xs (uidC.put p.uid ++ leb p.rev ++ specC.put p.spec ++ phaseC.put p.phase ++ (p.rs.take 0).flatMap uidC.put)) by have h_ := HW5.out; simpa using h_)
      go_loopw [25] (fun i wr => ∃ j : Nat, j ≤ p.rs.length ∧ i = .int .i64 j ∧ Hid (Wr wr g D1 c (addB c xs (uidC.put p.uid ++ leb p.rev ++ specC.put p.spec ++ phaseC.put p.phase ++ (p.rs.take j).flatMap uidC.put))) ∧ Hid (Kept D1 w5 wr)) (fun i _ => p.rs.length - (RowKit.intOf i).toNat)
      case atStart => exact ⟨0, Nat.zero_le _, rfl, HW0.out, Kept.refl D1 _⟩
      case round =>
       obtain ⟨j, hj, rfl, HW, HK⟩ := hrel
       have CW := Lib.hid (show Below w0.heap.size w0 wr from C5.out.trans (HK.out.below HDL.out))
       have XW := Lib.hid ((HK.out.block w.heap.size HDX.out).trans X5.out)
       clear HW0 c10
       by_cases hlt : j < p.rs.length
       · have hlt' : (j : Int) < (p.rs.length : Int) := by omega
         obtain ⟨_, a, hRA, ha, hc⟩ := (Sd.Nums.below HP.out.rs CW.out) j _ (List.getElem?_eq_getElem hlt)
         have HRA := Lib.hid hRA
         have HOX := Lib.hid (HOK.out.rs _ (List.getElem_mem hlt))
         have HNX := Lib.hid (show (p.rs.take (j + 1)).flatMap uidC.put = (p.rs.take j).flatMap uidC.put ++ uidC.put p.rs[j] by
          rw [List.take_succ_eq_append_getElem hlt, List.flatMap_append]; simp)
         have HPL := Lib.hid (show ((p.rs.take j).flatMap uidC.put).length ≤ 20 * 10 from Nat.le_trans (flat_put_len uidC.put 10 (p.rs.take j) (fun y hy => int_put_len (HOK.out.rs y (List.mem_of_mem_take hy)))) (Nat.mul_le_mul_right _ (by rw [List.length_take]; have := HLT.out.rs; omega)))
         obtain ⟨x, hx⟩ : ∃ x, p.rs[j] = x := ⟨_, rfl⟩
         rw [hx] at hc HNX HOX
         clear hx ha hRA
         have HRUN := Lib.hid (num_wr g D1 c (addB c xs (uidC.put p.uid ++ leb p.rev ++ specC.put p.spec ++ phaseC.put p.phase ++ (p.rs.take j).flatMap uidC.put)) x 1073741824 (by decide) HOX.out (by have HZ_ := HZ.out; have L1_ := L1.out; have L2_ := L2.out; have L3_ := L3.out; have L4_ := L4.out; have L6_ := L6.out; have L7_ := L7.out; have hp_ := HPL.out; have hz_ := addB_len c xs (uidC.put p.uid ++ leb p.rev ++ specC.put p.spec ++ phaseC.put p.phase ++ (p.rs.take j).flatMap uidC.put); (try simp only [List.length_append] at hz_); omega) wr HW.out)
         rw [HRA.out]
         go_wp2_with fail
         refine HRUN.out.mono ?_
         rintro e wz ⟨rfl, h5, k5⟩
         have h5 : Wr wz g D1 c (addB c (addB c xs (uidC.put p.uid ++ leb p.rev ++ specC.put p.spec ++ phaseC.put p.phase ++ (p.rs.take j).flatMap uidC.put)) (uidC.put x)) := h5
         rw [addB_two, List.append_assoc, ← HNX.out] at h5
         have HWz := Lib.hid h5
         have HKz := Lib.hid (HK.out.trans k5)
         clear h5 k5 HRUN hc
         go_wp2
         go_roundw
         case rel => exact ⟨j + 1, by omega, by go_num, HWz.out, HKz.out⟩
         case measure => simp [RowKit.intOf]; omega
       · obtain rfl : j = p.rs.length := by omega
         have hlt' : ¬ (p.rs.length : Int) < (p.rs.length : Int) := by omega
         have hw_ := HW.out
         rw [List.take_length] at hw_
         have L5 := Lib.hid (show (p.rs.flatMap uidC.put).length ≤ 20 * 10 from Nat.le_trans (flat_put_len uidC.put 10 p.rs (fun y hy => int_put_len (HOK.out.rs y hy))) (Nat.mul_le_mul_right _ (by have := HLT.out.rs; omega)))
         obtain ⟨w6, hwr⟩ : ∃ v, v = wr := ⟨_, rfl⟩
         subst hwr
         have HW6 := Lib.hid hw_
         have K6 := Lib.hid (K5.out.trans HK.out)
         have C6 := CW
         have X6 := XW
         clear hw_ HW CW XW HK HW5 K5 C5 X5
         as_aux_lemma =>
          have c11 := box_cell X6.out 11 rfl
          have HRUN := Lib.hid (num_wr g D1 c (addB c xs (uidC.put p.uid ++ leb p.rev ++ specC.put p.spec ++ phaseC.put p.phase ++ p.rs.flatMap uidC.put)) (p.mark) 2 (by decide) HOK.out.mark (by have HZ_ := HZ.out; have L1_ := L1.out; have L2_ := L2.out; have L3_ := L3.out; have L4_ := L4.out; have L6_ := L6.out; have L7_ := L7.out; have L5_ := L5.out; have hz_ := addB_len c xs (uidC.put p.uid ++ leb p.rev ++ specC.put p.spec ++ phaseC.put p.phase ++ p.rs.flatMap uidC.put); (try simp only [List.length_append] at hz_); omega) w6 HW6.out)
          go_wp2_with fail
          refine HRUN.out.mono ?_
          rintro e w7 ⟨rfl, h_, k_⟩
          rw [addB_two] at h_
          have HW7 := Lib.hid (show Wr w7 g D1 c (addB c xs (uidC.put p.uid ++ leb p.rev ++ specC.put p.spec ++ phaseC.put p.phase ++ p.rs.flatMap uidC.put ++ markC.put p.mark)) from h_)
          have K7 := Lib.hid (K6.out.trans k_)
          have C7 := Lib.hid (C6.out.trans (k_.below HDL.out))
          have X7 := Lib.hid ((k_.block w.heap.size HDX.out).trans X6.out)
          clear h_ k_ HRUN HW6 K6 C6 X6 c11
          as_aux_lemma =>
           have c12 := box_cell X7.out 12 rfl
           have HRUN := Lib.hid (num_wr g D1 c (addB c xs (uidC.put p.uid ++ leb p.rev ++ specC.put p.spec ++ phaseC.put p.phase ++ p.rs.flatMap uidC.put ++ markC.put p.mark)) (p.grace) 1000 (by decide) HOK.out.grace (by have HZ_ := HZ.out; have L1_ := L1.out; have L2_ := L2.out; have L3_ := L3.out; have L4_ := L4.out; have L6_ := L6.out; have L7_ := L7.out; have L5_ := L5.out; have hz_ := addB_len c xs (uidC.put p.uid ++ leb p.rev ++ specC.put p.spec ++ phaseC.put p.phase ++ p.rs.flatMap uidC.put ++ markC.put p.mark); (try simp only [List.length_append] at hz_); omega) w7 HW7.out)
           go_wp2_with fail
           refine HRUN.out.mono ?_
           rintro e w8 ⟨rfl, h_, k_⟩
           rw [addB_two] at h_
           have HW8 := Lib.hid (show Wr w8 g D1 c (addB c xs (uidC.put p.uid ++ leb p.rev ++ specC.put p.spec ++ phaseC.put p.phase ++ p.rs.flatMap uidC.put ++ markC.put p.mark ++ graceC.put p.grace)) from h_)
           have K8 := Lib.hid (K7.out.trans k_)
           have C8 := Lib.hid (C7.out.trans (k_.below HDL.out))
           have X8 := Lib.hid ((k_.block w.heap.size HDX.out).trans X7.out)
           clear h_ k_ HRUN HW7 K7 C7 X7 c12
           as_aux_lemma =>
            go_wp2
            go_end0
            refine ⟨rfl, ?_, HK0.out.trans (K8.out.mono HDD.out)⟩
            have hE : uidC.put p.uid ++ leb p.rev ++ specC.put p.spec ++ phaseC.put p.phase ++ p.rs.flatMap uidC.put ++ markC.put p.mark ++ graceC.put p.grace = podC.put p := by
             rw [show podC.put p = (uidC.put p.uid ++ (leb p.rev ++ (specC.put p.spec ++ phaseC.put p.phase))) ++ (p.rs.flatMap uidC.put ++ (markC.put p.mark ++ graceC.put p.grace)) from rfl]
             first | rfl | (simp only [List.append_assoc]; done) | (simp only [List.append_assoc]; rfl)
            have hW_ := HW8.out
            rw [hE] at hW_
            exact hW_.less HDD.out
end Tl
end Go.Proofs.YtljbpelogjmciaaGreatDoor
set_option linter.unusedVariables false
set_option linter.unusedSimpArgs false
namespace Go.Proofs.YtljbpelogjmciaaGreatDoor
open Go.ChangeShapes Go.WideShapes Go.ChangeAt Go.RowKit Go.Lib
open LebMath WirePure Sd Wire SpecOwn SpecRef Book Pk
namespace Tl
structure ReplyParts (y : Rp) : Prop where
 code : codeC.ok y.code
 uid : uidC.ok y.uid
 id : uidC.ok y.id
 rev : revC.ok y.rev
 data : y.data.size ≤ 32
 np : y.pods.length ≤ 16
 pods : ∀ p ∈ y.pods, podC.ok p
 nu : y.use.length ≤ 4
 use : ∀ u ∈ y.use, resC.ok u
theorem reply_parts {y : Rp} (h : replyC.ok y) : ReplyParts y := ⟨h.1.1, h.1.2.1, h.1.2.2.1, h.1.2.2.2.1, h.1.2.2.2.2.1, h.1.2.2.2.2.2.1.1, h.1.2.2.2.2.2.1.2, h.1.2.2.2.2.2.2.1, h.1.2.2.2.2.2.2.2⟩
set_option maxRecDepth 100000 in
set_option maxHeartbeats 4000000 in
theorem reply_wr (g : Nat) (D : Nat → Prop) (c : Int) (xs : List UInt8) (y : Rp) (PA : Option Addr) (pc : Nat) (UA : Option Addr) (uc : Nat) (hok : replyC.ok y) (hpo : ∀ p ∈ y.pods, podC.ok p ∧ (checkV p.spec).1 = 0) (hLt : LightR y) (hz : xs.length + 2000000000 ≤ 140737488355328) (w0 w : World) (hb : Below w0.heap.size w0 w) (hD : ∀ k, k < w0.heap.size → D k) (hP : y.In w0 PA UA) (hL : SLaid w0) (h : Wr w g D c xs) :
 Calls Tryz.prog 62 #[.pointer (some ⟨g, 0, none⟩), .agg #[.int .i64 y.code, .int .i64 y.uid, .int .i64 y.id, .int .u64 y.rev, .string y.data, .slice PA y.pods.length pc, .slice UA y.use.length uc]] w fun e w' => e = .returned (.tuple #[]) ∧ Wr w' g D c (addB c xs (replyC.put y)) ∧ Kept D w w' := by
 have HOK := Lib.hid hok
 have HLT := Lib.hid hLt
 have HL := Lib.hid hL
 have HP := Lib.hid hP
 have HZ := Lib.hid hz
 have HB := Lib.hid hb
 have HD := Lib.hid hD
 have HPO := Lib.hid hpo
 have HR := Lib.hid (reply_parts hok)
 have L1 := Lib.hid (show (codeC.put y.code).length ≤ 10 from int_put_len (reply_parts hok).code)
 have L2 := Lib.hid (show (uidC.put y.uid).length ≤ 10 from int_put_len (reply_parts hok).uid)
 have L3 := Lib.hid (show (uidC.put y.id).length ≤ 10 from int_put_len (reply_parts hok).id)
 have L4 := Lib.hid (leb_le_ten (n := y.rev) hP.rev)
 have L5 := Lib.hid (show (dataC.put y.data).length ≤ 10 + 32 from txB_le (reply_parts hok).data)
 have L6 := Lib.hid (leb_le_ten (n := y.pods.length) (by have := hLt.np; omega))
 have L7 := Lib.hid (leb_le_ten (n := y.use.length) (by have := hLt.nu; omega))
 have hnp' : (y.pods.length : Int) ≤ 20 := by have := hLt.np; omega
 have hnu' : (y.use.length : Int) ≤ 20 := by have := hLt.nu; omega
 clear hok hz hb hD hLt hL hP hpo
 obtain ⟨w1, hw1⟩ : ∃ v, w.alloc (.cells #[.int .i64 y.code, .int .i64 y.uid, .int .i64 y.id, .int .u64 y.rev, .string y.data, .slice PA y.pods.length pc, .slice UA y.use.length uc] 46) = v := ⟨_, rfl⟩
 have hb1 : Below w.heap.size w w1 := by rw [← hw1]; exact (Below.refl _ _).alloc (Nat.le_refl _) _
 have X1 := Lib.hid (show w1.heap[w.heap.size]? = some (.cells #[.int .i64 y.code, .int .i64 y.uid, .int .i64 y.id, .int .u64 y.rev, .string y.data, .slice PA y.pods.length pc, .slice UA y.use.length uc] 46) by rw [← hw1]; exact heap_alloc_new w _)
 obtain ⟨D1, hD1⟩ : ∃ D1 : Nat → Prop, D1 = fun k => D k ∨ k = w.heap.size := ⟨_, rfl⟩
 have HD1 := Lib.hid hD1
 have HDX := Lib.hid (show D1 w.heap.size by rw [hD1]; exact .inr rfl)
 have HDD := Lib.hid (show ∀ k, D k → D1 k from fun k hk => by rw [hD1]; exact .inl hk)
 have HW1 := Lib.hid (show Wr w1 g D1 c xs by rw [hD1, ← hw1]; exact h.alloc _)
 have HK0 := Lib.hid (show Kept D w w1 from Kept.of_below hb1 (fun k hk => (h.1 k hk).1))
 have K1 := Lib.hid (Kept.refl D1 w1)
 have C1 := Lib.hid (HB.out.trans (hb1.mono HB.out.size))
 have HDL := Lib.hid (show ∀ k, k < w0.heap.size → D1 k from fun k hk => HDD.out k (HD.out k hk))
 clear hb1 hD1 h
 go_enter Tryz.func62, Tryz.ntmps62
 as_aux_lemma =>
  have c0 := box_cell X1.out 0 rfl
  have HRUN := Lib.hid (num_wr g D1 c xs (y.code) 999 (by decide) HR.out.code (by have HZ_ := HZ.out; have L1_ := L1.out; have L2_ := L2.out; have L3_ := L3.out; have L4_ := L4.out; have L5_ := L5.out; have L6_ := L6.out; have L7_ := L7.out; omega) w1 HW1.out)
  go_wp2_with fail
  refine HRUN.out.mono ?_
  rintro e w2 ⟨rfl, h_, k_⟩
  have HW2 := Lib.hid (show Wr w2 g D1 c (addB c xs (codeC.put y.code)) from h_)
  have K2 := Lib.hid (K1.out.trans k_)
  have C2 := Lib.hid (C1.out.trans (k_.below HDL.out))
  have X2 := Lib.hid ((k_.block w.heap.size HDX.out).trans X1.out)
  clear h_ k_ HRUN HW1 K1 C1 X1 hw1 c0
  as_aux_lemma =>
   have c1 := box_cell X2.out 1 rfl
   have HRUN := Lib.hid (num_wr g D1 c (addB c xs (codeC.put y.code)) (y.uid) 1073741824 (by decide) HR.out.uid (by have HZ_ := HZ.out; have L1_ := L1.out; have L2_ := L2.out; have L3_ := L3.out; have L4_ := L4.out; have L5_ := L5.out; have L6_ := L6.out; have L7_ := L7.out; have hz_ := addB_len c xs (codeC.put y.code); (try simp only [List.length_append] at hz_); omega) w2 HW2.out)
   go_wp2_with fail
   refine HRUN.out.mono ?_
   rintro e w3 ⟨rfl, h_, k_⟩
   rw [addB_two] at h_
   have HW3 := Lib.hid (show Wr w3 g D1 c (addB c xs (codeC.put y.code ++ uidC.put y.uid)) from h_)
   have K3 := Lib.hid (K2.out.trans k_)
   have C3 := Lib.hid (C2.out.trans (k_.below HDL.out))
   have X3 := Lib.hid ((k_.block w.heap.size HDX.out).trans X2.out)
   clear h_ k_ HRUN HW2 K2 C2 X2 c1
   as_aux_lemma =>
    have c2 := box_cell X3.out 2 rfl
    have HRUN := Lib.hid (num_wr g D1 c (addB c xs (codeC.put y.code ++ uidC.put y.uid)) (y.id) 1073741824 (by decide) HR.out.id (by have HZ_ := HZ.out; have L1_ := L1.out; have L2_ := L2.out; have L3_ := L3.out; have L4_ := L4.out; have L5_ := L5.out; have L6_ := L6.out; have L7_ := L7.out; have hz_ := addB_len c xs (codeC.put y.code ++ uidC.put y.uid); (try simp only [List.length_append] at hz_); omega) w3 HW3.out)
    go_wp2_with fail
    refine HRUN.out.mono ?_
    rintro e w4 ⟨rfl, h_, k_⟩
    rw [addB_two] at h_
    have HW4 := Lib.hid (show Wr w4 g D1 c (addB c xs (codeC.put y.code ++ uidC.put y.uid ++ uidC.put y.id)) from h_)
    have K4 := Lib.hid (K3.out.trans k_)
    have C4 := Lib.hid (C3.out.trans (k_.below HDL.out))
    have X4 := Lib.hid ((k_.block w.heap.size HDX.out).trans X3.out)
    clear h_ k_ HRUN HW3 K3 C3 X3 c2
    as_aux_lemma =>
     have c3 := box_cell X4.out 3 rfl
     have HRUN := Lib.hid (big_any g D1 c (addB c xs (codeC.put y.code ++ uidC.put y.uid ++ uidC.put y.id)) y.rev HP.out.rev (fun _ => (by have HZ_ := HZ.out; have L1_ := L1.out; have L2_ := L2.out; have L3_ := L3.out; have L4_ := L4.out; have L5_ := L5.out; have L6_ := L6.out; have L7_ := L7.out; have hz_ := addB_len c xs (codeC.put y.code ++ uidC.put y.uid ++ uidC.put y.id); (try simp only [List.length_append] at hz_); omega)) w4 HW4.out)
     go_wp2_with fail
     refine HRUN.out.mono ?_
     rintro e w5 ⟨rfl, h_, k_⟩
     rw [addB_two] at h_
     have HW5 := Lib.hid (show Wr w5 g D1 c (addB c xs (codeC.put y.code ++ uidC.put y.uid ++ uidC.put y.id ++ leb y.rev)) from h_)
     have K5 := Lib.hid (K4.out.trans k_)
     have C5 := Lib.hid (C4.out.trans (k_.below HDL.out))
     have X5 := Lib.hid ((k_.block w.heap.size HDX.out).trans X4.out)
     clear h_ k_ HRUN HW4 K4 C4 X4 c3
     as_aux_lemma =>
      have c4 := box_cell X5.out 4 rfl
      have HRUN := Lib.hid (text_any g D1 c (addB c xs (codeC.put y.code ++ uidC.put y.uid ++ uidC.put y.id ++ leb y.rev)) y.data (by have h_ := HR.out.data; have q_ : (addB c xs (codeC.put y.code ++ uidC.put y.uid ++ uidC.put y.id ++ leb y.rev)).length + 1000 ≤ 140737488355328 := (by have HZ_ := HZ.out; have L1_ := L1.out; have L2_ := L2.out; have L3_ := L3.out; have L4_ := L4.out; have L5_ := L5.out; have L6_ := L6.out; have L7_ := L7.out; have hz_ := addB_len c xs (codeC.put y.code ++ uidC.put y.uid ++ uidC.put y.id ++ leb y.rev); (try simp only [List.length_append] at hz_); omega); omega) w5 HW5.out)
      go_wp2_with fail
      refine HRUN.out.mono ?_
      rintro e w6 ⟨rfl, h_, k_⟩
      rw [addB_two] at h_
      have HW6 := Lib.hid (show Wr w6 g D1 c (addB c xs (codeC.put y.code ++ uidC.put y.uid ++ uidC.put y.id ++ leb y.rev ++ dataC.put y.data)) from h_)
      have K6 := Lib.hid (K5.out.trans k_)
      have C6 := Lib.hid (C5.out.trans (k_.below HDL.out))
      have X6 := Lib.hid ((k_.block w.heap.size HDX.out).trans X5.out)
      clear h_ k_ HRUN HW5 K5 C5 X5 c4
      as_aux_lemma =>
       have c5 := box_cell X6.out 5 rfl
       have HRUN := Lib.hid (num_nat g D1 c (addB c xs (codeC.put y.code ++ uidC.put y.uid ++ uidC.put y.id ++ leb y.rev ++ dataC.put y.data)) y.pods.length (by unfold maxLen; have := HLT.out.np; omega) (fun _ => (by have HZ_ := HZ.out; have L1_ := L1.out; have L2_ := L2.out; have L3_ := L3.out; have L4_ := L4.out; have L5_ := L5.out; have L6_ := L6.out; have L7_ := L7.out; have hz_ := addB_len c xs (codeC.put y.code ++ uidC.put y.uid ++ uidC.put y.id ++ leb y.rev ++ dataC.put y.data); (try simp only [List.length_append] at hz_); omega)) w6 HW6.out)
       go_wp2_with fail
       refine HRUN.out.mono ?_
       rintro e w7 ⟨rfl, h_, k_⟩
       rw [addB_two] at h_
       have HW7 := Lib.hid (show Wr w7 g D1 c (addB c xs (codeC.put y.code ++ uidC.put y.uid ++ uidC.put y.id ++ leb y.rev ++ dataC.put y.data ++ leb y.pods.length)) from h_)
       have K7 := Lib.hid (K6.out.trans k_)
       have C7 := Lib.hid (C6.out.trans (k_.below HDL.out))
       have X7 := Lib.hid ((k_.block w.heap.size HDX.out).trans X6.out)
       clear h_ k_ HRUN HW6 K6 C6 X6 c5
       as_aux_lemma =>
        have c5 := box_cell X7.out 5 rfl
        go_wp2_with fail
        have HW0 := Lib.hid (show Wr w7 g D1 c (addB c xs (codeC.put y.code ++ uidC.put y.uid ++ uidC.put y.id ++ leb y.rev ++ dataC.put y.data ++ leb y.pods.length ++ (y.pods.take 0).flatMap podC.put)) by have h_ := HW7.out; simpa using h_)
        go_loopw [36] (fun i wr => ∃ j : Nat, j ≤ y.pods.length ∧ i = .int .i64 j ∧ Hid (Wr wr g D1 c (addB c xs (codeC.put y.code ++ uidC.put y.uid ++ uidC.put y.id ++ leb y.rev ++ dataC.put y.data ++ leb y.pods.length ++ (y.pods.take j).flatMap podC.put))) ∧ Hid (Kept D1 w7 wr)) (fun i _ => y.pods.length - (RowKit.intOf i).toNat)
        case atStart => exact ⟨0, Nat.zero_le _, rfl, HW0.out, Kept.refl D1 _⟩
        case round =>
         obtain ⟨j, hj, rfl, HW, HK⟩ := hrel
         have CW := Lib.hid (show Below w0.heap.size w0 wr from C7.out.trans (HK.out.below HDL.out))
         have XW := Lib.hid ((HK.out.block w.heap.size HDX.out).trans X7.out)
         clear HW0 c5
         by_cases hlt : j < y.pods.length
         · have hlt' : (j : Int) < (y.pods.length : Int) := by omega
           have hmem := List.getElem_mem hlt
           obtain ⟨a, LA, lc, IA, ic, MA, mc, RA, rc, hRA, ha, hcIN⟩ := (HP.out.pods).at hlt
           have HAB := Lib.hid ha
           have HRA := Lib.hid hRA
           have HIN := Lib.hid hcIN
           have HNX := Lib.hid (show (y.pods.take (j + 1)).flatMap podC.put = (y.pods.take j).flatMap podC.put ++ podC.put y.pods[j] by
            rw [List.take_succ_eq_append_getElem hlt, List.flatMap_append]; simp)
           have HPL := Lib.hid (show ((y.pods.take j).flatMap podC.put).length ≤ 20 * 3100000 from Nat.le_trans (flat_put_len podC.put 3100000 (y.pods.take j) (fun y hy => (fun y_ hy_ => pod_put_len (HPO.out y_ hy_).1 (HLT.out.pods y_ hy_).rs) y (List.mem_of_mem_take hy))) (Nat.mul_le_mul_right _ (by rw [List.length_take]; have h_ := HLT.out.np; omega)))
           obtain ⟨x, hx⟩ : ∃ x, y.pods[j] = x := ⟨_, rfl⟩
           rw [hx] at HIN HNX hmem
           have HMEM := Lib.hid hmem
           clear hx ha hRA hcIN hmem
           as_aux_lemma =>
            have CA := Lib.hid (show ∀ j_ v_, ([.int .i64 x.uid, .int .u64 x.rev, .string x.spec.name, .slice LA x.spec.labels.length lc, .slice IA x.spec.init.length ic, .slice MA x.spec.main.length mc, .int .i64 x.spec.restart, .int .i64 x.spec.grace, .int .i64 x.spec.prio, .int .i64 x.phase, .slice RA x.rs.length rc, .int .i64 x.mark, .int .i64 x.grace] : List Value)[j_]? = some v_ → wr.cell? ((a.add (j * 13)).add j_) = some v_ from CellsAt.all ((HIN.out.1).keep (by rw [Lists.add_block]; exact CW.out.block _ HAB.out)))
            obtain ⟨wy, hwy⟩ : ∃ v, wr.alloc (.cells #[.int .i64 x.uid, .int .u64 x.rev, .string x.spec.name, .slice LA x.spec.labels.length lc, .slice IA x.spec.init.length ic, .slice MA x.spec.main.length mc, .int .i64 x.spec.restart, .int .i64 x.spec.grace, .int .i64 x.spec.prio, .int .i64 x.phase, .slice RA x.rs.length rc, .int .i64 x.mark, .int .i64 x.grace] 42) = v := ⟨_, rfl⟩
            have hb3 : Below wr.heap.size wr wy := by rw [← hwy]; exact (Below.refl _ _).alloc (Nat.le_refl _) _
            have Z3 := Lib.hid (show wy.heap[wr.heap.size]? = some (.cells #[.int .i64 x.uid, .int .u64 x.rev, .string x.spec.name, .slice LA x.spec.labels.length lc, .slice IA x.spec.init.length ic, .slice MA x.spec.main.length mc, .int .i64 x.spec.restart, .int .i64 x.spec.grace, .int .i64 x.spec.prio, .int .i64 x.phase, .slice RA x.rs.length rc, .int .i64 x.mark, .int .i64 x.grace] 42) by rw [← hwy]; exact heap_alloc_new wr _)
            have RG := Lib.hid (range_at Z3.out 0 [.int .i64 x.uid, .int .u64 x.rev, .string x.spec.name, .slice LA x.spec.labels.length lc, .slice IA x.spec.init.length ic, .slice MA x.spec.main.length mc, .int .i64 x.spec.restart, .int .i64 x.spec.grace, .int .i64 x.spec.prio, .int .i64 x.phase, .slice RA x.rs.length rc, .int .i64 x.mark, .int .i64 x.grace] rfl)
            have HWy := Lib.hid (show Wr wy g D1 c (addB c xs (codeC.put y.code ++ uidC.put y.uid ++ uidC.put y.id ++ leb y.rev ++ dataC.put y.data ++ leb y.pods.length ++ (y.pods.take j).flatMap podC.put)) by rw [← hwy]; exact (HW.out.alloc _).less (fun k hk => .inl hk))
            have HKy := Lib.hid (show Kept D1 w7 wy from HK.out.trans (Kept.of_below hb3 (fun k hk => (HW.out.1 k hk).1)))
            have Cy := Lib.hid (show Below w0.heap.size w0 wy from CW.out.trans (hb3.mono CW.out.size))
            clear hb3
            have HRUN := Lib.hid (pod_wr g D1 c (addB c xs (codeC.put y.code ++ uidC.put y.uid ++ uidC.put y.id ++ leb y.rev ++ dataC.put y.data ++ leb y.pods.length ++ (y.pods.take j).flatMap podC.put)) x LA lc IA ic MA mc RA rc (HPO.out x HMEM.out).1 (HLT.out.pods x HMEM.out) (HPO.out x HMEM.out).2 (by have HZ_ := HZ.out; have L1_ := L1.out; have L2_ := L2.out; have L3_ := L3.out; have L4_ := L4.out; have L5_ := L5.out; have L6_ := L6.out; have L7_ := L7.out; have hp_ := HPL.out; have hz_ := addB_len c xs (codeC.put y.code ++ uidC.put y.uid ++ uidC.put y.id ++ leb y.rev ++ dataC.put y.data ++ leb y.pods.length ++ (y.pods.take j).flatMap podC.put); (try simp only [List.length_append] at hz_); omega) w0 wy Cy.out HDL.out HIN.out.2 HL.out HWy.out)
            rw [HRA.out]
            go_wp2_with (first | (refine wpList_load_addr rfl _ _ rfl _ rfl _ _ CA.out Tryz.underlying42 rfl (by kernel_rfl) ?_) | (refine wpList_load_mid rfl _ _ rfl _ _ rfl _ _ RG.out Tryz.underlying42 rfl (by kernel_rfl) ?_))
            first | rw [hwy] | skip
            refine HRUN.out.mono ?_
            rintro e wz ⟨rfl, h5, k5⟩
            have h5 : Wr wz g D1 c (addB c (addB c xs (codeC.put y.code ++ uidC.put y.uid ++ uidC.put y.id ++ leb y.rev ++ dataC.put y.data ++ leb y.pods.length ++ (y.pods.take j).flatMap podC.put)) (podC.put x)) := h5
            rw [addB_two, List.append_assoc, ← HNX.out] at h5
            have HWz := Lib.hid h5
            have HKz := Lib.hid (HKy.out.trans k5)
            clear h5 k5 HRUN hwy RG CA Z3
            go_wp2
            go_roundw
            case rel => exact ⟨j + 1, by omega, by go_num, HWz.out, HKz.out⟩
            case measure => simp [RowKit.intOf]; omega
         · obtain rfl : j = y.pods.length := by omega
           have hlt' : ¬ (y.pods.length : Int) < (y.pods.length : Int) := by omega
           have hw_ := HW.out
           rw [List.take_length] at hw_
           have LL7 := Lib.hid (show (y.pods.flatMap podC.put).length ≤ 20 * 3100000 from Nat.le_trans (flat_put_len podC.put 3100000 y.pods (fun y_ hy_ => pod_put_len (HPO.out y_ hy_).1 (HLT.out.pods y_ hy_).rs)) (Nat.mul_le_mul_right _ (by have h_ := HLT.out.np; omega)))
           obtain ⟨w8, hwr⟩ : ∃ v, v = wr := ⟨_, rfl⟩
           subst hwr
           have HW8 := Lib.hid hw_
           have K8 := Lib.hid (K7.out.trans HK.out)
           have C8 := CW
           have X8 := XW
           clear hw_ HW CW XW HK HW7 K7 C7 X7
           as_aux_lemma =>
            have c6 := box_cell X8.out 6 rfl
            have HRUN := Lib.hid (num_nat g D1 c (addB c xs (codeC.put y.code ++ uidC.put y.uid ++ uidC.put y.id ++ leb y.rev ++ dataC.put y.data ++ leb y.pods.length ++ y.pods.flatMap podC.put)) y.use.length (by unfold maxLen; have := HLT.out.nu; omega) (fun _ => (by have HZ_ := HZ.out; have L1_ := L1.out; have L2_ := L2.out; have L3_ := L3.out; have L4_ := L4.out; have L5_ := L5.out; have L6_ := L6.out; have L7_ := L7.out; have LL7_ := LL7.out; have hz_ := addB_len c xs (codeC.put y.code ++ uidC.put y.uid ++ uidC.put y.id ++ leb y.rev ++ dataC.put y.data ++ leb y.pods.length ++ y.pods.flatMap podC.put); (try simp only [List.length_append] at hz_); omega)) w8 HW8.out)
            go_wp2_with fail
            refine HRUN.out.mono ?_
            rintro e w9 ⟨rfl, h_, k_⟩
            rw [addB_two] at h_
            have HW9 := Lib.hid (show Wr w9 g D1 c (addB c xs (codeC.put y.code ++ uidC.put y.uid ++ uidC.put y.id ++ leb y.rev ++ dataC.put y.data ++ leb y.pods.length ++ y.pods.flatMap podC.put ++ leb y.use.length)) from h_)
            have K9 := Lib.hid (K8.out.trans k_)
            have C9 := Lib.hid (C8.out.trans (k_.below HDL.out))
            have X9 := Lib.hid ((k_.block w.heap.size HDX.out).trans X8.out)
            clear h_ k_ HRUN HW8 K8 C8 X8 c6
            as_aux_lemma =>
             have c6 := box_cell X9.out 6 rfl
             go_wp2_with fail
             have HW0 := Lib.hid (show Wr w9 g D1 c (addB c xs (codeC.put y.code ++ uidC.put y.uid ++ uidC.put y.id ++ leb y.rev ++ dataC.put y.data ++ leb y.pods.length ++ y.pods.flatMap podC.put ++ leb y.use.length ++ (y.use.take 0).flatMap resC.put)) by have h_ := HW9.out; simpa using h_)
             go_loopw [52] (fun i wr => ∃ j : Nat, j ≤ y.use.length ∧ i = .int .i64 j ∧ Hid (Wr wr g D1 c (addB c xs (codeC.put y.code ++ uidC.put y.uid ++ uidC.put y.id ++ leb y.rev ++ dataC.put y.data ++ leb y.pods.length ++ y.pods.flatMap podC.put ++ leb y.use.length ++ (y.use.take j).flatMap resC.put))) ∧ Hid (Kept D1 w9 wr)) (fun i _ => y.use.length - (RowKit.intOf i).toNat)
             case atStart => exact ⟨0, Nat.zero_le _, rfl, HW0.out, Kept.refl D1 _⟩
             case round =>
              obtain ⟨j, hj, rfl, HW, HK⟩ := hrel
              have CW := Lib.hid (show Below w0.heap.size w0 wr from C9.out.trans (HK.out.below HDL.out))
              have XW := Lib.hid ((HK.out.block w.heap.size HDX.out).trans X9.out)
              clear HW0 c6
              by_cases hlt : j < y.use.length
              · have hlt' : (j : Int) < (y.use.length : Int) := by omega
                have hmem := List.getElem_mem hlt
                obtain ⟨a, hRA, ha, hcIN⟩ := (HP.out.use).at hlt
                have HAB := Lib.hid ha
                have HRA := Lib.hid hRA
                have HIN := Lib.hid hcIN
                have HNX := Lib.hid (show (y.use.take (j + 1)).flatMap resC.put = (y.use.take j).flatMap resC.put ++ resC.put y.use[j] by
                 rw [List.take_succ_eq_append_getElem hlt, List.flatMap_append]; simp)
                have HPL := Lib.hid (show ((y.use.take j).flatMap resC.put).length ≤ 20 * 30 from Nat.le_trans (flat_put_len resC.put 30 (y.use.take j) (fun y hy => (fun y_ hy_ => res_put_len (HR.out.use y_ hy_)) y (List.mem_of_mem_take hy))) (Nat.mul_le_mul_right _ (by rw [List.length_take]; have h_ := HLT.out.nu; omega)))
                obtain ⟨x, hx⟩ : ∃ x, y.use[j] = x := ⟨_, rfl⟩
                rw [hx] at HIN HNX hmem
                have HMEM := Lib.hid hmem
                clear hx ha hRA hcIN hmem
                as_aux_lemma =>
                 have CA := Lib.hid (show ∀ j_ v_, ([.int .i64 x.1, .int .i64 x.2.1, .int .i64 x.2.2] : List Value)[j_]? = some v_ → wr.cell? ((a.add (j * 3)).add j_) = some v_ from CellsAt.all ((HIN.out).keep (by rw [Lists.add_block]; exact CW.out.block _ HAB.out)))
                 obtain ⟨wy, hwy⟩ : ∃ v, wr.alloc (.cells #[.int .i64 x.1, .int .i64 x.2.1, .int .i64 x.2.2] 70) = v := ⟨_, rfl⟩
                 have hb3 : Below wr.heap.size wr wy := by rw [← hwy]; exact (Below.refl _ _).alloc (Nat.le_refl _) _
                 have Z3 := Lib.hid (show wy.heap[wr.heap.size]? = some (.cells #[.int .i64 x.1, .int .i64 x.2.1, .int .i64 x.2.2] 70) by rw [← hwy]; exact heap_alloc_new wr _)
                 have RG := Lib.hid (range_at Z3.out 0 [.int .i64 x.1, .int .i64 x.2.1, .int .i64 x.2.2] rfl)
                 have HWy := Lib.hid (show Wr wy g D1 c (addB c xs (codeC.put y.code ++ uidC.put y.uid ++ uidC.put y.id ++ leb y.rev ++ dataC.put y.data ++ leb y.pods.length ++ y.pods.flatMap podC.put ++ leb y.use.length ++ (y.use.take j).flatMap resC.put)) by rw [← hwy]; exact (HW.out.alloc _).less (fun k hk => .inl hk))
                 have HKy := Lib.hid (show Kept D1 w9 wy from HK.out.trans (Kept.of_below hb3 (fun k hk => (HW.out.1 k hk).1)))
                 have Cy := Lib.hid (show Below w0.heap.size w0 wy from CW.out.trans (hb3.mono CW.out.size))
                 clear hb3
                 have HRUN := Lib.hid (use_wr g D1 c (addB c xs (codeC.put y.code ++ uidC.put y.uid ++ uidC.put y.id ++ leb y.rev ++ dataC.put y.data ++ leb y.pods.length ++ y.pods.flatMap podC.put ++ leb y.use.length ++ (y.use.take j).flatMap resC.put)) x (HR.out.use x HMEM.out) (by have HZ_ := HZ.out; have L1_ := L1.out; have L2_ := L2.out; have L3_ := L3.out; have L4_ := L4.out; have L5_ := L5.out; have L6_ := L6.out; have L7_ := L7.out; have LL7_ := LL7.out; have hp_ := HPL.out; have hz_ := addB_len c xs (codeC.put y.code ++ uidC.put y.uid ++ uidC.put y.id ++ leb y.rev ++ dataC.put y.data ++ leb y.pods.length ++ y.pods.flatMap podC.put ++ leb y.use.length ++ (y.use.take j).flatMap resC.put); (try simp only [List.length_append] at hz_); omega) w0 wy Cy.out HDL.out HWy.out)
                 rw [HRA.out]
                 go_wp2_with (first | (refine wpList_load_addr rfl _ _ rfl _ rfl _ _ CA.out Tryz.underlying70 rfl (by kernel_rfl) ?_) | (refine wpList_load_mid rfl _ _ rfl _ _ rfl _ _ RG.out Tryz.underlying70 rfl (by kernel_rfl) ?_))
                 first | rw [hwy] | skip
                 refine HRUN.out.mono ?_
                 rintro e wz ⟨rfl, h5, k5⟩
                 have h5 : Wr wz g D1 c (addB c (addB c xs (codeC.put y.code ++ uidC.put y.uid ++ uidC.put y.id ++ leb y.rev ++ dataC.put y.data ++ leb y.pods.length ++ y.pods.flatMap podC.put ++ leb y.use.length ++ (y.use.take j).flatMap resC.put)) (resC.put x)) := h5
                 rw [addB_two, List.append_assoc, ← HNX.out] at h5
                 have HWz := Lib.hid h5
                 have HKz := Lib.hid (HKy.out.trans k5)
                 clear h5 k5 HRUN hwy RG CA Z3
                 go_wp2
                 go_roundw
                 case rel => exact ⟨j + 1, by omega, by go_num, HWz.out, HKz.out⟩
                 case measure => simp [RowKit.intOf]; omega
              · obtain rfl : j = y.use.length := by omega
                have hlt' : ¬ (y.use.length : Int) < (y.use.length : Int) := by omega
                have hw_ := HW.out
                rw [List.take_length] at hw_
                have LL9 := Lib.hid (show (y.use.flatMap resC.put).length ≤ 20 * 30 from Nat.le_trans (flat_put_len resC.put 30 y.use (fun y_ hy_ => res_put_len (HR.out.use y_ hy_))) (Nat.mul_le_mul_right _ (by have h_ := HLT.out.nu; omega)))
                obtain ⟨w10, hwr⟩ : ∃ v, v = wr := ⟨_, rfl⟩
                subst hwr
                have HW10 := Lib.hid hw_
                have K10 := Lib.hid (K9.out.trans HK.out)
                have C10 := CW
                have X10 := XW
                clear hw_ HW CW XW HK HW9 K9 C9 X9
                as_aux_lemma =>
                 go_wp2
                 go_end0
                 refine ⟨rfl, ?_, HK0.out.trans (K10.out.mono HDD.out)⟩
                 have hE : codeC.put y.code ++ uidC.put y.uid ++ uidC.put y.id ++ leb y.rev ++ dataC.put y.data ++ leb y.pods.length ++ y.pods.flatMap podC.put ++ leb y.use.length ++ y.use.flatMap resC.put = replyC.put y := by
                  rw [show replyC.put y = codeC.put y.code ++ (uidC.put y.uid ++ (uidC.put y.id ++ (leb y.rev ++ (dataC.put y.data ++ ((leb y.pods.length ++ y.pods.flatMap podC.put) ++ (leb y.use.length ++ y.use.flatMap resC.put)))))) from rfl]
                  first | rfl | (simp only [List.append_assoc]; done) | (simp only [List.append_assoc]; rfl)
                 have hW_ := HW10.out
                 rw [hE] at hW_
                 exact hW_.less HDD.out
end Tl
end Go.Proofs.YtljbpelogjmciaaGreatDoor
set_option linter.unusedVariables false
set_option linter.unusedSimpArgs false
namespace Go.Proofs.YtljbpelogjmciaaGreatDoor
open Go.ChangeShapes Go.WideShapes Go.ChangeAt Go.RowKit Go.Lib
open LebMath WirePure Sd Wire SpecOwn SpecRef Book Pk
namespace Tl
theorem pod_sure {p : Pd} (h : podB p = true) : (checkV p.spec).1 = 0 := by
 unfold podB at h
 simp only [Bool.and_eq_true, decide_eq_true_eq] at h
 exact h.1.1.1.1.1.2
theorem msg_parts {m : Mg} (h : msgB m = true) (hr : revsM m) :
 (m.kind = 1 ∧ replyC.ok m.reply ∧ (∀ p ∈ m.reply.pods, podC.ok p ∧ (checkV p.spec).1 = 0) ∧ m.event = zeroE) ∨
 (m.kind = 2 ∧ eventC.ok m.event ∧ (hasB m.event.kind = true → podC.ok m.event.pod ∧ (checkV m.event.pod.spec).1 = 0) ∧ m.reply = zeroR) := by
 unfold msgB at h
 rw [Bool.and_eq_true] at h
 obtain ⟨h0, h⟩ := h
 split at h
 · next e =>
   rw [Bool.and_eq_true] at h
   refine .inl ⟨e, reply_ok h.2 hr.1, fun p hp => ?_, (noEvent_iff _).1 h.1⟩
   have h2 := h.2
   unfold replyB at h2
   simp only [Bool.and_eq_true, decide_eq_true_eq, List.all_eq_true] at h2
   have h3 := h2.1.1.2 p hp
   exact ⟨pod_ok h3 (hr.1.2 p hp), pod_sure h3⟩
 · split at h
   · next e =>
     rw [Bool.and_eq_true] at h
     refine .inr ⟨e, event_ok h.2 hr.2.1 hr.2.2, fun hk => ?_, (noReply_iff _).1 h.1⟩
     have h2 := h.2
     unfold eventB at h2
     rw [hk, Bool.true_and, Bool.or_eq_true, Bool.and_eq_true] at h2
     have h3 : podB m.event.pod = true := by
      rcases h2 with h2 | h2
      · exact h2
      · have h4 := inB_iff.1 h2.1
        have h5 := inB_iff.1 hk
        omega
     exact ⟨pod_ok h3 hr.2.2, pod_sure h3⟩
   · simp at h
set_option maxRecDepth 100000 in
set_option maxHeartbeats 4000000 in
theorem event_wr (g : Nat) (D : Nat → Prop) (c : Int) (xs : List UInt8) (u : Ev) (LA : Option Addr) (lc : Nat) (IA : Option Addr) (ic : Nat) (MA : Option Addr) (mc : Nat) (RA : Option Addr) (rc : Nat) (hok : eventC.ok u) (hr : u.rev < 18446744073709551616) (hpo : hasB u.kind = true → podC.ok u.pod ∧ (checkV u.pod.spec).1 = 0) (hLt : LightP u.pod) (hz : xs.length + 1000000000 ≤ 140737488355328) (w0 w : World) (hb : Below w0.heap.size w0 w) (hD : ∀ k, k < w0.heap.size → D k) (hP : u.pod.In w0 LA lc IA ic MA mc RA) (hL : SLaid w0) (h : Wr w g D c xs) :
 Calls Tryz.prog 63 #[.pointer (some ⟨g, 0, none⟩), .agg #[.int .i64 u.kind, .int .u64 u.rev, .int .i64 u.pod.uid, .int .u64 u.pod.rev, .string u.pod.spec.name, .slice LA u.pod.spec.labels.length lc, .slice IA u.pod.spec.init.length ic, .slice MA u.pod.spec.main.length mc, .int .i64 u.pod.spec.restart, .int .i64 u.pod.spec.grace, .int .i64 u.pod.spec.prio, .int .i64 u.pod.phase, .slice RA u.pod.rs.length rc, .int .i64 u.pod.mark, .int .i64 u.pod.grace]] w fun e w' => e = .returned (.tuple #[]) ∧ Wr w' g D c (addB c xs (eventC.put u)) ∧ Kept D w w' := by
 have HOK := Lib.hid hok
 have HLT := Lib.hid hLt
 have HL := Lib.hid hL
 have HP := Lib.hid hP
 have HZ := Lib.hid hz
 have HB := Lib.hid hb
 have HD := Lib.hid hD
 have HPO := Lib.hid hpo
 have L1 := Lib.hid (show (ekindC.put u.kind).length ≤ 10 from int_put_len hok.1.1.1)
 have L2 := Lib.hid (leb_le_ten (n := u.rev) hr)
 have HR := Lib.hid hr
 clear hok hz hb hD hLt hL hP hpo hr
 obtain ⟨w1, hw1⟩ : ∃ v, w.alloc (.cells #[.int .i64 u.kind, .int .u64 u.rev, .int .i64 u.pod.uid, .int .u64 u.pod.rev, .string u.pod.spec.name, .slice LA u.pod.spec.labels.length lc, .slice IA u.pod.spec.init.length ic, .slice MA u.pod.spec.main.length mc, .int .i64 u.pod.spec.restart, .int .i64 u.pod.spec.grace, .int .i64 u.pod.spec.prio, .int .i64 u.pod.phase, .slice RA u.pod.rs.length rc, .int .i64 u.pod.mark, .int .i64 u.pod.grace] 48) = v := ⟨_, rfl⟩
 have hb1 : Below w.heap.size w w1 := by rw [← hw1]; exact (Below.refl _ _).alloc (Nat.le_refl _) _
 have X1 := Lib.hid (show w1.heap[w.heap.size]? = some (.cells #[.int .i64 u.kind, .int .u64 u.rev, .int .i64 u.pod.uid, .int .u64 u.pod.rev, .string u.pod.spec.name, .slice LA u.pod.spec.labels.length lc, .slice IA u.pod.spec.init.length ic, .slice MA u.pod.spec.main.length mc, .int .i64 u.pod.spec.restart, .int .i64 u.pod.spec.grace, .int .i64 u.pod.spec.prio, .int .i64 u.pod.phase, .slice RA u.pod.rs.length rc, .int .i64 u.pod.mark, .int .i64 u.pod.grace] 48) by rw [← hw1]; exact heap_alloc_new w _)
 obtain ⟨D1, hD1⟩ : ∃ D1 : Nat → Prop, D1 = fun k => D k ∨ k = w.heap.size := ⟨_, rfl⟩
 have HD1 := Lib.hid hD1
 have HDX := Lib.hid (show D1 w.heap.size by rw [hD1]; exact .inr rfl)
 have HDD := Lib.hid (show ∀ k, D k → D1 k from fun k hk => by rw [hD1]; exact .inl hk)
 have HW1 := Lib.hid (show Wr w1 g D1 c xs by rw [hD1, ← hw1]; exact h.alloc _)
 have HK0 := Lib.hid (show Kept D w w1 from Kept.of_below hb1 (fun k hk => (h.1 k hk).1))
 have K1 := Lib.hid (Kept.refl D1 w1)
 have C1 := Lib.hid (HB.out.trans (hb1.mono HB.out.size))
 have HDL := Lib.hid (show ∀ k, k < w0.heap.size → D1 k from fun k hk => HDD.out k (HD.out k hk))
 clear hb1 hD1 h
 go_enter Tryz.func63, Tryz.ntmps63
 as_aux_lemma =>
  have c0 := box_cell X1.out 0 rfl
  have HRUN := Lib.hid (num_wr g D1 c xs (u.kind) 5 (by decide) HOK.out.1.1.1 (by have HZ_ := HZ.out; have L1_ := L1.out; have L2_ := L2.out; omega) w1 HW1.out)
  go_wp2_with fail
  refine HRUN.out.mono ?_
  rintro e w2 ⟨rfl, h_, k_⟩
  have HW2 := Lib.hid (show Wr w2 g D1 c (addB c xs (ekindC.put u.kind)) from h_)
  have K2 := Lib.hid (K1.out.trans k_)
  have C2 := Lib.hid (C1.out.trans (k_.below HDL.out))
  have X2 := Lib.hid ((k_.block w.heap.size HDX.out).trans X1.out)
  clear h_ k_ HRUN HW1 K1 C1 X1 hw1 c0
  as_aux_lemma =>
   have c1 := box_cell X2.out 1 rfl
   have HRUN := Lib.hid (big_any g D1 c (addB c xs (ekindC.put u.kind)) u.rev HR.out (fun _ => (by have HZ_ := HZ.out; have L1_ := L1.out; have L2_ := L2.out; have hz_ := addB_len c xs (ekindC.put u.kind); (try simp only [List.length_append] at hz_); omega)) w2 HW2.out)
   go_wp2_with fail
   refine HRUN.out.mono ?_
   rintro e w3 ⟨rfl, h_, k_⟩
   rw [addB_two] at h_
   have HW3 := Lib.hid (show Wr w3 g D1 c (addB c xs (ekindC.put u.kind ++ leb u.rev)) from h_)
   have K3 := Lib.hid (K2.out.trans k_)
   have C3 := Lib.hid (C2.out.trans (k_.below HDL.out))
   have X3 := Lib.hid ((k_.block w.heap.size HDX.out).trans X2.out)
   clear h_ k_ HRUN HW2 K2 C2 X2 c1
   as_aux_lemma =>
    have c0 := box_cell X3.out 0 rfl
    obtain ⟨b, hb⟩ : ∃ b, hasB u.kind = b := ⟨_, rfl⟩
    have HBV := Lib.hid hb
    have HRUN := Lib.hid (hasB_any u.kind w3)
    rw [hb] at HRUN
    clear hb
    go_wp2_with fail
    refine HRUN.out.mono ?_
    rintro e_ wy_ ⟨rfl, rfl⟩
    clear c0 HRUN
    cases b with
    | false =>
     go_wp2
     go_end0
     refine ⟨rfl, ?_, HK0.out.trans (K3.out.mono HDD.out)⟩
     have hE : ekindC.put u.kind ++ leb u.rev = eventC.put u := by
      rw [show eventC.put u = (ekindC.put u.kind ++ leb u.rev) ++ (podIfC u.kind).put u.pod from rfl]
      unfold podIfC
      rw [if_neg (by rw [HBV.out]; decide)]
      exact (List.append_nil _).symm
     have hW_ := HW3.out
     rw [hE] at hW_
     exact hW_.less HDD.out
    | true =>
     as_aux_lemma =>
      have RG := Lib.hid (range_at X3.out 2 [.int .i64 u.pod.uid, .int .u64 u.pod.rev, .string u.pod.spec.name, .slice LA u.pod.spec.labels.length lc, .slice IA u.pod.spec.init.length ic, .slice MA u.pod.spec.main.length mc, .int .i64 u.pod.spec.restart, .int .i64 u.pod.spec.grace, .int .i64 u.pod.spec.prio, .int .i64 u.pod.phase, .slice RA u.pod.rs.length rc, .int .i64 u.pod.mark, .int .i64 u.pod.grace] rfl)
      have HRUN := Lib.hid (pod_wr g D1 c (addB c xs (ekindC.put u.kind ++ leb u.rev)) u.pod LA lc IA ic MA mc RA rc (HPO.out HBV.out).1 HLT.out (HPO.out HBV.out).2 (by have HZ_ := HZ.out; have L1_ := L1.out; have L2_ := L2.out; have hz_ := addB_len c xs (ekindC.put u.kind ++ leb u.rev); (try simp only [List.length_append] at hz_); omega) w0 w3 C3.out HDL.out HP.out HL.out HW3.out)
      go_wp2_with (refine wpList_load_mid rfl _ _ rfl _ _ rfl _ _ RG.out Tryz.underlying42 rfl (by kernel_rfl) ?_)
      refine HRUN.out.mono ?_
      rintro e w4 ⟨rfl, h_, k_⟩
      rw [addB_two] at h_
      have HW4 := Lib.hid (show Wr w4 g D1 c (addB c xs (ekindC.put u.kind ++ leb u.rev ++ podC.put u.pod)) from h_)
      have K4 := Lib.hid (K3.out.trans k_)
      have C4 := Lib.hid (C3.out.trans (k_.below HDL.out))
      have X4 := Lib.hid ((k_.block w.heap.size HDX.out).trans X3.out)
      clear h_ k_ HRUN RG HW3 K3 C3 X3 
      as_aux_lemma =>
       go_wp2
       go_end0
       refine ⟨rfl, ?_, HK0.out.trans (K4.out.mono HDD.out)⟩
       have hE : ekindC.put u.kind ++ leb u.rev ++ podC.put u.pod = eventC.put u := by
        rw [show eventC.put u = (ekindC.put u.kind ++ leb u.rev) ++ (podIfC u.kind).put u.pod from rfl]
        unfold podIfC
        rw [if_pos HBV.out]
       have hW_ := HW4.out
       rw [hE] at hW_
       exact hW_.less HDD.out
set_option maxRecDepth 100000 in
set_option maxHeartbeats 4000000 in
theorem bytes_any (m : Mg) (PA : Option Addr) (pc : Nat) (UA : Option Addr) (uc : Nat) (LA : Option Addr) (lc : Nat) (IA : Option Addr) (ic : Nat) (MA : Option Addr) (mc : Nat) (RA : Option Addr) (rc : Nat) (w : World) (hLt : LightM m) (hL : SLaid w) (h : m.In w PA UA LA lc IA ic MA mc RA) :
 Calls Tryz.prog 26 #[.agg #[.int .i64 m.kind, .int .i64 m.num, .int .i64 m.reply.code, .int .i64 m.reply.uid, .int .i64 m.reply.id, .int .u64 m.reply.rev, .string m.reply.data, .slice PA m.reply.pods.length pc, .slice UA m.reply.use.length uc, .int .i64 m.event.kind, .int .u64 m.event.rev, .int .i64 m.event.pod.uid, .int .u64 m.event.pod.rev, .string m.event.pod.spec.name, .slice LA m.event.pod.spec.labels.length lc, .slice IA m.event.pod.spec.init.length ic, .slice MA m.event.pod.spec.main.length mc, .int .i64 m.event.pod.spec.restart, .int .i64 m.event.pod.spec.grace, .int .i64 m.event.pod.spec.prio, .int .i64 m.event.pod.phase, .slice RA m.event.pod.rs.length rc, .int .i64 m.event.pod.mark, .int .i64 m.event.pod.grace]] w fun e w' => Below w.heap.size w w' ∧ ((msgB m = true ∧ e = .returned (.tuple #[.string ⟨(msgC.put m).toArray⟩, .int .i64 0])) ∨ (msgB m = false ∧ e = .returned (.tuple #[.string ⟨#[]⟩, .int .i64 4]))) := by
 have HLT := Lib.hid hLt
 have HL := Lib.hid hL
 have H := Lib.hid h
 obtain ⟨w1, hw1⟩ : ∃ v, w.alloc (.cells #[.int .i64 m.kind, .int .i64 m.num, .int .i64 m.reply.code, .int .i64 m.reply.uid, .int .i64 m.reply.id, .int .u64 m.reply.rev, .string m.reply.data, .slice PA m.reply.pods.length pc, .slice UA m.reply.use.length uc, .int .i64 m.event.kind, .int .u64 m.event.rev, .int .i64 m.event.pod.uid, .int .u64 m.event.pod.rev, .string m.event.pod.spec.name, .slice LA m.event.pod.spec.labels.length lc, .slice IA m.event.pod.spec.init.length ic, .slice MA m.event.pod.spec.main.length mc, .int .i64 m.event.pod.spec.restart, .int .i64 m.event.pod.spec.grace, .int .i64 m.event.pod.spec.prio, .int .i64 m.event.pod.phase, .slice RA m.event.pod.rs.length rc, .int .i64 m.event.pod.mark, .int .i64 m.event.pod.grace] 50) = v := ⟨_, rfl⟩
 have B1 := Lib.hid (show Below w.heap.size w w1 by rw [← hw1]; exact (Below.refl _ _).alloc (Nat.le_refl _) _)
 have X1 := Lib.hid (show w1.heap[w.heap.size]? = some (.cells #[.int .i64 m.kind, .int .i64 m.num, .int .i64 m.reply.code, .int .i64 m.reply.uid, .int .i64 m.reply.id, .int .u64 m.reply.rev, .string m.reply.data, .slice PA m.reply.pods.length pc, .slice UA m.reply.use.length uc, .int .i64 m.event.kind, .int .u64 m.event.rev, .int .i64 m.event.pod.uid, .int .u64 m.event.pod.rev, .string m.event.pod.spec.name, .slice LA m.event.pod.spec.labels.length lc, .slice IA m.event.pod.spec.init.length ic, .slice MA m.event.pod.spec.main.length mc, .int .i64 m.event.pod.spec.restart, .int .i64 m.event.pod.spec.grace, .int .i64 m.event.pod.spec.prio, .int .i64 m.event.pod.phase, .slice RA m.event.pod.rs.length rc, .int .i64 m.event.pod.mark, .int .i64 m.event.pod.grace] 50) by rw [← hw1]; exact heap_alloc_new w _)
 have RG := Lib.hid (range_at X1.out 0 [.int .i64 m.kind, .int .i64 m.num, .int .i64 m.reply.code, .int .i64 m.reply.uid, .int .i64 m.reply.id, .int .u64 m.reply.rev, .string m.reply.data, .slice PA m.reply.pods.length pc, .slice UA m.reply.use.length uc, .int .i64 m.event.kind, .int .u64 m.event.rev, .int .i64 m.event.pod.uid, .int .u64 m.event.pod.rev, .string m.event.pod.spec.name, .slice LA m.event.pod.spec.labels.length lc, .slice IA m.event.pod.spec.init.length ic, .slice MA m.event.pod.spec.main.length mc, .int .i64 m.event.pod.spec.restart, .int .i64 m.event.pod.spec.grace, .int .i64 m.event.pod.spec.prio, .int .i64 m.event.pod.phase, .slice RA m.event.pod.rs.length rc, .int .i64 m.event.pod.mark, .int .i64 m.event.pod.grace] rfl)
 clear h hL hLt
 go_enter Tryz.func26, Tryz.ntmps26
 go_wp2_with (refine wpList_load_mid rfl _ _ rfl _ _ rfl _ _ RG.out Tryz.underlying50 rfl (by kernel_rfl) ?_)
 refine (check_code m PA pc UA uc LA lc IA ic MA mc RA rc w1 HLT.out (HL.out.below B1.out) (H.out.below B1.out)).mono ?_
 rintro e w2 ⟨rfl, hb2⟩
 have B2 := Lib.hid (B1.out.trans (hb2.mono B1.out.size))
 have X2 := Lib.hid ((hb2.block w.heap.size (lt_of_block X1.out)).trans X1.out)
 clear hb2 X1 RG hw1 B1
 obtain ⟨b, hb⟩ : ∃ b, msgB m = b := ⟨_, rfl⟩
 rw [hb]
 have HB1 := Lib.hid hb
 clear hb
 cases b with
 | false =>
  go_wp2
  go_ret2
  exact ⟨B2.out, .inr ⟨HB1.out, rfl⟩⟩
 | true =>
  go_wp2_with fail
  refine (write_any w2).mono ?_
  rintro e w3 ⟨rfl, h3, hb3, _⟩
  have B3 := Lib.hid (B2.out.trans (hb3.mono B2.out.size))
  have X3 := Lib.hid ((hb3.block w.heap.size (lt_of_block X2.out)).trans X2.out)
  have hgx : w.heap.size < w2.heap.size := lt_of_block X2.out
  obtain ⟨g, hg⟩ : ∃ g, w2.heap.size = g := ⟨_, rfl⟩
  rw [hg] at h3 hgx ⊢
  obtain ⟨DD, hDD⟩ : ∃ DD : Nat → Prop, DD = (· < g) := ⟨_, rfl⟩
  have HDG := Lib.hid (show ∀ k, k < w.heap.size + 1 → DD k from fun k hk => by rw [hDD]; show k < g; omega)
  have H3 := Lib.hid (show Wr w3 g DD 0 [] by rw [hDD]; exact h3)
  have HOK := Lib.hid (msg_ok HB1.out H.out.revs)
  clear h3 hb3 hg hDD hgx X2 B2
  as_aux_lemma =>
   have c0 := box_cell X3.out 0 rfl
   have HRUN := Lib.hid (num_wr g DD 0 [] m.kind 2 (by decide) HOK.out.1.1.1 (by decide) w3 H3.out)
   go_wp2_with fail
   refine HRUN.out.mono ?_
   rintro e w4 ⟨rfl, h_, k_⟩
   rw [addB_no, List.nil_append] at h_
   have H4 := Lib.hid (show Wr w4 g DD 0 (mkindC.put m.kind) from h_)
   have X4 := Lib.hid ((k_.block w.heap.size (HDG.out _ (by omega))).trans X3.out)
   have B4 := Lib.hid (B3.out.trans (k_.below (fun k hk => HDG.out k (by omega))))
   clear h_ k_ HRUN X3 H3 B3 c0
   as_aux_lemma =>
    have L1 : (mkindC.put m.kind).length ≤ 10 := int_put_len HOK.out.1.1.1
    have L2 : (uidC.put m.num).length ≤ 10 := int_put_len HOK.out.1.1.2
    have HL12 := Lib.hid (show (mkindC.put m.kind ++ uidC.put m.num).length ≤ 20 by rw [List.length_append]; omega)
    have c1 := box_cell X4.out 1 rfl
    have HRUN := Lib.hid (num_wr g DD 0 (mkindC.put m.kind) m.num 1073741824 (by decide) HOK.out.1.1.2 (by omega) w4 H4.out)
    clear L1 L2
    go_wp2_with fail
    refine HRUN.out.mono ?_
    rintro e w6 ⟨rfl, h_, k_⟩
    rw [addB_no] at h_
    have H6 := Lib.hid (show Wr w6 g DD 0 (mkindC.put m.kind ++ uidC.put m.num) from h_)
    have X6 := Lib.hid ((k_.block w.heap.size (HDG.out _ (by omega))).trans X4.out)
    have B6 := Lib.hid (B4.out.trans (k_.below (fun k hk => HDG.out k (by omega))))
    clear h_ k_ HRUN X4 H4 B4 c1
    have HLEN := Lib.hid (show (mkindC.put m.kind ++ uidC.put m.num).length + 2000000000 ≤ 140737488355328 by have := HL12.out; omega)
    have HPARTS := Lib.hid (msg_parts HB1.out H.out.revs)
    have c0 := box_cell X6.out 0 rfl
    rcases HPARTS.out with ⟨hk, hyo, hyp, he⟩ | ⟨hk, huo, hup, he⟩
    · have HK := Lib.hid hk
      have HE := Lib.hid he
      rw [hk] at c0
      clear hk he
      as_aux_lemma =>
       have RG := Lib.hid (range_at X6.out 2 [.int .i64 m.reply.code, .int .i64 m.reply.uid, .int .i64 m.reply.id, .int .u64 m.reply.rev, .string m.reply.data, .slice PA m.reply.pods.length pc, .slice UA m.reply.use.length uc] rfl)
       have HRUN := Lib.hid (reply_wr g DD 0 _ m.reply PA pc UA uc hyo hyp HLT.out.reply HLEN.out w w6 B6.out (fun k hk => HDG.out k (by omega)) H.out.reply HL.out H6.out)
       go_wp2_with (refine wpList_load_mid rfl _ _ rfl _ _ rfl _ _ RG.out Tryz.underlying46 rfl (by kernel_rfl) ?_)
       refine HRUN.out.mono ?_
       rintro e w7 ⟨rfl, h_, k_⟩
       rw [addB_no] at h_
       have H7 := Lib.hid h_
       have B7 := Lib.hid (B6.out.trans (k_.below (fun k hk => HDG.out k (by omega))))
       clear h_ k_ HRUN RG X6 H6 B6
       as_aux_lemma =>
        have hE : ((mkindC.put m.kind ++ uidC.put m.num) ++ replyC.put m.reply) = msgC.put m := by
         rw [show msgC.put m = (mkindC.put m.kind ++ uidC.put m.num) ++ (bodyC m.kind).put (m.reply, m.event) from rfl]
         unfold bodyC
         rw [if_pos HK.out]
         rfl
        have h7 := H7.out
        rw [hE] at h7
        have HRUN := Lib.hid (end_ok g DD _ w7 h7)
        clear h7 H7
        go_wp2_with fail
        refine HRUN.out.mono ?_
        rintro e w9 ⟨rfl, rfl⟩
        go_wp2
        go_ret2
        exact ⟨B7.out, .inl ⟨HB1.out, rfl⟩⟩
    · have HK := Lib.hid hk
      have HE := Lib.hid he
      rw [hk] at c0
      clear hk he
      as_aux_lemma =>
       have RG := Lib.hid (range_at X6.out 9 [.int .i64 m.event.kind, .int .u64 m.event.rev, .int .i64 m.event.pod.uid, .int .u64 m.event.pod.rev, .string m.event.pod.spec.name, .slice LA m.event.pod.spec.labels.length lc, .slice IA m.event.pod.spec.init.length ic, .slice MA m.event.pod.spec.main.length mc, .int .i64 m.event.pod.spec.restart, .int .i64 m.event.pod.spec.grace, .int .i64 m.event.pod.spec.prio, .int .i64 m.event.pod.phase, .slice RA m.event.pod.rs.length rc, .int .i64 m.event.pod.mark, .int .i64 m.event.pod.grace] rfl)
       have HRUN := Lib.hid (event_wr g DD 0 _ m.event LA lc IA ic MA mc RA rc huo H.out.rev hup HLT.out.pod (by have := HLEN.out; omega) w w6 B6.out (fun k hk => HDG.out k (by omega)) H.out.pod HL.out H6.out)
       go_wp2_with (refine wpList_load_mid rfl _ _ rfl _ _ rfl _ _ RG.out Tryz.underlying48 rfl (by kernel_rfl) ?_)
       refine HRUN.out.mono ?_
       rintro e w7 ⟨rfl, h_, k_⟩
       rw [addB_no] at h_
       have H7 := Lib.hid h_
       have B7 := Lib.hid (B6.out.trans (k_.below (fun k hk => HDG.out k (by omega))))
       clear h_ k_ HRUN RG X6 H6 B6
       as_aux_lemma =>
        have hE : ((mkindC.put m.kind ++ uidC.put m.num) ++ eventC.put m.event) = msgC.put m := by
         rw [show msgC.put m = (mkindC.put m.kind ++ uidC.put m.num) ++ (bodyC m.kind).put (m.reply, m.event) from rfl]
         unfold bodyC
         rw [if_neg (by rw [HK.out]; decide), if_pos HK.out]
         rfl
        have h7 := H7.out
        rw [hE] at h7
        have HRUN := Lib.hid (end_ok g DD _ w7 h7)
        clear h7 H7
        go_wp2_with fail
        refine HRUN.out.mono ?_
        rintro e w9 ⟨rfl, rfl⟩
        go_wp2
        go_ret2
        exact ⟨B7.out, .inl ⟨HB1.out, rfl⟩⟩
end Tl
end Go.Proofs.YtljbpelogjmciaaGreatDoor
