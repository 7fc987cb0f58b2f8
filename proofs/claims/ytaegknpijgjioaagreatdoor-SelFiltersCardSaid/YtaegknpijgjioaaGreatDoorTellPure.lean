/-
  What chapter 9 says, in plain functions: pods, replies, events, messages; which may be, their bytes, how they are read; there and back, just the bytes. No condition.
-/
import Derived.Test.YtaegknpijgjioaaGreatDoorPackAll
import Derived.Test.YtaegknpijgjioaaGreatDoorSpecDataAll
set_option linter.unusedVariables false
set_option linter.unusedSimpArgs false
namespace Go.Proofs.YtaegknpijgjioaaGreatDoor.Tl
open WirePure LebMath Sd TextPure Pk SpecOwn SpecRef Book

structure Pd where
  uid : Int
  rev : Nat
  spec : Spc
  phase : Int
  rs : List Int
  mark : Int
  grace : Int
structure Rp where
  code : Int
  uid : Int
  id : Int
  rev : Nat
  data : ByteArray
  pods : List Pd
  use : List (Int × Int × Int)
structure Ev where
  kind : Int
  rev : Nat
  pod : Pd
structure Mg where
  kind : Int
  num : Int
  reply : Rp
  event : Ev
def zeroS : Spc := ⟨⟨#[]⟩, [], [], [], 0, 0, 0⟩
def zeroP : Pd := ⟨0, 0, zeroS, 0, [], 0, 0⟩
def zeroR : Rp := ⟨0, 0, 0, 0, ⟨#[]⟩, [], []⟩
def zeroE : Ev := ⟨0, 0, zeroP⟩
def zeroM : Mg := ⟨0, 0, zeroR, zeroE⟩
/-! ## what may be -/
def inB (n a b : Int) : Bool := decide (a ≤ n) && decide (n ≤ b)
def restB (n : Int) : Bool := inB n 0 1073741824
def useB (u : Int × Int × Int) : Bool := inB u.1 0 1099511627776 && inB u.2.1 0 1099511627776 && inB u.2.2 0 1099511627776
def podB (p : Pd) : Bool := inB p.uid 1 1073741824 && decide ((checkV p.spec).1 = 0) && inB p.phase 1 4 && decide (p.rs.length = p.spec.main.length) && p.rs.all restB && inB p.mark 0 2 && inB p.grace 0 1000
def noPodB (p : Pd) : Bool := p.uid == 0 && p.rev == 0 && sameS p.spec zeroS && p.phase == 0 && decide (p.rs.length = 0) && p.mark == 0 && p.grace == 0
def noReplyB (y : Rp) : Bool := y.code == 0 && y.uid == 0 && y.id == 0 && y.rev == 0 && decide (y.data = ⟨#[]⟩) && decide (y.pods.length = 0) && decide (y.use.length = 0)
def noEventB (e : Ev) : Bool := e.kind == 0 && e.rev == 0 && noPodB e.pod
def replyB (y : Rp) : Bool := inB y.code 0 999 && inB y.uid 0 1073741824 && inB y.id 0 1073741824 && decide (y.data.size ≤ 32) && decide (y.pods.length ≤ 16) && y.pods.all podB && decide (y.use.length ≤ 4) && y.use.all useB
def hasB (k : Int) : Bool := inB k 1 3
def noneB (k : Int) : Bool := inB k 4 5
def eventB (e : Ev) : Bool := hasB e.kind && podB e.pod || noneB e.kind && noPodB e.pod
def msgB (m : Mg) : Bool := inB m.num 1 1073741824 && (if m.kind = 1 then noEventB m.event && replyB m.reply else if m.kind = 2 then noReplyB m.reply && eventB m.event else false)
theorem inB_iff {n a b : Int} : inB n a b = true ↔ a ≤ n ∧ n ≤ b := by unfold inB; simp
theorem noPod_iff (p : Pd) : noPodB p = true ↔ p = zeroP := by
  unfold noPodB
  simp only [Bool.and_eq_true, beq_iff_eq, sameS_iff, decide_eq_true_eq, List.length_eq_zero_iff]
  constructor
  · rintro ⟨⟨⟨⟨⟨⟨h0, h1⟩, h2⟩, h3⟩, h4⟩, h5⟩, h6⟩
    obtain ⟨a0, a1, a2, a3, a4, a5, a6⟩ := p
    simp only at h0 h1 h2 h3 h4 h5 h6
    subst h0 h1 h2 h3 h4 h5 h6
    rfl
  · rintro rfl
    exact ⟨⟨⟨⟨⟨⟨rfl, rfl⟩, rfl⟩, rfl⟩, rfl⟩, rfl⟩, rfl⟩
theorem noEvent_iff (e : Ev) : noEventB e = true ↔ e = zeroE := by
  unfold noEventB
  simp only [Bool.and_eq_true, beq_iff_eq, noPod_iff]
  constructor
  · rintro ⟨⟨h0, h1⟩, h2⟩
    obtain ⟨a0, a1, a2⟩ := e
    simp only at h0 h1 h2
    subst h0 h1 h2
    rfl
  · rintro rfl
    exact ⟨⟨rfl, rfl⟩, rfl⟩
theorem noReply_iff (y : Rp) : noReplyB y = true ↔ y = zeroR := by
  unfold noReplyB
  simp only [Bool.and_eq_true, beq_iff_eq, decide_eq_true_eq, List.length_eq_zero_iff]
  constructor
  · rintro ⟨⟨⟨⟨⟨⟨h0, h1⟩, h2⟩, h3⟩, h4⟩, h5⟩, h6⟩
    obtain ⟨a0, a1, a2, a3, a4, a5, a6⟩ := y
    simp only at h0 h1 h2 h3 h4 h5 h6
    subst h0 h1 h2 h3 h4 h5 h6
    rfl
  · rintro rfl
    exact ⟨⟨⟨⟨⟨⟨rfl, rfl⟩, rfl⟩, rfl⟩, rfl⟩, rfl⟩, rfl⟩
/-! ## more codes: what is read next may depend on what was read -/
def depR {α β : Type} (f : Rdr α) (g : α → Rdr β) : Rdr (α × β) := fun c l => (((f c l).1, (g (f c l).1 (f c l).2.1 (f c l).2.2).1), (g (f c l).1 (f c l).2.1 (f c l).2.2).2)
theorem dep_zero {α β : Type} {f : Rdr α} {g : α → Rdr β} (hg : ∀ x c l, c ≠ 0 → (g x c l).2 = (c, l)) {c : Int} {l : List UInt8} (h : ((depR f g) c l).2.1 = 0) : (f c l).2.1 = 0 := by
  by_cases h0 : (f c l).2.1 = 0
  · exact h0
  · have := hg (f c l).1 (f c l).2.1 (f c l).2.2 h0
    unfold depR at h
    rw [this] at h
    exact absurd h h0
def depC {α β : Type} (A : Codec α) (B : α → Codec β) : Codec (α × β) where
  rd := depR A.rd (fun x => (B x).rd)
  put := fun x => A.put x.1 ++ (B x.1).put x.2
  ok := fun x => A.ok x.1 ∧ (B x.1).ok x.2
  keeps := fun c l h => by
    have h1 := A.keeps c l h
    show ((B (A.rd c l).1).rd (A.rd c l).2.1 (A.rd c l).2.2).2 = _
    rw [h1]
    exact (B _).keeps c l h
  len := fun c l => Nat.le_trans ((B _).len _ _) (A.len c l)
  canon := fun l h => by
    have h0 := dep_zero (fun x => (B x).keeps) h
    have h1 := A.canon l h0
    have h2 : ((B (A.rd 0 l).1).rd (A.rd 0 l).2.1 (A.rd 0 l).2.2).2.1 = 0 := h
    rw [h0] at h2
    have h3 := (B _).canon _ h2
    refine ⟨⟨h1.1, ?_⟩, ?_⟩
    · show (B (A.rd 0 l).1).ok ((B (A.rd 0 l).1).rd (A.rd 0 l).2.1 (A.rd 0 l).2.2).1
      rw [h0]; exact h3.1
    · show l = (A.put (A.rd 0 l).1 ++ (B (A.rd 0 l).1).put ((B (A.rd 0 l).1).rd (A.rd 0 l).2.1 (A.rd 0 l).2.2).1) ++ ((B (A.rd 0 l).1).rd (A.rd 0 l).2.1 (A.rd 0 l).2.2).2.2
      rw [h0, List.append_assoc, ← h3.2]; exact h1.2
  back := fun x r h => by
    have h1 := A.back x.1 ((B x.1).put x.2 ++ r) h.1
    have h2 := (B x.1).back x.2 r h.2
    show depR A.rd (fun x => (B x).rd) 0 (A.put x.1 ++ (B x.1).put x.2 ++ r) = _
    rw [List.append_assoc]
    unfold depR
    rw [h1]
    show ((x.1, ((B x.1).rd 0 ((B x.1).put x.2 ++ r)).1), ((B x.1).rd 0 ((B x.1).put x.2 ++ r)).2) = _
    rw [h2]
  cut := fun x p q h hq e => by
    rcases List.append_eq_append_iff.1 e with ⟨a, h1, h2⟩ | ⟨a, h1, h2⟩
    · have e1 := A.back x.1 a h.1
      show ((B (A.rd 0 p).1).rd (A.rd 0 p).2.1 (A.rd 0 p).2.2).2.1 = 40
      rw [h1, e1]
      exact (B x.1).cut x.2 a q h.2 hq h2
    · show ((B (A.rd 0 p).1).rd (A.rd 0 p).2.1 (A.rd 0 p).2.2).2.1 = 40
      by_cases ha : a = []
      · subst ha
        have hp : p = A.put x.1 := by simpa using h1.symm
        have e1 := A.back x.1 [] h.1
        rw [List.append_nil] at e1
        rw [hp, e1]
        exact (B x.1).cut x.2 [] ((B x.1).put x.2) h.2 (by simp at h2; rw [← h2]; exact hq) (by simp)
      · have h3 := A.cut x.1 p a h.1 ha h1
        have h4 := (B (A.rd 0 p).1).keeps (A.rd 0 p).2.1 (A.rd 0 p).2.2 (by rw [h3]; decide)
        rw [h4]
        exact h3
  okay := fun c l => ⟨A.okay c l, (B _).okay _ _⟩
/-- nothing: just one value, no bytes -/
def unitC {α : Type} (z : α) : Codec α where
  rd := fun c l => (z, c, l)
  put := fun _ => []
  ok := fun x => x = z
  keeps := fun c l h => rfl
  len := fun c l => Nat.le_refl _
  canon := fun l h => ⟨rfl, rfl⟩
  back := fun x r h => by subst h; rfl
  cut := fun x p q h hq e => by
    have := (List.append_eq_nil_iff.1 e.symm).2
    exact absurd this hq
  okay := fun c l => rfl
/-- so many, one behind the other -/
def vecC {α : Type} (k : Nat) (C : Codec α) : Codec (List α) where
  rd := fun c l => (repX C.rd c l k, repS C.rd c l k)
  put := fun xs => xs.flatMap C.put
  ok := fun xs => xs.length = k ∧ ∀ x ∈ xs, C.ok x
  keeps := fun c l h => repS_err C h l k
  len := fun c l => repS_len C c l k
  canon := fun l h => by
    obtain ⟨h1, h2⟩ := rep_canon C k h
    exact ⟨⟨repX_len _ _ _ _, h1⟩, h2⟩
  back := fun xs r h => by
    obtain ⟨h1, h2⟩ := rep_back C r xs h.2 k (by omega)
    show (repX C.rd 0 (xs.flatMap C.put ++ r) k, repS C.rd 0 (xs.flatMap C.put ++ r) k) = _
    rw [h1, h2, ← h.1]
    simp
  cut := fun xs p q h hq e => rep_cut C xs p q h.2 hq e k h.1.symm
  okay := fun c l => ⟨repX_len _ _ _ _, repX_ok C c l k⟩
/-- a list of up to m, whatever becomes of it -/
def rowR {α : Type} (m : Nat) (f : Rdr α) : Rdr (List α) := fun c l =>
  (repX f (numE m c l) (numL m c l) (numV m c l), repS f (numE m c l) (numL m c l) (numV m c l))
def rowC {α : Type} (m : Nat) (hm : m < 18446744073709551616) (C : Codec α) : Codec (List α) where
  rd := rowR m C.rd
  put := listP C.put
  ok := fun xs => xs.length ≤ m ∧ ∀ x ∈ xs, C.ok x
  keeps := fun c l h => (listC m hm C).keeps c l h
  len := fun c l => (listC m hm C).len c l
  canon := fun l h => by
    have h1 := (listC m hm C).canon l h
    have h2 : (listR m C.rd 0 l).1 = (rowR m C.rd 0 l).1 := by
      show (if _ then _ else _) = _
      rw [if_pos (show (repS C.rd (numE m 0 l) (numL m 0 l) (numV m 0 l)).1 = 0 from h)]
      rfl
    rw [← h2]
    exact h1
  back := fun xs r h => by
    have h1 := (listC m hm C).back xs r h
    have h3 : (listR m C.rd 0 (listP C.put xs ++ r)) = (xs, 0, r) := h1
    have h4 : (repS C.rd (numE m 0 (listP C.put xs ++ r)) (numL m 0 (listP C.put xs ++ r)) (numV m 0 (listP C.put xs ++ r))).1 = 0 := by
      have := congrArg (fun t => t.2.1) h3
      exact this
    have h2 : (listR m C.rd 0 (listP C.put xs ++ r)).1 = (rowR m C.rd 0 (listP C.put xs ++ r)).1 := by
      show (if _ then _ else _) = _
      rw [if_pos h4]
      rfl
    show ((rowR m C.rd 0 (listP C.put xs ++ r)).1, (listR m C.rd 0 (listP C.put xs ++ r)).2) = _
    rw [← h2, h3]
  cut := fun xs p q h hq e => (listC m hm C).cut xs p q h hq e
  okay := fun c l => ⟨by show (repX _ _ _ _).length ≤ m; rw [repX_len]; exact numV_le m c l, repX_ok C _ _ _⟩
/-! ## the codes of chapter 9 -/
def uidC : Codec Int := intC 1073741824 (by decide)
def revC : Codec Nat := numC 18446744073709551615 (by decide)
def phaseC : Codec Int := intC 4 (by decide)
def markC : Codec Int := intC 2 (by decide)
def graceC : Codec Int := intC 1000 (by decide)
def codeC : Codec Int := intC 999 (by decide)
def dataC : Codec ByteArray := textC 32 (by decide)
def podC : Codec Pd := mapC (depC (pairC uidC (pairC revC (pairC specC phaseC))) (fun t => pairC (vecC t.2.2.1.main.length uidC) (pairC markC graceC)))
  (fun x => ⟨x.1.1, x.1.2.1, x.1.2.2.1, x.1.2.2.2, x.2.1, x.2.2.1, x.2.2.2⟩) (fun y => ((y.uid, y.rev, y.spec, y.phase), (y.rs, y.mark, y.grace))) (fun _ => rfl)
def podsC : Codec (List Pd) := rowC 16 (by decide) podC
def usesC : Codec (List (Int × Int × Int)) := rowC 4 (by decide) resC
def replyC : Codec Rp := mapC (pairC codeC (pairC uidC (pairC uidC (pairC revC (pairC dataC (pairC podsC usesC))))))
  (fun x => ⟨x.1, x.2.1, x.2.2.1, x.2.2.2.1, x.2.2.2.2.1, x.2.2.2.2.2.1, x.2.2.2.2.2.2⟩) (fun y => (y.code, y.uid, y.id, y.rev, y.data, y.pods, y.use)) (fun _ => rfl)
def podIfC (k : Int) : Codec Pd := if hasB k = true then podC else unitC zeroP
def ekindC : Codec Int := intC 5 (by decide)
def eventC : Codec Ev := mapC (depC (pairC ekindC revC) (fun t => podIfC t.1)) (fun x => ⟨x.1.1, x.1.2, x.2⟩) (fun y => ((y.kind, y.rev), y.pod)) (fun _ => rfl)
def bodyC (k : Int) : Codec (Rp × Ev) :=
  if k = 1 then mapC replyC (fun r => (r, zeroE)) (fun x => x.1) (fun _ => rfl) else if k = 2 then mapC eventC (fun e => (zeroR, e)) (fun x => x.2) (fun _ => rfl) else unitC (zeroR, zeroE)
def mkindC : Codec Int := intC 2 (by decide)
def msgC : Codec Mg := mapC (depC (pairC mkindC uidC) (fun t => bodyC t.1)) (fun x => ⟨x.1.1, x.1.2, x.2.1, x.2.2⟩) (fun y => ((y.kind, y.num), (y.reply, y.event))) (fun _ => rfl)
/-- revisions are numbers of Go's uint64 -/
def revsR (y : Rp) : Prop := y.rev < 18446744073709551616 ∧ ∀ p ∈ y.pods, p.rev < 18446744073709551616
def revsM (m : Mg) : Prop := revsR m.reply ∧ m.event.rev < 18446744073709551616 ∧ m.event.pod.rev < 18446744073709551616
theorem int_in {m : Nat} {hm : m < 18446744073709551616} {z a : Int} {b : Int} (h : inB z a b = true) (ha : 0 ≤ a) (hb : b = (m : Int)) : (intC m hm).ok z := by
  have := inB_iff.1 h
  exact int_ok (by omega) (by omega)
theorem pod_ok {p : Pd} (h : podB p = true) (hr : p.rev < 18446744073709551616) : podC.ok p := by
  unfold podB at h
  simp only [Bool.and_eq_true, decide_eq_true_eq, List.all_eq_true] at h
  obtain ⟨⟨⟨⟨⟨⟨h0, h1⟩, h2⟩, h3⟩, h4⟩, h5⟩, h6⟩ := h
  exact ⟨⟨⟨int_in h0 (by decide) rfl, (by show p.rev ≤ 18446744073709551615; omega), spec_ok h1, int_in h2 (by decide) rfl⟩, ⟨h3, fun x hx => int_in (h4 x hx) (by decide) rfl⟩, int_in h5 (by decide) rfl, int_in h6 (by decide) rfl⟩, rfl⟩
theorem use_ok {u : Int × Int × Int} (h : useB u = true) : resC.ok u := by
  unfold useB at h
  simp only [Bool.and_eq_true] at h
  exact ⟨int_in h.1.1 (by decide) rfl, int_in h.1.2 (by decide) rfl, int_in h.2 (by decide) rfl⟩
theorem reply_ok {y : Rp} (h : replyB y = true) (hr : revsR y) : replyC.ok y := by
  unfold replyB at h
  simp only [Bool.and_eq_true, decide_eq_true_eq, List.all_eq_true] at h
  obtain ⟨⟨⟨⟨⟨⟨⟨h0, h1⟩, h2⟩, h3⟩, h4⟩, h5⟩, h6⟩, h7⟩ := h
  exact ⟨⟨int_in h0 (by decide) rfl, int_in h1 (by decide) rfl, int_in h2 (by decide) rfl, (by show y.rev ≤ 18446744073709551615; have := hr.1; omega), h3, ⟨h4, fun p hp => pod_ok (h5 p hp) (hr.2 p hp)⟩, ⟨h6, fun u hu => use_ok (h7 u hu)⟩⟩, rfl⟩
theorem event_ok {e : Ev} (h : eventB e = true) (h1 : e.rev < 18446744073709551616) (h2 : e.pod.rev < 18446744073709551616) : eventC.ok e := by
  unfold eventB at h
  rw [Bool.or_eq_true, Bool.and_eq_true, Bool.and_eq_true] at h
  refine ⟨⟨⟨?_, (by show e.rev ≤ 18446744073709551615; omega)⟩, ?_⟩, rfl⟩
  · rcases h with h | h
    · have := inB_iff.1 h.1
      exact int_ok (z := e.kind) (by omega) (by omega)
    · have := inB_iff.1 h.1
      exact int_ok (z := e.kind) (by omega) (by omega)
  · show (podIfC e.kind).ok e.pod
    unfold podIfC
    rcases h with h | h
    · rw [if_pos h.1]
      exact pod_ok h.2 h2
    · have := inB_iff.1 h.1
      rw [if_neg (by intro h9; have := inB_iff.1 h9; omega)]
      exact (noPod_iff _).1 h.2
theorem msg_ok {m : Mg} (h : msgB m = true) (hr : revsM m) : msgC.ok m := by
  unfold msgB at h
  rw [Bool.and_eq_true] at h
  obtain ⟨h0, h⟩ := h
  refine ⟨⟨⟨?_, int_in h0 (by decide) rfl⟩, ?_⟩, rfl⟩
  · show (intC 2 (by decide)).ok m.kind
    split at h
    · next e => rw [e]; exact int_ok (by decide) (by decide)
    · split at h
      · next e => rw [e]; exact int_ok (by decide) (by decide)
      · simp at h
  · show (bodyC m.kind).ok (m.reply, m.event)
    unfold bodyC
    split at h
    · next e =>
      rw [if_pos e]
      rw [Bool.and_eq_true] at h
      have he := (noEvent_iff _).1 h.1
      exact ⟨reply_ok h.2 hr.1, by show (m.reply, zeroE) = (m.reply, m.event); rw [he]⟩
    · split at h
      · next e1 e =>
        rw [if_neg e1, if_pos e]
        rw [Bool.and_eq_true] at h
        have he := (noReply_iff _).1 h.1
        exact ⟨event_ok h.2 hr.2.1 hr.2.2, by show (zeroR, m.event) = (m.reply, m.event); rw [he]⟩
      · simp at h
/-- what is read has numbers of Go's uint64 -/
theorem pod_rev {p : Pd} (h : podC.ok p) : p.rev < 18446744073709551616 := by
  have h1 : p.rev ≤ 18446744073709551615 := h.1.1.2.1
  omega
theorem reply_revs {y : Rp} (h : replyC.ok y) : revsR y := by
  have h1 : y.rev ≤ 18446744073709551615 := h.1.2.2.2.1
  exact ⟨by omega, fun p hp => pod_rev (h.1.2.2.2.2.2.1.2 p hp)⟩
theorem zeroR_revs : revsR zeroR := ⟨by show (0 : Nat) < _; decide, fun p hp => by simp [zeroR] at hp⟩
theorem event_revs {e : Ev} (h : eventC.ok e) : e.rev < 18446744073709551616 ∧ e.pod.rev < 18446744073709551616 := by
  have h1 : e.rev ≤ 18446744073709551615 := h.1.1.2
  refine ⟨by omega, ?_⟩
  have h2 : (podIfC e.kind).ok e.pod := h.1.2
  unfold podIfC at h2
  split at h2
  · exact pod_rev h2
  · have h3 : e.pod = zeroP := h2
    rw [h3]
    show (0 : Nat) < _
    decide
theorem msg_revs {m : Mg} (h : msgC.ok m) : revsM m := by
  have h2 : (bodyC m.kind).ok (m.reply, m.event) := h.1.2
  unfold bodyC at h2
  split at h2
  · have e : (m.reply, zeroE) = (m.reply, m.event) := h2.2
    injection e with _ e
    exact ⟨reply_revs h2.1, by rw [← e]; exact ⟨by show (0 : Nat) < _; decide, by show (0 : Nat) < _; decide⟩⟩
  · split at h2
    · have e : (zeroR, m.event) = (m.reply, m.event) := h2.2
      injection e with e _
      exact ⟨by rw [← e]; exact zeroR_revs, event_revs h2.1⟩
    · have e : (m.reply, m.event) = (zeroR, zeroE) := h2
      injection e with e1 e2
      rw [revsM, e1, e2]
      exact ⟨zeroR_revs, by show (0 : Nat) < _; decide, by show (0 : Nat) < _; decide⟩
/-- what Of tells of bytes -/
def ofM (l : List UInt8) : Int := if endE (msgC.rd 0 l).2.1 (msgC.rd 0 l).2.2 ≠ 0 then endE (msgC.rd 0 l).2.1 (msgC.rd 0 l).2.2 else if msgB (msgC.rd 0 l).1 = true then 0 else 4
theorem ofM_back {m : Mg} (h : msgB m = true) (hr : revsM m) : msgC.rd 0 (msgC.put m) = (m, 0, []) ∧ ofM (msgC.put m) = 0 := by
  have h1 := msgC.back m [] (msg_ok h hr)
  rw [List.append_nil] at h1
  refine ⟨h1, ?_⟩
  unfold ofM
  rw [h1]
  show (if endE 0 [] ≠ 0 then endE 0 [] else if msgB m = true then 0 else 4) = 0
  rw [h]
  decide
theorem ofM_right {l : List UInt8} (h : ofM l = 0) : msgB (msgC.rd 0 l).1 = true ∧ l = msgC.put (msgC.rd 0 l).1 ∧ revsM (msgC.rd 0 l).1 := by
  unfold ofM at h
  split at h
  · next h1 => exact absurd h h1
  · next h1 =>
    have h1' : endE (msgC.rd 0 l).2.1 (msgC.rd 0 l).2.2 = 0 := by simpa using h1
    split at h
    · next h2 =>
      have h3 : (msgC.rd 0 l).2.1 = 0 ∧ (msgC.rd 0 l).2.2 = [] := endE_zero h1'
      have h4 := msgC.canon l h3.1
      refine ⟨h2, ?_, msg_revs h4.1⟩
      have h5 := h4.2
      rw [h3.2, List.append_nil] at h5
      exact h5
    · simp at h
theorem msg_some (m : Mg) : msgC.put m ≠ [] := by
  intro h
  have h1 : leb m.kind.toNat ++ uidC.put m.num ++ (bodyC m.kind).put (m.reply, m.event) = [] := h
  have h2 := (List.append_eq_nil_iff.1 (List.append_eq_nil_iff.1 h1).1).1
  have h3 := leb_pos m.kind.toNat
  rw [h2] at h3
  exact absurd h3 (by decide)
end Go.Proofs.YtaegknpijgjioaaGreatDoor.Tl
