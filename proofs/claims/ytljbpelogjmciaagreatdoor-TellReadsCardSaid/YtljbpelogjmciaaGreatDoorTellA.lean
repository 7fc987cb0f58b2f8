/-
 What chapter 9 says, in plain functions: pods, replies, events, messages; which may be, their bytes, how they are read; there and back, just the bytes. No condition. And what follows of it, part by part, each with its conditions.
-/
import Derived.Test.YtljbpelogjmciaaGreatDoorPackAll
import Derived.Test.YtljbpelogjmciaaGreatDoorSpecDataAll
import Derived.Test.YtljbpelogjmciaaGreatDoorSpecSameAll
import Derived.Test.YtljbpelogjmciaaGreatDoorSpecMine
import Derived.Deep.MidRow
set_option maxHeartbeats 4000000
set_option maxRecDepth 100000
set_option linter.unusedVariables false
set_option linter.unusedSimpArgs false
namespace Go.Proofs.YtljbpelogjmciaaGreatDoor.Tl
open WirePure LebMath Sd TextPure Pk SpecOwn SpecRef Book
structure Pd where
 uid : Int
 rev : Nat
 spec : Spc
 phase : Int
 rs : List Int
 mark : Int
 grace : Int
structure Rp where
 code : Int
 uid : Int
 id : Int
 rev : Nat
 data : ByteArray
 pods : List Pd
 use : List (Int × Int × Int)
structure Ev where
 kind : Int
 rev : Nat
 pod : Pd
structure Mg where
 kind : Int
 num : Int
 reply : Rp
 event : Ev
abbrev Z24 : List Value := [.int .i64 0, .int .i64 0, .int .i64 0, .int .i64 0, .int .i64 0, .int .u64 0, .string ⟨#[]⟩, .slice none 0 0, .slice none 0 0, .int .i64 0, .int .u64 0, .int .i64 0, .int .u64 0, .string ⟨#[]⟩, .slice none 0 0, .slice none 0 0, .slice none 0 0, .int .i64 0, .int .i64 0, .int .i64 0, .int .i64 0, .slice none 0 0, .int .i64 0, .int .i64 0]
abbrev X24 (a b c : Int) : List Value := [.int .i64 a, .int .i64 b, .int .i64 c, .int .i64 0, .int .i64 0, .int .u64 0, .string ⟨#[]⟩, .slice none 0 0, .slice none 0 0, .int .i64 0, .int .u64 0, .int .i64 0, .int .u64 0, .string ⟨#[]⟩, .slice none 0 0, .slice none 0 0, .slice none 0 0, .int .i64 0, .int .i64 0, .int .i64 0, .int .i64 0, .slice none 0 0, .int .i64 0, .int .i64 0]
abbrev M24 (m : Mg) (PA : Option Addr) (pc : Nat) (UA : Option Addr) (uc : Nat) (LA : Option Addr) (lc : Nat) (IA : Option Addr) (ic : Nat) (MA : Option Addr) (mc : Nat) (RA : Option Addr) (rc : Nat) : List Value := [.int .i64 m.kind, .int .i64 m.num, .int .i64 m.reply.code, .int .i64 m.reply.uid, .int .i64 m.reply.id, .int .u64 m.reply.rev, .string m.reply.data, .slice PA m.reply.pods.length pc, .slice UA m.reply.use.length uc, .int .i64 m.event.kind, .int .u64 m.event.rev, .int .i64 m.event.pod.uid, .int .u64 m.event.pod.rev, .string m.event.pod.spec.name, .slice LA m.event.pod.spec.labels.length lc, .slice IA m.event.pod.spec.init.length ic, .slice MA m.event.pod.spec.main.length mc, .int .i64 m.event.pod.spec.restart, .int .i64 m.event.pod.spec.grace, .int .i64 m.event.pod.spec.prio, .int .i64 m.event.pod.phase, .slice RA m.event.pod.rs.length rc, .int .i64 m.event.pod.mark, .int .i64 m.event.pod.grace]
abbrev E24 (b : Int) (e : Ev) (LA : Option Addr) (lc : Nat) (IA : Option Addr) (ic : Nat) (MA : Option Addr) (mc : Nat) (RA : Option Addr) (rc : Nat) : List Value := [.int .i64 2, .int .i64 b, .int .i64 0, .int .i64 0, .int .i64 0, .int .u64 0, .string ⟨#[]⟩, .slice none 0 0, .slice none 0 0, .int .i64 e.kind, .int .u64 e.rev, .int .i64 e.pod.uid, .int .u64 e.pod.rev, .string e.pod.spec.name, .slice LA e.pod.spec.labels.length lc, .slice IA e.pod.spec.init.length ic, .slice MA e.pod.spec.main.length mc, .int .i64 e.pod.spec.restart, .int .i64 e.pod.spec.grace, .int .i64 e.pod.spec.prio, .int .i64 e.pod.phase, .slice RA e.pod.rs.length rc, .int .i64 e.pod.mark, .int .i64 e.pod.grace]
abbrev R24 (b : Int) (r : Rp) (PA : Option Addr) (pc : Nat) (UA : Option Addr) (uc : Nat) : List Value := [.int .i64 1, .int .i64 b, .int .i64 r.code, .int .i64 r.uid, .int .i64 r.id, .int .u64 r.rev, .string r.data, .slice PA r.pods.length pc, .slice UA r.use.length uc, .int .i64 0, .int .u64 0, .int .i64 0, .int .u64 0, .string ⟨#[]⟩, .slice none 0 0, .slice none 0 0, .slice none 0 0, .int .i64 0, .int .i64 0, .int .i64 0, .int .i64 0, .slice none 0 0, .int .i64 0, .int .i64 0]
abbrev V15 (e : Ev) (LA : Option Addr) (lc : Nat) (IA : Option Addr) (ic : Nat) (MA : Option Addr) (mc : Nat) (RA : Option Addr) (rc : Nat) : List Value := [.int .i64 e.kind, .int .u64 e.rev, .int .i64 e.pod.uid, .int .u64 e.pod.rev, .string e.pod.spec.name, .slice LA e.pod.spec.labels.length lc, .slice IA e.pod.spec.init.length ic, .slice MA e.pod.spec.main.length mc, .int .i64 e.pod.spec.restart, .int .i64 e.pod.spec.grace, .int .i64 e.pod.spec.prio, .int .i64 e.pod.phase, .slice RA e.pod.rs.length rc, .int .i64 e.pod.mark, .int .i64 e.pod.grace]
abbrev W15 (a : Int) (b : Nat) (p : Pd) (LA : Option Addr) (lc : Nat) (IA : Option Addr) (ic : Nat) (MA : Option Addr) (mc : Nat) (RA : Option Addr) (rc : Nat) : List Value := [.int .i64 a, .int .u64 b, .int .i64 p.uid, .int .u64 p.rev, .string p.spec.name, .slice LA p.spec.labels.length lc, .slice IA p.spec.init.length ic, .slice MA p.spec.main.length mc, .int .i64 p.spec.restart, .int .i64 p.spec.grace, .int .i64 p.spec.prio, .int .i64 p.phase, .slice RA p.rs.length rc, .int .i64 p.mark, .int .i64 p.grace]
abbrev X15 (a : Int) (b : Nat) : List Value := [.int .i64 a, .int .u64 b, .int .i64 0, .int .u64 0, .string ⟨#[]⟩, .slice none 0 0, .slice none 0 0, .slice none 0 0, .int .i64 0, .int .i64 0, .int .i64 0, .int .i64 0, .slice none 0 0, .int .i64 0, .int .i64 0]
abbrev P13 (p : Pd) (LA : Option Addr) (lc : Nat) (IA : Option Addr) (ic : Nat) (MA : Option Addr) (mc : Nat) (RA : Option Addr) (rc : Nat) : List Value := [.int .i64 p.uid, .int .u64 p.rev, .string p.spec.name, .slice LA p.spec.labels.length lc, .slice IA p.spec.init.length ic, .slice MA p.spec.main.length mc, .int .i64 p.spec.restart, .int .i64 p.spec.grace, .int .i64 p.spec.prio, .int .i64 p.phase, .slice RA p.rs.length rc, .int .i64 p.mark, .int .i64 p.grace]
abbrev Z13 : List Value := [.int .i64 0, .int .u64 0, .string ⟨#[]⟩, .slice none 0 0, .slice none 0 0, .slice none 0 0, .int .i64 0, .int .i64 0, .int .i64 0, .int .i64 0, .slice none 0 0, .int .i64 0, .int .i64 0]
abbrev Y7 (r : Rp) (PA : Option Addr) (pc : Nat) (UA : Option Addr) (uc : Nat) : List Value := [.int .i64 r.code, .int .i64 r.uid, .int .i64 r.id, .int .u64 r.rev, .string r.data, .slice PA r.pods.length pc, .slice UA r.use.length uc]
def zeroS : Spc := ⟨⟨#[]⟩, [], [], [], 0, 0, 0⟩
def zeroP : Pd := ⟨0, 0, zeroS, 0, [], 0, 0⟩
def zeroR : Rp := ⟨0, 0, 0, 0, ⟨#[]⟩, [], []⟩
def zeroE : Ev := ⟨0, 0, zeroP⟩
def zeroM : Mg := ⟨0, 0, zeroR, zeroE⟩
def inB (n a b : Int) : Bool := decide (a ≤ n) && decide (n ≤ b)
def restB (n : Int) : Bool := inB n 0 1073741824
def useB (u : Int × Int × Int) : Bool := inB u.1 0 1099511627776 && inB u.2.1 0 1099511627776 && inB u.2.2 0 1099511627776
def podB (p : Pd) : Bool := inB p.uid 1 1073741824 && decide ((checkV p.spec).1 = 0) && inB p.phase 1 4 && decide (p.rs.length = p.spec.main.length) && p.rs.all restB && inB p.mark 0 2 && inB p.grace 0 1000
def noPodB (p : Pd) : Bool := p.uid == 0 && p.rev == 0 && sameS p.spec zeroS && p.phase == 0 && decide (p.rs.length = 0) && p.mark == 0 && p.grace == 0
def noReplyB (y : Rp) : Bool := y.code == 0 && y.uid == 0 && y.id == 0 && y.rev == 0 && decide (y.data = ⟨#[]⟩) && decide (y.pods.length = 0) && decide (y.use.length = 0)
def noEventB (e : Ev) : Bool := e.kind == 0 && e.rev == 0 && noPodB e.pod
def replyB (y : Rp) : Bool := inB y.code 0 999 && inB y.uid 0 1073741824 && inB y.id 0 1073741824 && decide (y.data.size ≤ 32) && decide (y.pods.length ≤ 16) && y.pods.all podB && decide (y.use.length ≤ 4) && y.use.all useB
def hasB (k : Int) : Bool := inB k 1 3
def noneB (k : Int) : Bool := inB k 4 5
def eventB (e : Ev) : Bool := hasB e.kind && podB e.pod || noneB e.kind && noPodB e.pod
def msgB (m : Mg) : Bool := inB m.num 1 1073741824 && (if m.kind = 1 then noEventB m.event && replyB m.reply else if m.kind = 2 then noReplyB m.reply && eventB m.event else false)
theorem inB_iff {n a b : Int} : inB n a b = true ↔ a ≤ n ∧ n ≤ b := by unfold inB; simp
theorem noPod_iff (p : Pd) : noPodB p = true ↔ p = zeroP := by
 unfold noPodB
 simp only [Bool.and_eq_true, beq_iff_eq, sameS_iff, decide_eq_true_eq, List.length_eq_zero_iff]
 constructor
 · rintro ⟨⟨⟨⟨⟨⟨h0, h1⟩, h2⟩, h3⟩, h4⟩, h5⟩, h6⟩
   obtain ⟨a0, a1, a2, a3, a4, a5, a6⟩ := p
   simp only at h0 h1 h2 h3 h4 h5 h6
   subst h0 h1 h2 h3 h4 h5 h6
   rfl
 · rintro rfl
   exact ⟨⟨⟨⟨⟨⟨rfl, rfl⟩, rfl⟩, rfl⟩, rfl⟩, rfl⟩, rfl⟩
theorem noEvent_iff (e : Ev) : noEventB e = true ↔ e = zeroE := by
 unfold noEventB
 simp only [Bool.and_eq_true, beq_iff_eq, noPod_iff]
 constructor
 · rintro ⟨⟨h0, h1⟩, h2⟩
   obtain ⟨a0, a1, a2⟩ := e
   simp only at h0 h1 h2
   subst h0 h1 h2
   rfl
 · rintro rfl
   exact ⟨⟨rfl, rfl⟩, rfl⟩
theorem noReply_iff (y : Rp) : noReplyB y = true ↔ y = zeroR := by
 unfold noReplyB
 simp only [Bool.and_eq_true, beq_iff_eq, decide_eq_true_eq, List.length_eq_zero_iff]
 constructor
 · rintro ⟨⟨⟨⟨⟨⟨h0, h1⟩, h2⟩, h3⟩, h4⟩, h5⟩, h6⟩
   obtain ⟨a0, a1, a2, a3, a4, a5, a6⟩ := y
   simp only at h0 h1 h2 h3 h4 h5 h6
   subst h0 h1 h2 h3 h4 h5 h6
   rfl
 · rintro rfl
   exact ⟨⟨⟨⟨⟨⟨rfl, rfl⟩, rfl⟩, rfl⟩, rfl⟩, rfl⟩, rfl⟩
def depR {α β : Type} (f : Rdr α) (g : α → Rdr β) : Rdr (α × β) := fun c l => (((f c l).1, (g (f c l).1 (f c l).2.1 (f c l).2.2).1), (g (f c l).1 (f c l).2.1 (f c l).2.2).2)
theorem dep_zero {α β : Type} {f : Rdr α} {g : α → Rdr β} (hg : ∀ x c l, c ≠ 0 → (g x c l).2 = (c, l)) {c : Int} {l : List UInt8} (h : ((depR f g) c l).2.1 = 0) : (f c l).2.1 = 0 := by
 by_cases h0 : (f c l).2.1 = 0
 · exact h0
 · have := hg (f c l).1 (f c l).2.1 (f c l).2.2 h0
   unfold depR at h
   rw [this] at h
   exact absurd h h0
def depC {α β : Type} (A : Codec α) (B : α → Codec β) : Codec (α × β) where
 rd := depR A.rd (fun x => (B x).rd)
 put := fun x => A.put x.1 ++ (B x.1).put x.2
 ok := fun x => A.ok x.1 ∧ (B x.1).ok x.2
 keeps := fun c l h => by
  have h1 := A.keeps c l h
  show ((B (A.rd c l).1).rd (A.rd c l).2.1 (A.rd c l).2.2).2 = _
  rw [h1]
  exact (B _).keeps c l h
 len := fun c l => Nat.le_trans ((B _).len _ _) (A.len c l)
 canon := fun l h => by
  have h0 := dep_zero (fun x => (B x).keeps) h
  have h1 := A.canon l h0
  have h2 : ((B (A.rd 0 l).1).rd (A.rd 0 l).2.1 (A.rd 0 l).2.2).2.1 = 0 := h
  rw [h0] at h2
  have h3 := (B _).canon _ h2
  refine ⟨⟨h1.1, ?_⟩, ?_⟩
  · show (B (A.rd 0 l).1).ok ((B (A.rd 0 l).1).rd (A.rd 0 l).2.1 (A.rd 0 l).2.2).1
    rw [h0]; exact h3.1
  · show l = (A.put (A.rd 0 l).1 ++ (B (A.rd 0 l).1).put ((B (A.rd 0 l).1).rd (A.rd 0 l).2.1 (A.rd 0 l).2.2).1) ++ ((B (A.rd 0 l).1).rd (A.rd 0 l).2.1 (A.rd 0 l).2.2).2.2
    rw [h0, List.append_assoc, ← h3.2]; exact h1.2
 back := fun x r h => by
  have h1 := A.back x.1 ((B x.1).put x.2 ++ r) h.1
  have h2 := (B x.1).back x.2 r h.2
  show depR A.rd (fun x => (B x).rd) 0 (A.put x.1 ++ (B x.1).put x.2 ++ r) = _
  rw [List.append_assoc]
  unfold depR
  rw [h1]
  show ((x.1, ((B x.1).rd 0 ((B x.1).put x.2 ++ r)).1), ((B x.1).rd 0 ((B x.1).put x.2 ++ r)).2) = _
  rw [h2]
 cut := fun x p q h hq e => by
  rcases List.append_eq_append_iff.1 e with ⟨a, h1, h2⟩ | ⟨a, h1, h2⟩
  · have e1 := A.back x.1 a h.1
    show ((B (A.rd 0 p).1).rd (A.rd 0 p).2.1 (A.rd 0 p).2.2).2.1 = 40
    rw [h1, e1]
    exact (B x.1).cut x.2 a q h.2 hq h2
  · show ((B (A.rd 0 p).1).rd (A.rd 0 p).2.1 (A.rd 0 p).2.2).2.1 = 40
    by_cases ha : a = []
    · subst ha
      have hp : p = A.put x.1 := by simpa using h1.symm
      have e1 := A.back x.1 [] h.1
      rw [List.append_nil] at e1
      rw [hp, e1]
      exact (B x.1).cut x.2 [] ((B x.1).put x.2) h.2 (by simp at h2; rw [← h2]; exact hq) (by simp)
    · have h3 := A.cut x.1 p a h.1 ha h1
      have h4 := (B (A.rd 0 p).1).keeps (A.rd 0 p).2.1 (A.rd 0 p).2.2 (by rw [h3]; decide)
      rw [h4]
      exact h3
 okay := fun c l => ⟨A.okay c l, (B _).okay _ _⟩
def unitC {α : Type} (z : α) : Codec α where
 rd := fun c l => (z, c, l)
 put := fun _ => []
 ok := fun x => x = z
 keeps := fun c l h => rfl
 len := fun c l => Nat.le_refl _
 canon := fun l h => ⟨rfl, rfl⟩
 back := fun x r h => by subst h; rfl
 cut := fun x p q h hq e => by
  have := (List.append_eq_nil_iff.1 e.symm).2
  exact absurd this hq
 okay := fun c l => rfl
def vecC {α : Type} (k : Nat) (C : Codec α) : Codec (List α) where
 rd := fun c l => (repX C.rd c l k, repS C.rd c l k)
 put := fun xs => xs.flatMap C.put
 ok := fun xs => xs.length = k ∧ ∀ x ∈ xs, C.ok x
 keeps := fun c l h => repS_err C h l k
 len := fun c l => repS_len C c l k
 canon := fun l h => by
  obtain ⟨h1, h2⟩ := rep_canon C k h
  exact ⟨⟨repX_len _ _ _ _, h1⟩, h2⟩
 back := fun xs r h => by
  obtain ⟨h1, h2⟩ := rep_back C r xs h.2 k (by omega)
  show (repX C.rd 0 (xs.flatMap C.put ++ r) k, repS C.rd 0 (xs.flatMap C.put ++ r) k) = _
  rw [h1, h2, ← h.1]
  simp
 cut := fun xs p q h hq e => rep_cut C xs p q h.2 hq e k h.1.symm
 okay := fun c l => ⟨repX_len _ _ _ _, repX_ok C c l k⟩
def rowR {α : Type} (m : Nat) (f : Rdr α) : Rdr (List α) := fun c l =>
 (repX f (numE m c l) (numL m c l) (numV m c l), repS f (numE m c l) (numL m c l) (numV m c l))
def rowC {α : Type} (m : Nat) (hm : m < 18446744073709551616) (C : Codec α) : Codec (List α) where
 rd := rowR m C.rd
 put := listP C.put
 ok := fun xs => xs.length ≤ m ∧ ∀ x ∈ xs, C.ok x
 keeps := fun c l h => (listC m hm C).keeps c l h
 len := fun c l => (listC m hm C).len c l
 canon := fun l h => by
  have h1 := (listC m hm C).canon l h
  have h2 : (listR m C.rd 0 l).1 = (rowR m C.rd 0 l).1 := by
   show (if _ then _ else _) = _
   rw [if_pos (show (repS C.rd (numE m 0 l) (numL m 0 l) (numV m 0 l)).1 = 0 from h)]
   rfl
  rw [← h2]
  exact h1
 back := fun xs r h => by
  have h1 := (listC m hm C).back xs r h
  have h3 : (listR m C.rd 0 (listP C.put xs ++ r)) = (xs, 0, r) := h1
  have h4 : (repS C.rd (numE m 0 (listP C.put xs ++ r)) (numL m 0 (listP C.put xs ++ r)) (numV m 0 (listP C.put xs ++ r))).1 = 0 := by
   have := congrArg (fun t => t.2.1) h3
   exact this
  have h2 : (listR m C.rd 0 (listP C.put xs ++ r)).1 = (rowR m C.rd 0 (listP C.put xs ++ r)).1 := by
   show (if _ then _ else _) = _
   rw [if_pos h4]
   rfl
  show ((rowR m C.rd 0 (listP C.put xs ++ r)).1, (listR m C.rd 0 (listP C.put xs ++ r)).2) = _
  rw [← h2, h3]
 cut := fun xs p q h hq e => (listC m hm C).cut xs p q h hq e
 okay := fun c l => ⟨by show (repX _ _ _ _).length ≤ m; rw [repX_len]; exact numV_le m c l, repX_ok C _ _ _⟩
def uidC : Codec Int := intC 1073741824 (by decide)
def revC : Codec Nat := numC 18446744073709551615 (by decide)
def phaseC : Codec Int := intC 4 (by decide)
def markC : Codec Int := intC 2 (by decide)
def graceC : Codec Int := intC 1000 (by decide)
def codeC : Codec Int := intC 999 (by decide)
def dataC : Codec ByteArray := textC 32 (by decide)
def podC : Codec Pd := mapC (depC (pairC uidC (pairC revC (pairC specC phaseC))) (fun t => pairC (vecC t.2.2.1.main.length uidC) (pairC markC graceC)))
 (fun x => ⟨x.1.1, x.1.2.1, x.1.2.2.1, x.1.2.2.2, x.2.1, x.2.2.1, x.2.2.2⟩) (fun y => ((y.uid, y.rev, y.spec, y.phase), (y.rs, y.mark, y.grace))) (fun _ => rfl)
def podsC : Codec (List Pd) := rowC 16 (by decide) podC
def usesC : Codec (List (Int × Int × Int)) := rowC 4 (by decide) resC
def replyC : Codec Rp := mapC (pairC codeC (pairC uidC (pairC uidC (pairC revC (pairC dataC (pairC podsC usesC))))))
 (fun x => ⟨x.1, x.2.1, x.2.2.1, x.2.2.2.1, x.2.2.2.2.1, x.2.2.2.2.2.1, x.2.2.2.2.2.2⟩) (fun y => (y.code, y.uid, y.id, y.rev, y.data, y.pods, y.use)) (fun _ => rfl)
def podIfC (k : Int) : Codec Pd := if hasB k = true then podC else unitC zeroP
def ekindC : Codec Int := intC 5 (by decide)
def eventC : Codec Ev := mapC (depC (pairC ekindC revC) (fun t => podIfC t.1)) (fun x => ⟨x.1.1, x.1.2, x.2⟩) (fun y => ((y.kind, y.rev), y.pod)) (fun _ => rfl)
def bodyC (k : Int) : Codec (Rp × Ev) :=
 if k = 1 then mapC replyC (fun r => (r, zeroE)) (fun x => x.1) (fun _ => rfl) else if k = 2 then mapC eventC (fun e => (zeroR, e)) (fun x => x.2) (fun _ => rfl) else unitC (zeroR, zeroE)
def mkindC : Codec Int := intC 2 (by decide)
def msgC : Codec Mg := mapC (depC (pairC mkindC uidC) (fun t => bodyC t.1)) (fun x => ⟨x.1.1, x.1.2, x.2.1, x.2.2⟩) (fun y => ((y.kind, y.num), (y.reply, y.event))) (fun _ => rfl)
def revsR (y : Rp) : Prop := y.rev < 18446744073709551616 ∧ ∀ p ∈ y.pods, p.rev < 18446744073709551616
def revsM (m : Mg) : Prop := revsR m.reply ∧ m.event.rev < 18446744073709551616 ∧ m.event.pod.rev < 18446744073709551616
theorem int_in {m : Nat} {hm : m < 18446744073709551616} {z a : Int} {b : Int} (h : inB z a b = true) (ha : 0 ≤ a) (hb : b = (m : Int)) : (intC m hm).ok z := by
 have := inB_iff.1 h
 exact int_ok (by omega) (by omega)
theorem pod_ok {p : Pd} (h : podB p = true) (hr : p.rev < 18446744073709551616) : podC.ok p := by
 unfold podB at h
 simp only [Bool.and_eq_true, decide_eq_true_eq, List.all_eq_true] at h
 obtain ⟨⟨⟨⟨⟨⟨h0, h1⟩, h2⟩, h3⟩, h4⟩, h5⟩, h6⟩ := h
 exact ⟨⟨⟨int_in h0 (by decide) rfl, (by show p.rev ≤ 18446744073709551615; omega), spec_ok h1, int_in h2 (by decide) rfl⟩, ⟨h3, fun x hx => int_in (h4 x hx) (by decide) rfl⟩, int_in h5 (by decide) rfl, int_in h6 (by decide) rfl⟩, rfl⟩
theorem use_ok {u : Int × Int × Int} (h : useB u = true) : resC.ok u := by
 unfold useB at h
 simp only [Bool.and_eq_true] at h
 exact ⟨int_in h.1.1 (by decide) rfl, int_in h.1.2 (by decide) rfl, int_in h.2 (by decide) rfl⟩
theorem reply_ok {y : Rp} (h : replyB y = true) (hr : revsR y) : replyC.ok y := by
 unfold replyB at h
 simp only [Bool.and_eq_true, decide_eq_true_eq, List.all_eq_true] at h
 obtain ⟨⟨⟨⟨⟨⟨⟨h0, h1⟩, h2⟩, h3⟩, h4⟩, h5⟩, h6⟩, h7⟩ := h
 exact ⟨⟨int_in h0 (by decide) rfl, int_in h1 (by decide) rfl, int_in h2 (by decide) rfl, (by show y.rev ≤ 18446744073709551615; have := hr.1; omega), h3, ⟨h4, fun p hp => pod_ok (h5 p hp) (hr.2 p hp)⟩, ⟨h6, fun u hu => use_ok (h7 u hu)⟩⟩, rfl⟩
theorem event_ok {e : Ev} (h : eventB e = true) (h1 : e.rev < 18446744073709551616) (h2 : e.pod.rev < 18446744073709551616) : eventC.ok e := by
 unfold eventB at h
 rw [Bool.or_eq_true, Bool.and_eq_true, Bool.and_eq_true] at h
 refine ⟨⟨⟨?_, (by show e.rev ≤ 18446744073709551615; omega)⟩, ?_⟩, rfl⟩
 · rcases h with h | h
   · have := inB_iff.1 h.1
     exact int_ok (z := e.kind) (by omega) (by omega)
   · have := inB_iff.1 h.1
     exact int_ok (z := e.kind) (by omega) (by omega)
 · show (podIfC e.kind).ok e.pod
   unfold podIfC
   rcases h with h | h
   · rw [if_pos h.1]
     exact pod_ok h.2 h2
   · have := inB_iff.1 h.1
     rw [if_neg (by intro h9; have := inB_iff.1 h9; omega)]
     exact (noPod_iff _).1 h.2
theorem msg_ok {m : Mg} (h : msgB m = true) (hr : revsM m) : msgC.ok m := by
 unfold msgB at h
 rw [Bool.and_eq_true] at h
 obtain ⟨h0, h⟩ := h
 refine ⟨⟨⟨?_, int_in h0 (by decide) rfl⟩, ?_⟩, rfl⟩
 · show (intC 2 (by decide)).ok m.kind
   split at h
   · next e => rw [e]; exact int_ok (by decide) (by decide)
   · split at h
     · next e => rw [e]; exact int_ok (by decide) (by decide)
     · simp at h
 · show (bodyC m.kind).ok (m.reply, m.event)
   unfold bodyC
   split at h
   · next e =>
     rw [if_pos e]
     rw [Bool.and_eq_true] at h
     have he := (noEvent_iff _).1 h.1
     exact ⟨reply_ok h.2 hr.1, by show (m.reply, zeroE) = (m.reply, m.event); rw [he]⟩
   · split at h
     · next e1 e =>
       rw [if_neg e1, if_pos e]
       rw [Bool.and_eq_true] at h
       have he := (noReply_iff _).1 h.1
       exact ⟨event_ok h.2 hr.2.1 hr.2.2, by show (zeroR, m.event) = (m.reply, m.event); rw [he]⟩
     · simp at h
def ofM (l : List UInt8) : Int := if endE (msgC.rd 0 l).2.1 (msgC.rd 0 l).2.2 ≠ 0 then endE (msgC.rd 0 l).2.1 (msgC.rd 0 l).2.2 else if msgB (msgC.rd 0 l).1 = true then 0 else 4
theorem ofM_back {m : Mg} (h : msgB m = true) (hr : revsM m) : msgC.rd 0 (msgC.put m) = (m, 0, []) ∧ ofM (msgC.put m) = 0 := by
 have h1 := msgC.back m [] (msg_ok h hr)
 rw [List.append_nil] at h1
 refine ⟨h1, ?_⟩
 unfold ofM
 rw [h1]
 show (if endE 0 [] ≠ 0 then endE 0 [] else if msgB m = true then 0 else 4) = 0
 rw [h]
 decide
end Go.Proofs.YtljbpelogjmciaaGreatDoor.Tl
namespace Go.Proofs.YtljbpelogjmciaaGreatDoor
open Go.ChangeShapes Go.WideShapes Go.ChangeAt Go.RowKit Go.Lib
open Sd Lists Pk
namespace Tl
theorem box_cell {w : World} {g : Nat} {A : Array Value} {t : TypeId} (h : w.heap[g]? = some (.cells A t (0, 0))) (k : Nat) {v : Value} (hv : A[k]? = some v) : w.cell? ⟨g, k, none⟩ = some v := by
 simp [World.cell?, h, hv]
theorem box_free {w : World} {g : Nat} {A : Array Value} {t : TypeId} (h : w.heap[g]? = some (.cells A t (0, 0))) (k : Nat) : w.frozen? ⟨g, k, none⟩ = false := by
 simp [World.frozen?, h]
theorem box_set {w : World} {g : Nat} {A : Array Value} {t : TypeId} (h : w.heap[g]? = some (.cells A t (0, 0))) (k : Nat) (v : Value) {B : Array Value} (hB : A.setIfInBounds k v = B) : (w.setCell ⟨g, k, none⟩ v).heap[g]? = some (.cells B t (0, 0)) := by
 rw [← hB]; exact heap_setCell_same w g k _ _ v h
theorem range_at {w : World} {b : Nat} {A : Array Value} {t : TypeId} (h : w.heap[b]? = some (.cells A t (0, 0))) (o : Nat) (cs : List Value) (hcs : (A.toList.drop o).take cs.length = cs) : w.rangeAt b o cs :=
 fun j v hv => box_cell h (o + j) (by
  have hj : j < cs.length := (List.getElem?_eq_some_iff.1 hv).1
  rw [← hcs, List.getElem?_take_of_lt hj, List.getElem?_drop] at hv
  simpa using hv)
theorem text_nil {z : ByteArray} (h : z.size = 0) : z.toList = [] := by
 rw [ByteArray.toList_eq]
 exact List.length_eq_zero_iff.1 (by rw [Array.length_toList]; exact h)
theorem text_some {z : ByteArray} (h : z.size ≠ 0) : z.toList.isEmpty = false := by
 rw [ByteArray.toList_eq]
 cases e : z.data.toList with
 | nil =>
  have := congrArg List.length e
  rw [Array.length_toList] at this
  exact absurd this h
 | cons x xs => rfl
def CellsAt (w : World) (a : Addr) : List Value → Prop
 | [] => True
 | v :: vs => w.cell? a = some v ∧ ∀ (i : Nat) (x : Value), vs[i]? = some x → w.cell? ⟨a.block, a.off + (i + 1), none⟩ = some x
theorem CellsAt.keep {w w' : World} {a : Addr} {vs : List Value} (h : CellsAt w a vs) (hb : w'.heap[a.block]? = w.heap[a.block]?) : CellsAt w' a vs := by
 have e : ∀ p : Addr, p.block = a.block → w'.cell? p = w.cell? p := fun p hp => World.cell?_of_block (by rw [hp]; exact hb)
 cases vs with
 | nil => trivial
 | cons v vs => exact ⟨(e a rfl).trans h.1, fun i x hx => (e ⟨a.block, a.off + (i + 1), none⟩ rfl).trans (h.2 i x hx)⟩
theorem CellsAt.all {w : World} {p : Addr} : ∀ {vs : List Value}, CellsAt w p vs → ∀ j v, vs[j]? = some v → w.cell? (p.add j) = some v
 | [], _, j, v, hv => by simp at hv
 | x :: vs, h, 0, v, hv => by
  have e : p.add 0 = p := by unfold Addr.add; simp
  rw [e]
  simp at hv
  rw [← hv]
  exact h.1
 | x :: vs, h, j + 1, v, hv => by
  have e : p.add (j + 1) = ⟨p.block, p.off + (j + 1), none⟩ := by unfold Addr.add; rw [if_neg (by omega)]
  rw [e]
  exact h.2 j v (by simpa using hv)
theorem run_load_addr {P : Program} (w : World) (p : Addr) (ty : TypeId) (cs : List Value) (d : TypeDesc) (hc : ∀ j v, cs[j]? = some v → w.cell? (p.add j) = some v)
 (hu : P.underlying ty = some d) (hd : d.isRow = true) (hi : (P.info? ty).map (·.size) = some cs.length) : (loadVar ty p).run P w = .ok (.agg cs.toArray) w := by
 have hl : (loadCells p cs.length).run P w = .ok cs.toArray w := run_loadCells_list (P := P) w p cs hc
 cases hq : P.info? ty with
 | none => simp [hq] at hi
 | some i =>
  have hs : i.size = cs.length := by simpa [hq] using hi
  have hagg : (isAgg ty).run P w = .ok true w := by
   unfold isAgg
   rw [Sem.run_bind, run_underlying hu w]
   cases d <;> simp_all
  simp [loadVar, Sem.run_bind, hagg, sizeOf, typeInfo, hq, hs, hl]
theorem wpList_load_addr {P : Program} {ops : Array Oper} {rest : List Oper} {op : Oper} {a : Act} {w : World} {Q : Exit → Act → World → Prop} (hgd : op.guard = none) (ty : TypeId) (x : Operand) (ho : op.op = .load ty x)
 (p : Addr) (hx : a.eval x = .pointer (some p)) (cs : List Value) (d : TypeDesc) (hc : ∀ j v, cs[j]? = some v → w.cell? (p.add j) = some v)
 (hu : P.underlying ty = some d) (hd : d.isRow = true) (hi : (P.info? ty).map (·.size) = some cs.length)
 (h : wpList P ops Q rest (a.put op.dst (.agg cs.toArray)) w) : wpList P ops Q (op :: rest) a w :=
 wpList_plain hgd fun _ hK => by
  unfold Oper.wp execOp
  simp only [ho, hx, Instr.loadAt, Instr.sureAddr, Sem.run_bind, Sem.run_pure, Result.andThen_ok, run_load_addr w p ty cs d hc hu hd hi]
  exact hK _ _ h
def Pd.vals (p : Pd) (LA : Option Addr) (lc : Nat) (IA : Option Addr) (ic : Nat) (MA : Option Addr) (mc : Nat) (RA : Option Addr) (rc : Nat) : List Value :=
 (P13 p LA lc IA ic MA mc RA rc)
structure Pd.In (p : Pd) (w : World) (LA : Option Addr) (lc : Nat) (IA : Option Addr) (ic : Nat) (MA : Option Addr) (mc : Nat) (RA : Option Addr) : Prop where
 spec : p.spec.In w LA lc IA ic MA mc
 rs : Nums .i64 w RA p.rs
 nr : p.rs.length ≤ 9223372036854775807
 rev : p.rev < 18446744073709551616
theorem Pd.In.below {p : Pd} {w w' : World} {LA : Option Addr} {lc : Nat} {IA : Option Addr} {ic : Nat} {MA : Option Addr} {mc : Nat} {RA : Option Addr} (h : p.In w LA lc IA ic MA mc RA) (hb : Below w.heap.size w w') : p.In w' LA lc IA ic MA mc RA :=
 ⟨h.spec.below hb, Sd.Nums.below h.rs hb, h.nr, h.rev⟩
def Pds (w : World) (A : Option Addr) (l : List Pd) : Prop := ∀ (k : Nat) (p : Pd), l[k]? = some p → ∃ a LA lc IA ic MA mc RA rc, A = some a ∧ a.block < w.heap.size ∧ CellsAt w (a.add (k * 13)) (p.vals LA lc IA ic MA mc RA rc) ∧ p.In w LA lc IA ic MA mc RA
theorem Pds.below {w w' : World} {A : Option Addr} {l : List Pd} (h : Pds w A l) (hb : Below w.heap.size w w') : Pds w' A l := by
 intro k x hk
 obtain ⟨a, LA, lc, IA, ic, MA, mc, RA, rc, hA, ha, hc, hi⟩ := h k x hk
 exact ⟨a, LA, lc, IA, ic, MA, mc, RA, rc, hA, Nat.lt_of_lt_of_le ha hb.size, hc.keep (by rw [add_block]; exact hb.block _ ha), hi.below hb⟩
theorem Pds.at {w : World} {A : Option Addr} {l : List Pd} (h : Pds w A l) {k : Nat} (hk : k < l.length) : ∃ a LA lc IA ic MA mc RA rc, A = some a ∧ a.block < w.heap.size ∧ CellsAt w (a.add (k * 13)) (l[k].vals LA lc IA ic MA mc RA rc) ∧ l[k].In w LA lc IA ic MA mc RA := h k _ (List.getElem?_eq_getElem hk)
def useVals (u : Int × Int × Int) : List Value := [.int .i64 u.1, .int .i64 u.2.1, .int .i64 u.2.2]
def Uses (w : World) (A : Option Addr) (l : List (Int × Int × Int)) : Prop := ∀ (k : Nat) (u : Int × Int × Int), l[k]? = some u → ∃ a, A = some a ∧ a.block < w.heap.size ∧ CellsAt w (a.add (k * 3)) (useVals u)
theorem Uses.below {w w' : World} {A : Option Addr} {l : List (Int × Int × Int)} (h : Uses w A l) (hb : Below w.heap.size w w') : Uses w' A l := by
 intro k x hk
 obtain ⟨a, hA, ha, hc⟩ := h k x hk
 exact ⟨a, hA, Nat.lt_of_lt_of_le ha hb.size, hc.keep (by rw [add_block]; exact hb.block _ ha)⟩
theorem Uses.at {w : World} {A : Option Addr} {l : List (Int × Int × Int)} (h : Uses w A l) {k : Nat} (hk : k < l.length) : ∃ a, A = some a ∧ a.block < w.heap.size ∧ CellsAt w (a.add (k * 3)) (useVals l[k]) := h k _ (List.getElem?_eq_getElem hk)
structure Rp.In (y : Rp) (w : World) (PA : Option Addr) (UA : Option Addr) : Prop where
 pods : Pds w PA y.pods
 use : Uses w UA y.use
 np : y.pods.length ≤ 9223372036854775807
 nu : y.use.length ≤ 9223372036854775807
 rev : y.rev < 18446744073709551616
theorem Rp.In.below {y : Rp} {w w' : World} {PA UA : Option Addr} (h : y.In w PA UA) (hb : Below w.heap.size w w') : y.In w' PA UA := ⟨h.pods.below hb, h.use.below hb, h.np, h.nu, h.rev⟩
structure Mg.In (m : Mg) (w : World) (PA UA : Option Addr) (LA : Option Addr) (lc : Nat) (IA : Option Addr) (ic : Nat) (MA : Option Addr) (mc : Nat) (RA : Option Addr) : Prop where
 reply : m.reply.In w PA UA
 pod : m.event.pod.In w LA lc IA ic MA mc RA
 rev : m.event.rev < 18446744073709551616
theorem Mg.In.below {m : Mg} {w w' : World} {PA UA : Option Addr} {LA : Option Addr} {lc : Nat} {IA : Option Addr} {ic : Nat} {MA : Option Addr} {mc : Nat} {RA : Option Addr} (h : m.In w PA UA LA lc IA ic MA mc RA) (hb : Below w.heap.size w w') : m.In w' PA UA LA lc IA ic MA mc RA :=
 ⟨h.reply.below hb, h.pod.below hb, h.rev⟩
theorem Mg.In.revs {m : Mg} {w : World} {PA UA : Option Addr} {LA : Option Addr} {lc : Nat} {IA : Option Addr} {ic : Nat} {MA : Option Addr} {mc : Nat} {RA : Option Addr} (h : m.In w PA UA LA lc IA ic MA mc RA) : revsM m := by
 refine ⟨⟨h.reply.rev, fun p hp => ?_⟩, h.rev, h.pod.rev⟩
 obtain ⟨k, hk⟩ := List.getElem?_of_mem hp
 obtain ⟨a, LA, lc, IA, ic, MA, mc, RA, rc, hA, ha, hc, hi⟩ := h.reply.pods k p hk
 exact hi.rev
end Tl
end Go.Proofs.YtljbpelogjmciaaGreatDoor
namespace Go.Proofs.YtljbpelogjmciaaGreatDoor
open Go.ChangeShapes Go.WideShapes Go.ChangeAt Go.RowKit Go.Lib
open LebMath WirePure Sd Wire SpecOwn SpecRef Book Pk
namespace Tl
structure LightP (p : Pd) : Prop where
 spec : Book.Light p.spec
 rs : p.rs.length ≤ 20
structure LightR (y : Rp) : Prop where
 data : y.data.size ≤ 300
 np : y.pods.length ≤ 20
 nu : y.use.length ≤ 20
 pods : ∀ p ∈ y.pods, LightP p
structure LightM (m : Mg) : Prop where
 reply : LightR m.reply
 pod : LightP m.event.pod
theorem text_empty (s : ByteArray) : s.toList.isEmpty = decide (s = ⟨#[]⟩) := by
 by_cases h : s = ⟨#[]⟩
 · subst h; rw [text_nil (show (⟨#[]⟩ : ByteArray).size = 0 from rfl)]; simp
 · rw [decide_eq_false h, text_some (fun h0 => h (ByteArray.ext (Array.eq_empty_of_size_eq_zero h0)))]
theorem len_zero (n : Nat) : ((n : Int) == 0) = decide (n = 0) := by
 by_cases h : n = 0
 · subst h; rfl
 · rw [decide_eq_false h, beq_eq_false_iff_ne]; omega
theorem len_eq (n m : Nat) : ((n : Int) == (m : Int)) = decide (n = m) := by
 by_cases h : n = m
 · subst h; simp
 · rw [decide_eq_false h, beq_eq_false_iff_ne]; omega
theorem le_32 (n : Nat) : decide ((n : Int) ≤ 32) = decide (n ≤ 32) := by
 have : ((n : Int) ≤ 32) ↔ n ≤ 32 := by omega
 simp only [this]
theorem le_16 (n : Nat) : decide ((n : Int) ≤ 16) = decide (n ≤ 16) := by
 have : ((n : Int) ≤ 16) ↔ n ≤ 16 := by omega
 simp only [this]
theorem le_4 (n : Nat) : decide ((n : Int) ≤ 4) = decide (n ≤ 4) := by
 have : ((n : Int) ≤ 4) ↔ n ≤ 4 := by omega
 simp only [this]
theorem rev_zero (n : Nat) : ((n : Int) == 0) = (n == 0) := by
 rw [len_zero]
 rfl
theorem zs_in (w : World) : zeroS.In w none 0 none 0 none 0 :=
 ⟨fun k x hk => by simp [zeroS] at hk, fun k x hk => by simp [zeroS] at hk, fun k x hk => by simp [zeroS] at hk, by simp [zeroS], by simp [zeroS], by simp [zeroS], by unfold I64 zeroS; decide, by unfold I64 zeroS; decide, by unfold I64 zeroS; decide⟩
theorem all_next {α : Type} (f : α → Bool) (l : List α) (k : Nat) (hk : k < l.length) (h : (l.take k).all f = true) : f l[k] = true → (l.take (k + 1)).all f = true := by
 intro h1
 rw [List.take_succ_eq_append_getElem hk, List.all_append, h]
 simp [h1]
theorem all_not {α : Type} (f : α → Bool) (l : List α) (k : Nat) (hk : k < l.length) : f l[k] = false → l.all f = false := by
 intro h1
 rw [List.all_eq_false]
 exact ⟨l[k], List.getElem_mem hk, by rw [h1]; decide⟩
theorem within_any (n a b : Int) (w : World) : Calls Tryz.prog 102 #[.int .i64 n, .int .i64 a, .int .i64 b] w fun e w' => e = .returned (.bool (inB n a b)) ∧ w = w' := by
 by_cases h1 : a ≤ n
 · by_cases h2 : n ≤ b
   · have HD := hid (show inB n a b = true from inB_iff.2 ⟨h1, h2⟩)
     go_enter Tryz.func102, Tryz.ntmps102
     go_wp2
     go_ret
     exact ⟨Book.ret_b HD.out.symm, rfl⟩
   · have HD := hid (show inB n a b = false by rw [Bool.eq_false_iff]; exact fun h => h2 (inB_iff.1 h).2)
     go_enter Tryz.func102, Tryz.ntmps102
     go_wp2
     go_ret
     exact ⟨Book.ret_b HD.out.symm, rfl⟩
 · have HD := hid (show inB n a b = false by rw [Bool.eq_false_iff]; exact fun h => h1 (inB_iff.1 h).1)
   go_enter Tryz.func102, Tryz.ntmps102
   go_wp2
   go_ret
   exact ⟨Book.ret_b HD.out.symm, rfl⟩
theorem restB_any (n : Int) (w : World) : Calls Tryz.prog 104 #[.int .i64 n] w fun e w' => e = .returned (.bool (restB n)) ∧ w = w' := by
 go_enter Tryz.func104, Tryz.ntmps104
 go_wp2_with fail
 refine (within_any n 0 1073741824 w).mono ?_
 rintro e w1 ⟨rfl, rfl⟩
 go_wp2
 go_ret
 exact ⟨rfl, rfl⟩
theorem shape_any (b : Bool) (w : World) : Calls Tryz.prog 54 #[.bool b] w fun e w' => e = .returned (.int .i64 (bif b then 0 else 4)) ∧ w = w' := by
 cases b <;>
 · go_enter Tryz.func54, Tryz.ntmps54
   go_wp2
   go_ret
   exact ⟨rfl, rfl⟩
theorem hasB_any (k : Int) (w : World) : Calls Tryz.prog 116 #[.int .i64 k] w fun e w' => e = .returned (.bool (hasB k)) ∧ w = w' := by
 by_cases h1 : k = 1
 · subst h1
   go_enter Tryz.func116, Tryz.ntmps116
   go_wp2
   go_ret
   exact ⟨rfl, rfl⟩
 by_cases h2 : k = 2
 · subst h2
   go_enter Tryz.func116, Tryz.ntmps116
   go_wp2
   go_ret
   exact ⟨rfl, rfl⟩
 by_cases h3 : k = 3
 · subst h3
   go_enter Tryz.func116, Tryz.ntmps116
   go_wp2
   go_ret
   exact ⟨rfl, rfl⟩
 have HD := hid (show hasB k = false by rw [Bool.eq_false_iff]; intro h; have := inB_iff.1 h; omega)
 have q1 : (k == 1) = false := by rw [beq_eq_false_iff_ne]; exact h1
 have q2 : (k == 2) = false := by rw [beq_eq_false_iff_ne]; exact h2
 have q3 : (k == 3) = false := by rw [beq_eq_false_iff_ne]; exact h3
 clear h1 h2 h3
 go_enter Tryz.func116, Tryz.ntmps116
 go_wp2
 go_ret
 exact ⟨Book.ret_b HD.out.symm, rfl⟩
theorem noneB_any (k : Int) (w : World) : Calls Tryz.prog 156 #[.int .i64 k] w fun e w' => e = .returned (.bool (noneB k)) ∧ w = w' := by
 by_cases h1 : k = 4
 · subst h1
   go_enter Tryz.func156, Tryz.ntmps156
   go_wp2
   go_ret
   exact ⟨rfl, rfl⟩
 by_cases h2 : k = 5
 · subst h2
   go_enter Tryz.func156, Tryz.ntmps156
   go_wp2
   go_ret
   exact ⟨rfl, rfl⟩
 have HD := hid (show noneB k = false by rw [Bool.eq_false_iff]; intro h; have := inB_iff.1 h; omega)
 have q1 : (k == 4) = false := by rw [beq_eq_false_iff_ne]; exact h1
 have q2 : (k == 5) = false := by rw [beq_eq_false_iff_ne]; exact h2
 clear h1 h2
 go_enter Tryz.func156, Tryz.ntmps156
 go_wp2
 go_ret
 exact ⟨Book.ret_b HD.out.symm, rfl⟩
theorem all_rests (A : Option Addr) (cap : Nat) (l : List Int) (hn : l.length ≤ 100) (w : World) (h : Lists.Nums .i64 w A l) :
 Calls Tryz.prog 103 #[.slice A l.length cap, .func (.func 104) #[] #[]] w fun e w' => e = .returned (.bool (l.all restB)) ∧ w = w' := by
 have H := hid h
 have hn' : (l.length : Int) ≤ 100 := by omega
 clear h hn
 go_enter Tryz.func103, Tryz.ntmps103
 go_wp2
 go_loop [9] (fun i => ∃ k : Nat, k ≤ l.length ∧ i = .int .i64 k ∧ Hid ((l.take k).all restB = true)) (fun i => l.length - (RowKit.intOf i).toNat)
 case atStart => exact ⟨0, Nat.zero_le _, rfl, by rfl⟩
 case round =>
  obtain ⟨k, hk, rfl, HF⟩ := hrel
  by_cases hlt : k < l.length
  · obtain ⟨_, a, rfl, ha, hc⟩ := H.out.at hlt
    have hka : (k : Int) < (l.length : Int) := by omega
    have HN := hid (all_next restB l k hlt HF.out); have HNO := hid (all_not restB l k hlt); obtain ⟨x, ex⟩ : ∃ x, l[k] = x := ⟨_, rfl⟩
    rw [ex] at hc HN HNO
    clear ha ex HF; go_wp2_with fail
    refine (restB_any x w).mono ?_
    rintro e w1 ⟨rfl, rfl⟩
    cases hm : restB x with
    | true =>
     have HT := hid (HN.out hm); clear hm HN HNO; go_wp2
     go_round
     case rel => exact ⟨k + 1, by omega, by go_num, HT.out⟩
     case measure => simp [RowKit.intOf]; omega
    | false =>
     have HD := hid (HNO.out hm); clear hm HN HNO; go_wp2
     go_ret
     exact ⟨Book.ret_b HD.out.symm, rfl⟩
  · have hka : ¬ (k : Int) < (l.length : Int) := by omega
    have HD := hid (show l.all restB = true by have := HF.out; rwa [List.take_of_length_le (by omega)] at this); clear HF; go_wp2
    go_ret
    exact ⟨Book.ret_b HD.out.symm, rfl⟩
theorem useB_any (u : Int × Int × Int) (w : World)  :
 Calls Tryz.prog 155 #[.agg #[.int .i64 u.1, .int .i64 u.2.1, .int .i64 u.2.2]] w fun e w' => e = .returned (.bool (useB u)) ∧ Below w.heap.size w w' := by
 skip
 obtain ⟨b0, e0⟩ : ∃ b : Bool, inB u.1 0 1099511627776 = b := ⟨_, rfl⟩
 obtain ⟨b1, e1⟩ : ∃ b : Bool, inB u.2.1 0 1099511627776 = b := ⟨_, rfl⟩
 obtain ⟨b2, e2⟩ : ∃ b : Bool, inB u.2.2 0 1099511627776 = b := ⟨_, rfl⟩
 have HR := hid (show (b0 && b1 && b2) = useB u by rw [← e0, ← e1, ← e2]; (try simp only [text_empty, len_zero, le_32, le_16, le_4, len_eq, rev_zero]); rfl)
 have E0 := hid e0
 clear e0
 have E1 := hid e1
 clear e1
 have E2 := hid e2
 clear e2
 obtain ⟨w2, hw2⟩ : ∃ v, w.alloc (.cells #[.int .i64 u.1, .int .i64 u.2.1, .int .i64 u.2.2] 70) = v := ⟨_, rfl⟩
 have B2 := hid (show Below w.heap.size w w2 by rw [← hw2]; exact (Below.refl _ _).alloc (Nat.le_refl _) _)
 have X2 := hid (show w2.heap[w.heap.size]? = some (.cells #[.int .i64 u.1, .int .i64 u.2.1, .int .i64 u.2.2] 70) by rw [← hw2]; exact heap_alloc_new w _)
 have c0 := box_cell X2.out 0 rfl
 have c1 := box_cell X2.out 1 rfl
 have c2 := box_cell X2.out 2 rfl
 go_enter Tryz.func155, Tryz.ntmps155
 go_wp2_with fail
 refine (within_any u.1 0 1099511627776 w2).mono ?_
 rintro e w3 ⟨rfl, rfl⟩
 rw [E0.out]
 cases b0 with
 | false =>
  have HD := hid (show false = useB u from by have := HR.out; simpa using this); go_wp2
  go_ret
  exact ⟨Book.ret_b HD.out, B2.out⟩
 | true =>
  go_wp2_with fail
  refine (within_any u.2.1 0 1099511627776 w2).mono ?_
  rintro e w3 ⟨rfl, rfl⟩; rw [E1.out]
  cases b1 with
  | false =>
   have HD := hid (show false = useB u from by have := HR.out; simpa using this); go_wp2
   go_ret
   exact ⟨Book.ret_b HD.out, B2.out⟩
  | true =>
   go_wp2_with fail
   refine (within_any u.2.2 0 1099511627776 w2).mono ?_
   rintro e w3 ⟨rfl, rfl⟩; rw [E2.out]; have HD := hid (show b2 = useB u from by have := HR.out; simpa using this); go_wp2
   go_ret
   exact ⟨Book.ret_b HD.out, B2.out⟩
theorem podB_any (p : Pd) (LA : Option Addr) (lc : Nat) (IA : Option Addr) (ic : Nat) (MA : Option Addr) (mc : Nat) (RA : Option Addr) (rc : Nat) (w : World) (hLt : LightP p) (hL : SLaid w) (h : p.In w LA lc IA ic MA mc RA) :
 Calls Tryz.prog 55 #[.agg (P13 p LA lc IA ic MA mc RA rc).toArray] w fun e w' => e = .returned (.bool (podB p)) ∧ Below w.heap.size w w' := by
 have HLT := hid hLt
 have HL := hid hL
 have H := hid h
 clear hLt hL h
 obtain ⟨b0, e0⟩ : ∃ b : Bool, inB p.uid 1 1073741824 = b := ⟨_, rfl⟩
 obtain ⟨b1, e1⟩ : ∃ b : Bool, decide ((checkV p.spec).1 = 0) = b := ⟨_, rfl⟩
 obtain ⟨b2, e2⟩ : ∃ b : Bool, inB p.phase 1 4 = b := ⟨_, rfl⟩
 obtain ⟨b3, e3⟩ : ∃ b : Bool, ((p.rs.length : Int) == (p.spec.main.length : Int)) = b := ⟨_, rfl⟩
 obtain ⟨b4, e4⟩ : ∃ b : Bool, p.rs.all restB = b := ⟨_, rfl⟩
 obtain ⟨b5, e5⟩ : ∃ b : Bool, inB p.mark 0 2 = b := ⟨_, rfl⟩
 obtain ⟨b6, e6⟩ : ∃ b : Bool, inB p.grace 0 1000 = b := ⟨_, rfl⟩
 have HR := hid (show (b0 && b1 && b2 && b3 && b4 && b5 && b6) = podB p by rw [← e0, ← e1, ← e2, ← e3, ← e4, ← e5, ← e6]; (try simp only [text_empty, len_zero, le_32, le_16, le_4, len_eq, rev_zero]); rfl)
 have E0 := hid e0
 clear e0
 have E1 := hid e1
 clear e1
 have E2 := hid e2
 clear e2
 have E4 := hid e4
 clear e4
 have E5 := hid e5
 clear e5
 have E6 := hid e6
 clear e6
 obtain ⟨w2, hw2⟩ : ∃ v, w.alloc (.cells (P13 p LA lc IA ic MA mc RA rc).toArray 42) = v := ⟨_, rfl⟩
 have B2 := hid (show Below w.heap.size w w2 by rw [← hw2]; exact (Below.refl _ _).alloc (Nat.le_refl _) _)
 have X2 := hid (show w2.heap[w.heap.size]? = some (.cells (P13 p LA lc IA ic MA mc RA rc).toArray 42) by rw [← hw2]; exact heap_alloc_new w _)
 have c0 := box_cell X2.out 0 rfl
 have c2 := box_cell X2.out 2 rfl
 have c3 := box_cell X2.out 3 rfl
 have c4 := box_cell X2.out 4 rfl
 have c5 := box_cell X2.out 5 rfl
 have c6 := box_cell X2.out 6 rfl
 have c7 := box_cell X2.out 7 rfl
 have c8 := box_cell X2.out 8 rfl
 go_enter Tryz.func55, Tryz.ntmps55
 go_wp2_with fail
 refine (within_any p.uid 1 1073741824 w2).mono ?_
 rintro e w3 ⟨rfl, rfl⟩
 rw [E0.out]
 cases b0 with
 | false =>
  have HD := hid (show false = podB p from by have := HR.out; simpa using this); go_wp2
  go_ret
  exact ⟨Book.ret_b HD.out, B2.out⟩
 | true =>
  go_wp2_with fail
  refine (check_any p.spec LA lc IA ic MA mc HLT.out.spec w2 (HL.out.below B2.out) (H.out.spec.below B2.out)).mono ?_
  rintro e w3 ⟨E, rfl, hE, hb3⟩; have B3 := hid (B2.out.trans (hb3.mono B2.out.size)); have X3 := hid ((hb3.block w.heap.size (lt_of_block X2.out)).trans X2.out); clear hb3 X2 hw2 c0 c2 c3 c4 c5 c6 c7 c8
  rcases hE.form with rfl | ⟨eu, ex, rfl⟩
  rotate_left
  · obtain rfl : b1 = false := by
     rw [← E1.out]
     exact decide_eq_false (fun h => by have := hE.nil_iff.2 h; cases this)
    clear hE E1; have HD := hid (show false = podB p from by have := HR.out; simpa using this); go_wp2
    go_ret
    exact ⟨Book.ret_b HD.out, B3.out⟩
  obtain rfl : b1 = true := by
   rw [← E1.out]
   exact decide_eq_true (hE.nil_iff.1 rfl)
  clear hE E1
  as_aux_lemma =>
   have c5 := box_cell X3.out 5 rfl
   have c9 := box_cell X3.out 9 rfl
   have c10 := box_cell X3.out 10 rfl
   have c11 := box_cell X3.out 11 rfl
   have c12 := box_cell X3.out 12 rfl
   go_wp2_with fail
   refine (within_any p.phase 1 4 w3).mono ?_
   rintro e w4 ⟨rfl, rfl⟩; rw [E2.out]
   cases b2 with
   | false =>
    have HD := hid (show false = podB p from by have := HR.out; simpa using this); go_wp2
    go_ret
    exact ⟨Book.ret_b HD.out, B3.out⟩
   | true =>
    cases b3 with
    | false =>
     have HD := hid (show false = podB p from by have := HR.out; simpa using this); go_wp2
     go_ret
     exact ⟨Book.ret_b HD.out, B3.out⟩
    | true =>
     go_wp2_with fail
     refine (all_rests RA rc p.rs (by have := HLT.out.rs; omega) w3 (Sd.Nums.below H.out.rs B3.out)).mono ?_
     rintro e w4 ⟨rfl, rfl⟩; rw [E4.out]
     cases b4 with
     | false =>
      have HD := hid (show false = podB p from by have := HR.out; simpa using this); go_wp2
      go_ret
      exact ⟨Book.ret_b HD.out, B3.out⟩
     | true =>
      go_wp2_with fail
      refine (within_any p.mark 0 2 w3).mono ?_
      rintro e w4 ⟨rfl, rfl⟩; rw [E5.out]
      cases b5 with
      | false =>
       have HD := hid (show false = podB p from by have := HR.out; simpa using this); go_wp2
       go_ret
       exact ⟨Book.ret_b HD.out, B3.out⟩
      | true =>
       go_wp2_with fail
       refine (within_any p.grace 0 1000 w3).mono ?_
       rintro e w4 ⟨rfl, rfl⟩; rw [E6.out]; have HD := hid (show b6 = podB p from by have := HR.out; simpa using this); go_wp2
       go_ret
       exact ⟨Book.ret_b HD.out, B3.out⟩
theorem noPodB_any (p : Pd) (LA : Option Addr) (lc : Nat) (IA : Option Addr) (ic : Nat) (MA : Option Addr) (mc : Nat) (RA : Option Addr) (rc : Nat) (w : World) (h : p.In w LA lc IA ic MA mc RA) :
 Calls Tryz.prog 152 #[.agg (P13 p LA lc IA ic MA mc RA rc).toArray] w fun e w' => e = .returned (.bool (noPodB p)) ∧ Below w.heap.size w w' := by
 have H := hid h
 clear h
 obtain ⟨b0, e0⟩ : ∃ b : Bool, (p.uid == 0) = b := ⟨_, rfl⟩
 obtain ⟨b1, e1⟩ : ∃ b : Bool, ((p.rev : Int) == 0) = b := ⟨_, rfl⟩
 obtain ⟨b2, e2⟩ : ∃ b : Bool, sameS p.spec zeroS = b := ⟨_, rfl⟩
 obtain ⟨b3, e3⟩ : ∃ b : Bool, (p.phase == 0) = b := ⟨_, rfl⟩
 obtain ⟨b4, e4⟩ : ∃ b : Bool, ((p.rs.length : Int) == 0) = b := ⟨_, rfl⟩
 obtain ⟨b5, e5⟩ : ∃ b : Bool, (p.mark == 0) = b := ⟨_, rfl⟩
 obtain ⟨b6, e6⟩ : ∃ b : Bool, (p.grace == 0) = b := ⟨_, rfl⟩
 have HR := hid (show (b0 && b1 && b2 && b3 && b4 && b5 && b6) = noPodB p by rw [← e0, ← e1, ← e2, ← e3, ← e4, ← e5, ← e6]; (try simp only [text_empty, len_zero, le_32, le_16, le_4, len_eq, rev_zero]); rfl)
 have E2 := hid e2
 clear e2
 obtain ⟨w2, hw2⟩ : ∃ v, w.alloc (.cells (P13 p LA lc IA ic MA mc RA rc).toArray 42) = v := ⟨_, rfl⟩
 have B2 := hid (show Below w.heap.size w w2 by rw [← hw2]; exact (Below.refl _ _).alloc (Nat.le_refl _) _)
 have X2 := hid (show w2.heap[w.heap.size]? = some (.cells (P13 p LA lc IA ic MA mc RA rc).toArray 42) by rw [← hw2]; exact heap_alloc_new w _)
 have c0 := box_cell X2.out 0 rfl
 have c1 := box_cell X2.out 1 rfl
 have c2 := box_cell X2.out 2 rfl
 have c3 := box_cell X2.out 3 rfl
 have c4 := box_cell X2.out 4 rfl
 have c5 := box_cell X2.out 5 rfl
 have c6 := box_cell X2.out 6 rfl
 have c7 := box_cell X2.out 7 rfl
 have c8 := box_cell X2.out 8 rfl
 go_enter Tryz.func152, Tryz.ntmps152
 cases b0 with
 | false =>
  have HD := hid (show false = noPodB p from by have := HR.out; simpa using this); go_wp2
  go_ret
  exact ⟨Book.ret_b HD.out, B2.out⟩
 | true =>
  cases b1 with
  | false =>
   have HD := hid (show false = noPodB p from by have := HR.out; simpa using this); go_wp2
   go_ret
   exact ⟨Book.ret_b HD.out, B2.out⟩
  | true =>
   go_wp2_with fail
   refine (same_any p.spec LA lc IA ic MA mc zeroS none 0 none 0 none 0 w2 (H.out.spec.below B2.out) (zs_in w2)).mono ?_
   rintro e w3 ⟨rfl, hb3⟩; have B3 := hid (B2.out.trans (hb3.mono B2.out.size)); have X3 := hid ((hb3.block w.heap.size (lt_of_block X2.out)).trans X2.out); clear hb3 X2 hw2 c0 c1 c2 c3 c4 c5 c6 c7 c8; rw [E2.out]
   as_aux_lemma =>
    have c9 := box_cell X3.out 9 rfl
    have c10 := box_cell X3.out 10 rfl
    have c11 := box_cell X3.out 11 rfl
    have c12 := box_cell X3.out 12 rfl
    cases b2 with
    | false =>
     have HD := hid (show false = noPodB p from by have := HR.out; simpa using this); go_wp2
     go_ret
     exact ⟨Book.ret_b HD.out, B3.out⟩
    | true =>
     cases b3 with
     | false =>
      have HD := hid (show false = noPodB p from by have := HR.out; simpa using this); go_wp2
      go_ret
      exact ⟨Book.ret_b HD.out, B3.out⟩
     | true =>
      cases b4 with
      | false =>
       have HD := hid (show false = noPodB p from by have := HR.out; simpa using this); go_wp2
       go_ret
       exact ⟨Book.ret_b HD.out, B3.out⟩
      | true =>
       cases b5 with
       | false =>
        have HD := hid (show false = noPodB p from by have := HR.out; simpa using this); go_wp2
        go_ret
        exact ⟨Book.ret_b HD.out, B3.out⟩
       | true =>
        have HD := hid (show b6 = noPodB p from by have := HR.out; simpa using this); go_wp2
        go_ret
        exact ⟨Book.ret_b HD.out, B3.out⟩
theorem noReplyB_any (y : Rp) (PA : Option Addr) (pc : Nat) (UA : Option Addr) (uc : Nat) (w : World)  :
 Calls Tryz.prog 108 #[.agg (Y7 y PA pc UA uc).toArray] w fun e w' => e = .returned (.bool (noReplyB y)) ∧ Below w.heap.size w w' := by
 skip
 obtain ⟨b0, e0⟩ : ∃ b : Bool, (y.code == 0) = b := ⟨_, rfl⟩
 obtain ⟨b1, e1⟩ : ∃ b : Bool, (y.uid == 0) = b := ⟨_, rfl⟩
 obtain ⟨b2, e2⟩ : ∃ b : Bool, (y.id == 0) = b := ⟨_, rfl⟩
 obtain ⟨b3, e3⟩ : ∃ b : Bool, ((y.rev : Int) == 0) = b := ⟨_, rfl⟩
 obtain ⟨b4, e4⟩ : ∃ b : Bool, y.data.toList.isEmpty = b := ⟨_, rfl⟩
 obtain ⟨b5, e5⟩ : ∃ b : Bool, ((y.pods.length : Int) == 0) = b := ⟨_, rfl⟩
 obtain ⟨b6, e6⟩ : ∃ b : Bool, ((y.use.length : Int) == 0) = b := ⟨_, rfl⟩
 have HR := hid (show (b0 && b1 && b2 && b3 && b4 && b5 && b6) = noReplyB y by rw [← e0, ← e1, ← e2, ← e3, ← e4, ← e5, ← e6]; (try simp only [text_empty, len_zero, le_32, le_16, le_4, len_eq, rev_zero]); rfl)
 obtain ⟨w2, hw2⟩ : ∃ v, w.alloc (.cells (Y7 y PA pc UA uc).toArray 46) = v := ⟨_, rfl⟩
 have B2 := hid (show Below w.heap.size w w2 by rw [← hw2]; exact (Below.refl _ _).alloc (Nat.le_refl _) _)
 have X2 := hid (show w2.heap[w.heap.size]? = some (.cells (Y7 y PA pc UA uc).toArray 46) by rw [← hw2]; exact heap_alloc_new w _)
 have c0 := box_cell X2.out 0 rfl
 have c1 := box_cell X2.out 1 rfl
 have c2 := box_cell X2.out 2 rfl
 have c3 := box_cell X2.out 3 rfl
 have c4 := box_cell X2.out 4 rfl
 have c5 := box_cell X2.out 5 rfl
 have c6 := box_cell X2.out 6 rfl
 go_enter Tryz.func108, Tryz.ntmps108
 cases b0 with
 | false =>
  have HD := hid (show false = noReplyB y from by have := HR.out; simpa using this); go_wp2
  go_ret
  exact ⟨Book.ret_b HD.out, B2.out⟩
 | true =>
  cases b1 with
  | false =>
   have HD := hid (show false = noReplyB y from by have := HR.out; simpa using this); go_wp2
   go_ret
   exact ⟨Book.ret_b HD.out, B2.out⟩
  | true =>
   cases b2 with
   | false =>
    have HD := hid (show false = noReplyB y from by have := HR.out; simpa using this); go_wp2
    go_ret
    exact ⟨Book.ret_b HD.out, B2.out⟩
   | true =>
    cases b3 with
    | false =>
     have HD := hid (show false = noReplyB y from by have := HR.out; simpa using this); go_wp2
     go_ret
     exact ⟨Book.ret_b HD.out, B2.out⟩
    | true =>
     cases b4 with
     | false =>
      have HD := hid (show false = noReplyB y from by have := HR.out; simpa using this); go_wp2
      go_ret
      exact ⟨Book.ret_b HD.out, B2.out⟩
     | true =>
      cases b5 with
      | false =>
       have HD := hid (show false = noReplyB y from by have := HR.out; simpa using this); go_wp2
       go_ret
       exact ⟨Book.ret_b HD.out, B2.out⟩
      | true =>
       have HD := hid (show b6 = noReplyB y from by have := HR.out; simpa using this); go_wp2
       go_ret
       exact ⟨Book.ret_b HD.out, B2.out⟩
theorem noEventB_any (ev : Ev) (LA : Option Addr) (lc : Nat) (IA : Option Addr) (ic : Nat) (MA : Option Addr) (mc : Nat) (RA : Option Addr) (rc : Nat) (w : World) (h : ev.pod.In w LA lc IA ic MA mc RA) :
 Calls Tryz.prog 106 #[.agg (V15 ev LA lc IA ic MA mc RA rc).toArray] w fun e w' => e = .returned (.bool (noEventB ev)) ∧ Below w.heap.size w w' := by
 have H := hid h
 clear h
 obtain ⟨b0, e0⟩ : ∃ b : Bool, (ev.kind == 0) = b := ⟨_, rfl⟩
 obtain ⟨b1, e1⟩ : ∃ b : Bool, ((ev.rev : Int) == 0) = b := ⟨_, rfl⟩
 obtain ⟨b2, e2⟩ : ∃ b : Bool, noPodB ev.pod = b := ⟨_, rfl⟩
 have HR := hid (show (b0 && b1 && b2) = noEventB ev by rw [← e0, ← e1, ← e2]; (try simp only [text_empty, len_zero, le_32, le_16, le_4, len_eq, rev_zero]); rfl)
 have E2 := hid e2
 clear e2
 obtain ⟨w2, hw2⟩ : ∃ v, w.alloc (.cells (V15 ev LA lc IA ic MA mc RA rc).toArray 48) = v := ⟨_, rfl⟩
 have B2 := hid (show Below w.heap.size w w2 by rw [← hw2]; exact (Below.refl _ _).alloc (Nat.le_refl _) _)
 have X2 := hid (show w2.heap[w.heap.size]? = some (.cells (V15 ev LA lc IA ic MA mc RA rc).toArray 48) by rw [← hw2]; exact heap_alloc_new w _)
 have c0 := box_cell X2.out 0 rfl
 have c1 := box_cell X2.out 1 rfl
 have c2 := box_cell X2.out 2 rfl
 have c3 := box_cell X2.out 3 rfl
 have c4 := box_cell X2.out 4 rfl
 have c5 := box_cell X2.out 5 rfl
 have c6 := box_cell X2.out 6 rfl
 have c7 := box_cell X2.out 7 rfl
 have c8 := box_cell X2.out 8 rfl
 have c9 := box_cell X2.out 9 rfl
 have c10 := box_cell X2.out 10 rfl
 have c11 := box_cell X2.out 11 rfl
 have c12 := box_cell X2.out 12 rfl
 have c13 := box_cell X2.out 13 rfl
 have c14 := box_cell X2.out 14 rfl
 go_enter Tryz.func106, Tryz.ntmps106
 cases b0 with
 | false =>
  have HD := hid (show false = noEventB ev from by have := HR.out; simpa using this); go_wp2
  go_ret
  exact ⟨Book.ret_b HD.out, B2.out⟩
 | true =>
  cases b1 with
  | false =>
   have HD := hid (show false = noEventB ev from by have := HR.out; simpa using this); go_wp2
   go_ret
   exact ⟨Book.ret_b HD.out, B2.out⟩
  | true =>
   go_wp2_with fail
   refine (noPodB_any ev.pod LA lc IA ic MA mc RA rc w2 (H.out.below B2.out)).mono ?_
   rintro e w3 ⟨rfl, hb3⟩; have B3 := hid (B2.out.trans (hb3.mono B2.out.size)); have X3 := hid ((hb3.block w.heap.size (lt_of_block X2.out)).trans X2.out); clear hb3 X2 hw2 c0 c1 c2 c3 c4 c5 c6 c7 c8 c9 c10 c11 c12 c13 c14; rw [E2.out]; have HD := hid (show b2 = noEventB ev from by have := HR.out; simpa using this); go_wp2
   go_ret
   exact ⟨Book.ret_b HD.out, B3.out⟩
theorem all_pods (A : Option Addr) (cap : Nat) (l : List Pd) (hn : l.length ≤ 100) (hLt : ∀ p ∈ l, LightP p) (w : World) (hL : SLaid w) (h : Pds w A l) :
 Calls Tryz.prog 153 #[.slice A l.length cap, .func (.func 55) #[] #[]] w fun e w' => e = .returned (.bool (l.all podB)) ∧ Below w.heap.size w w' := by
 have HLT := hid hLt
 have HL := hid hL
 have H := hid h
 clear hLt hL h
 have hn' : (l.length : Int) ≤ 100 := by omega
 clear hn
 go_enter Tryz.func153, Tryz.ntmps153
 go_wp2_with fail
 go_loopw [9] (fun i wr => ∃ k : Nat, k ≤ l.length ∧ i = .int .i64 k ∧ Hid (Below w.heap.size w wr) ∧ Hid ((l.take k).all podB = true)) (fun i _ => l.length - (RowKit.intOf i).toNat)
 case atStart => exact ⟨0, Nat.zero_le _, rfl, Below.refl _ _, by rfl⟩
 case round =>
  obtain ⟨k, hk, rfl, BW, HF⟩ := hrel
  by_cases hlt : k < l.length
  · obtain ⟨a, LA, lc, IA, ic, MA, mc, RA, rc, rfl, ha, hcIN⟩ := (H.out.below BW.out).at hlt
    have hka : (k : Int) < (l.length : Int) := by omega
    have HIN := hid hcIN
    have HMEM := hid (List.getElem_mem hlt); have HN := hid (all_next podB l k hlt HF.out); have HNO := hid (all_not podB l k hlt); obtain ⟨x, ex⟩ : ∃ x, l[k] = x := ⟨_, rfl⟩
    rw [ex] at HIN HMEM HN HNO
    have hc := HIN.out.1
    have c0 : wr.cell? (a.add (k * 13)) = some (.int .i64 x.uid) := hc.1
    have c1 : wr.cell? ⟨(a.add (k * 13)).block, (a.add (k * 13)).off + 1, none⟩ = some (.int .u64 x.rev) := hc.2 0 _ rfl
    have c2 : wr.cell? ⟨(a.add (k * 13)).block, (a.add (k * 13)).off + 2, none⟩ = some (.string x.spec.name) := hc.2 1 _ rfl
    have c3 : wr.cell? ⟨(a.add (k * 13)).block, (a.add (k * 13)).off + 3, none⟩ = some (.slice LA x.spec.labels.length lc) := hc.2 2 _ rfl
    have c4 : wr.cell? ⟨(a.add (k * 13)).block, (a.add (k * 13)).off + 4, none⟩ = some (.slice IA x.spec.init.length ic) := hc.2 3 _ rfl
    have c5 : wr.cell? ⟨(a.add (k * 13)).block, (a.add (k * 13)).off + 5, none⟩ = some (.slice MA x.spec.main.length mc) := hc.2 4 _ rfl
    have c6 : wr.cell? ⟨(a.add (k * 13)).block, (a.add (k * 13)).off + 6, none⟩ = some (.int .i64 x.spec.restart) := hc.2 5 _ rfl
    have c7 : wr.cell? ⟨(a.add (k * 13)).block, (a.add (k * 13)).off + 7, none⟩ = some (.int .i64 x.spec.grace) := hc.2 6 _ rfl
    have c8 : wr.cell? ⟨(a.add (k * 13)).block, (a.add (k * 13)).off + 8, none⟩ = some (.int .i64 x.spec.prio) := hc.2 7 _ rfl
    have c9 : wr.cell? ⟨(a.add (k * 13)).block, (a.add (k * 13)).off + 9, none⟩ = some (.int .i64 x.phase) := hc.2 8 _ rfl
    have c10 : wr.cell? ⟨(a.add (k * 13)).block, (a.add (k * 13)).off + 10, none⟩ = some (.slice RA x.rs.length rc) := hc.2 9 _ rfl
    have c11 : wr.cell? ⟨(a.add (k * 13)).block, (a.add (k * 13)).off + 11, none⟩ = some (.int .i64 x.mark) := hc.2 10 _ rfl
    have c12 : wr.cell? ⟨(a.add (k * 13)).block, (a.add (k * 13)).off + 12, none⟩ = some (.int .i64 x.grace) := hc.2 11 _ rfl
    clear hc ha ex hcIN HF; go_wp2_with fail
    obtain ⟨w5, hw5⟩ : ∃ v, wr.alloc (.cells (P13 x LA lc IA ic MA mc RA rc).toArray 42) = v := ⟨_, rfl⟩
    have hb5 : Below wr.heap.size wr w5 := by rw [← hw5]; exact (Below.refl _ _).alloc (Nat.le_refl _) _
    have B5 := hid (BW.out.trans (hb5.mono BW.out.size))
    first | rw [hw5] | skip
    clear hw5
    refine (podB_any x LA lc IA ic MA mc RA rc w5 (HLT.out x HMEM.out) (HL.out.below B5.out) (HIN.out.2.below hb5)).mono ?_
    rintro e w6 ⟨rfl, hb6⟩; have B6 := hid (B5.out.trans (hb6.mono B5.out.size)); clear hb5 hb6 c0 c1 c2 c3 c4 c5 c6 c7 c8 c9 c10 c11 c12
    cases hm : podB x with
    | true =>
     have HT := hid (HN.out hm); clear hm HN HNO; go_wp2
     go_roundw
     case rel => exact ⟨k + 1, by omega, by go_num, B6.out, HT.out⟩
     case measure => simp [RowKit.intOf]; omega
    | false =>
     have HD := hid (HNO.out hm); clear hm HN HNO; go_wp2
     go_ret
     exact ⟨Book.ret_b HD.out.symm, B6.out⟩
  · have hka : ¬ (k : Int) < (l.length : Int) := by omega
    have HD := hid (show l.all podB = true by have := HF.out; rwa [List.take_of_length_le (by omega)] at this); clear HF; go_wp2
    go_ret
    exact ⟨Book.ret_b HD.out.symm, BW.out⟩
theorem all_uses (A : Option Addr) (cap : Nat) (l : List (Int × Int × Int)) (hn : l.length ≤ 100) (w : World) (h : Uses w A l) :
 Calls Tryz.prog 154 #[.slice A l.length cap, .func (.func 155) #[] #[]] w fun e w' => e = .returned (.bool (l.all useB)) ∧ Below w.heap.size w w' := by
 have H := hid h
 clear h
 have hn' : (l.length : Int) ≤ 100 := by omega
 clear hn
 go_enter Tryz.func154, Tryz.ntmps154
 go_wp2_with fail
 go_loopw [9] (fun i wr => ∃ k : Nat, k ≤ l.length ∧ i = .int .i64 k ∧ Hid (Below w.heap.size w wr) ∧ Hid ((l.take k).all useB = true)) (fun i _ => l.length - (RowKit.intOf i).toNat)
 case atStart => exact ⟨0, Nat.zero_le _, rfl, Below.refl _ _, by rfl⟩
 case round =>
  obtain ⟨k, hk, rfl, BW, HF⟩ := hrel
  by_cases hlt : k < l.length
  · obtain ⟨a, rfl, ha, hcIN⟩ := (H.out.below BW.out).at hlt
    have hka : (k : Int) < (l.length : Int) := by omega
    have HIN := hid hcIN
    have HMEM := hid (List.getElem_mem hlt); have HN := hid (all_next useB l k hlt HF.out); have HNO := hid (all_not useB l k hlt); obtain ⟨x, ex⟩ : ∃ x, l[k] = x := ⟨_, rfl⟩
    rw [ex] at HIN HMEM HN HNO
    have hc := HIN.out
    have c0 : wr.cell? (a.add (k * 3)) = some (.int .i64 x.1) := hc.1
    have c1 : wr.cell? ⟨(a.add (k * 3)).block, (a.add (k * 3)).off + 1, none⟩ = some (.int .i64 x.2.1) := hc.2 0 _ rfl
    have c2 : wr.cell? ⟨(a.add (k * 3)).block, (a.add (k * 3)).off + 2, none⟩ = some (.int .i64 x.2.2) := hc.2 1 _ rfl
    clear hc ha ex hcIN HF; go_wp2_with fail
    obtain ⟨w5, hw5⟩ : ∃ v, wr.alloc (.cells #[.int .i64 x.1, .int .i64 x.2.1, .int .i64 x.2.2] 70) = v := ⟨_, rfl⟩
    have hb5 : Below wr.heap.size wr w5 := by rw [← hw5]; exact (Below.refl _ _).alloc (Nat.le_refl _) _
    have B5 := hid (BW.out.trans (hb5.mono BW.out.size))
    first | rw [hw5] | skip
    clear hw5
    refine (useB_any x w5).mono ?_
    rintro e w6 ⟨rfl, hb6⟩; have B6 := hid (B5.out.trans (hb6.mono B5.out.size)); clear hb5 hb6 c0 c1 c2
    cases hm : useB x with
    | true =>
     have HT := hid (HN.out hm); clear hm HN HNO; go_wp2
     go_roundw
     case rel => exact ⟨k + 1, by omega, by go_num, B6.out, HT.out⟩
     case measure => simp [RowKit.intOf]; omega
    | false =>
     have HD := hid (HNO.out hm); clear hm HN HNO; go_wp2
     go_ret
     exact ⟨Book.ret_b HD.out.symm, B6.out⟩
  · have hka : ¬ (k : Int) < (l.length : Int) := by omega
    have HD := hid (show l.all useB = true by have := HF.out; rwa [List.take_of_length_le (by omega)] at this); clear HF; go_wp2
    go_ret
    exact ⟨Book.ret_b HD.out.symm, BW.out⟩
theorem replyB_any (y : Rp) (PA : Option Addr) (pc : Nat) (UA : Option Addr) (uc : Nat) (w : World) (hLt : LightR y) (hL : SLaid w) (h : y.In w PA UA) :
 Calls Tryz.prog 107 #[.agg (Y7 y PA pc UA uc).toArray] w fun e w' => e = .returned (.bool (replyB y)) ∧ Below w.heap.size w w' := by
 have HLT := hid hLt
 have HL := hid hL
 have H := hid h
 clear hLt hL h
 obtain ⟨b0, e0⟩ : ∃ b : Bool, inB y.code 0 999 = b := ⟨_, rfl⟩
 obtain ⟨b1, e1⟩ : ∃ b : Bool, inB y.uid 0 1073741824 = b := ⟨_, rfl⟩
 obtain ⟨b2, e2⟩ : ∃ b : Bool, inB y.id 0 1073741824 = b := ⟨_, rfl⟩
 obtain ⟨b3, e3⟩ : ∃ b : Bool, decide ((y.data.size : Int) ≤ 32) = b := ⟨_, rfl⟩
 obtain ⟨b4, e4⟩ : ∃ b : Bool, decide ((y.pods.length : Int) ≤ 16) = b := ⟨_, rfl⟩
 obtain ⟨b5, e5⟩ : ∃ b : Bool, y.pods.all podB = b := ⟨_, rfl⟩
 obtain ⟨b6, e6⟩ : ∃ b : Bool, decide ((y.use.length : Int) ≤ 4) = b := ⟨_, rfl⟩
 obtain ⟨b7, e7⟩ : ∃ b : Bool, y.use.all useB = b := ⟨_, rfl⟩
 have HR := hid (show (b0 && b1 && b2 && b3 && b4 && b5 && b6 && b7) = replyB y by rw [← e0, ← e1, ← e2, ← e3, ← e4, ← e5, ← e6, ← e7]; (try simp only [text_empty, len_zero, le_32, le_16, le_4, len_eq, rev_zero]); rfl)
 have E0 := hid e0
 clear e0
 have E1 := hid e1
 clear e1
 have E2 := hid e2
 clear e2
 have E5 := hid e5
 clear e5
 have E7 := hid e7
 clear e7
 obtain ⟨w2, hw2⟩ : ∃ v, w.alloc (.cells (Y7 y PA pc UA uc).toArray 46) = v := ⟨_, rfl⟩
 have B2 := hid (show Below w.heap.size w w2 by rw [← hw2]; exact (Below.refl _ _).alloc (Nat.le_refl _) _)
 have X2 := hid (show w2.heap[w.heap.size]? = some (.cells (Y7 y PA pc UA uc).toArray 46) by rw [← hw2]; exact heap_alloc_new w _)
 have c0 := box_cell X2.out 0 rfl
 have c1 := box_cell X2.out 1 rfl
 have c2 := box_cell X2.out 2 rfl
 have c4 := box_cell X2.out 4 rfl
 have c5 := box_cell X2.out 5 rfl
 go_enter Tryz.func107, Tryz.ntmps107
 go_wp2_with fail
 refine (within_any y.code 0 999 w2).mono ?_
 rintro e w3 ⟨rfl, rfl⟩
 rw [E0.out]
 cases b0 with
 | false =>
  have HD := hid (show false = replyB y from by have := HR.out; simpa using this); go_wp2
  go_ret
  exact ⟨Book.ret_b HD.out, B2.out⟩
 | true =>
  go_wp2_with fail
  refine (within_any y.uid 0 1073741824 w2).mono ?_
  rintro e w3 ⟨rfl, rfl⟩; rw [E1.out]
  cases b1 with
  | false =>
   have HD := hid (show false = replyB y from by have := HR.out; simpa using this); go_wp2
   go_ret
   exact ⟨Book.ret_b HD.out, B2.out⟩
  | true =>
   go_wp2_with fail
   refine (within_any y.id 0 1073741824 w2).mono ?_
   rintro e w3 ⟨rfl, rfl⟩; rw [E2.out]
   cases b2 with
   | false =>
    have HD := hid (show false = replyB y from by have := HR.out; simpa using this); go_wp2
    go_ret
    exact ⟨Book.ret_b HD.out, B2.out⟩
   | true =>
    cases b3 with
    | false =>
     have HD := hid (show false = replyB y from by have := HR.out; simpa using this); go_wp2
     go_ret
     exact ⟨Book.ret_b HD.out, B2.out⟩
    | true =>
     cases b4 with
     | false =>
      have HD := hid (show false = replyB y from by have := HR.out; simpa using this); go_wp2
      go_ret
      exact ⟨Book.ret_b HD.out, B2.out⟩
     | true =>
      go_wp2_with fail
      refine (all_pods PA pc y.pods (by have := HLT.out.np; omega) HLT.out.pods w2 (HL.out.below B2.out) (H.out.pods.below B2.out)).mono ?_
      rintro e w3 ⟨rfl, hb3⟩; have B3 := hid (B2.out.trans (hb3.mono B2.out.size)); have X3 := hid ((hb3.block w.heap.size (lt_of_block X2.out)).trans X2.out); clear hb3 X2 hw2 c0 c1 c2 c4 c5; rw [E5.out]
      as_aux_lemma =>
       have c6 := box_cell X3.out 6 rfl
       cases b5 with
       | false =>
        have HD := hid (show false = replyB y from by have := HR.out; simpa using this); go_wp2
        go_ret
        exact ⟨Book.ret_b HD.out, B3.out⟩
       | true =>
        cases b6 with
        | false =>
         have HD := hid (show false = replyB y from by have := HR.out; simpa using this); go_wp2
         go_ret
         exact ⟨Book.ret_b HD.out, B3.out⟩
        | true =>
         go_wp2_with fail
         refine (all_uses UA uc y.use (by have := HLT.out.nu; omega) w3 (H.out.use.below B3.out)).mono ?_
         rintro e w4 ⟨rfl, hb4⟩; have B4 := hid (B3.out.trans (hb4.mono B3.out.size)); have X4 := hid ((hb4.block w.heap.size (lt_of_block X3.out)).trans X3.out); clear hb4 X3 c6; rw [E7.out]; have HD := hid (show b7 = replyB y from by have := HR.out; simpa using this); go_wp2
         go_ret
         exact ⟨Book.ret_b HD.out, B4.out⟩
theorem eventB_any (ev : Ev) (LA : Option Addr) (lc : Nat) (IA : Option Addr) (ic : Nat) (MA : Option Addr) (mc : Nat) (RA : Option Addr) (rc : Nat) (w : World) (hLt : LightP ev.pod) (hL : SLaid w) (h : ev.pod.In w LA lc IA ic MA mc RA) :
 Calls Tryz.prog 109 #[.agg (V15 ev LA lc IA ic MA mc RA rc).toArray] w fun e w' => e = .returned (.bool (eventB ev)) ∧ Below w.heap.size w w' := by
 have HLT := hid hLt
 have HL := hid hL
 have H := hid h
 have HE := hid (show eventB ev = (hasB ev.kind && podB ev.pod || noneB ev.kind && noPodB ev.pod) from rfl)
 have HXX := hid (show hasB ev.kind = true → noneB ev.kind = false from fun h => by
  have h1 := inB_iff.1 h
  rw [Bool.eq_false_iff]
  intro h2
  have h3 := inB_iff.1 h2
  omega)
 clear hLt hL h
 obtain ⟨w2, hw2⟩ : ∃ v, w.alloc (.cells (V15 ev LA lc IA ic MA mc RA rc).toArray 48) = v := ⟨_, rfl⟩
 have B2 := hid (show Below w.heap.size w w2 by rw [← hw2]; exact (Below.refl _ _).alloc (Nat.le_refl _) _)
 have X2 := hid (show w2.heap[w.heap.size]? = some (.cells (V15 ev LA lc IA ic MA mc RA rc).toArray 48) by rw [← hw2]; exact heap_alloc_new w _)
 have c0 := box_cell X2.out 0 rfl
 have c1 := box_cell X2.out 1 rfl
 have c2 := box_cell X2.out 2 rfl
 have c3 := box_cell X2.out 3 rfl
 have c4 := box_cell X2.out 4 rfl
 have c5 := box_cell X2.out 5 rfl
 have c6 := box_cell X2.out 6 rfl
 have c7 := box_cell X2.out 7 rfl
 have c8 := box_cell X2.out 8 rfl
 have c9 := box_cell X2.out 9 rfl
 have c10 := box_cell X2.out 10 rfl
 have c11 := box_cell X2.out 11 rfl
 have c12 := box_cell X2.out 12 rfl
 have c13 := box_cell X2.out 13 rfl
 have c14 := box_cell X2.out 14 rfl
 go_enter Tryz.func109, Tryz.ntmps109
 go_wp2_with fail
 refine (hasB_any ev.kind w2).mono ?_
 rintro e w3 ⟨rfl, rfl⟩
 cases hk : hasB ev.kind with
 | true =>
  have HNN := hid (HXX.out hk)
  rw [hk] at HE
  clear hk HXX; go_wp2_with fail
  refine (podB_any ev.pod LA lc IA ic MA mc RA rc w2 HLT.out (HL.out.below B2.out) (H.out.below B2.out)).mono ?_
  rintro e w3 ⟨rfl, hb3⟩; clear hw2; have B3 := hid (B2.out.trans (hb3.mono B2.out.size)); have X3 := hid ((hb3.block w.heap.size (lt_of_block X2.out)).trans X2.out); clear hb3 X2; clear c0 c1 c2 c3 c4 c5 c6 c7 c8 c9 c10 c11 c12 c13 c14
  have c0 := box_cell X3.out 0 rfl
  cases hp : podB ev.pod with
  | true =>
   rw [hp] at HE
   clear hp; have HD := hid (show true = eventB ev from by rw [HE.out]; rfl); go_wp2
   go_ret
   exact ⟨Book.ret_b HD.out, B3.out⟩
  | false =>
   rw [hp] at HE
   clear hp; go_wp2_with fail
   refine (noneB_any ev.kind w3).mono ?_
   rintro e w4 ⟨rfl, rfl⟩; rw [HNN.out]; have HD := hid (show false = eventB ev from by rw [HE.out, HNN.out]; rfl); go_wp2
   go_ret
   exact ⟨Book.ret_b HD.out, B3.out⟩
 | false =>
  rw [hk] at HE
  clear hk HXX; go_wp2_with fail
  refine (noneB_any ev.kind w2).mono ?_
  rintro e w3 ⟨rfl, rfl⟩
  cases hn : noneB ev.kind with
  | false =>
   rw [hn] at HE
   clear hn; have HD := hid (show false = eventB ev from by rw [HE.out]; rfl); go_wp2
   go_ret
   exact ⟨Book.ret_b HD.out, B2.out⟩
  | true =>
   rw [hn] at HE
   clear hn; go_wp2_with fail
   refine (noPodB_any ev.pod LA lc IA ic MA mc RA rc w2 (H.out.below B2.out)).mono ?_
   rintro e w3 ⟨rfl, hb3⟩; clear hw2; have B3 := hid (B2.out.trans (hb3.mono B2.out.size)); have X3 := hid ((hb3.block w.heap.size (lt_of_block X2.out)).trans X2.out); clear hb3 X2; clear c0 c1 c2 c3 c4 c5 c6 c7 c8 c9 c10 c11 c12 c13 c14; obtain ⟨z, hz⟩ : ∃ z, noPodB ev.pod = z := ⟨_, rfl⟩
   rw [hz] at HE ⊢
   clear hz; have HD := hid (show z = eventB ev from by rw [HE.out]; simp); go_wp2
   go_ret
   exact ⟨Book.ret_b HD.out, B3.out⟩
theorem msgB_any (m : Mg) (PA : Option Addr) (pc : Nat) (UA : Option Addr) (uc : Nat) (LA : Option Addr) (lc : Nat) (IA : Option Addr) (ic : Nat) (MA : Option Addr) (mc : Nat) (RA : Option Addr) (rc : Nat) (w : World) (hLt : LightM m) (hL : SLaid w) (h : m.In w PA UA LA lc IA ic MA mc RA) :
 Calls Tryz.prog 58 #[.agg (M24 m PA pc UA uc LA lc IA ic MA mc RA rc).toArray] w fun e w' => e = .returned (.bool (msgB m)) ∧ Below w.heap.size w w' := by
 have HLT := hid hLt
 have HL := hid hL
 have H := hid h
 have HE := hid (show msgB m = (inB m.num 1 1073741824 && (if m.kind = 1 then noEventB m.event && replyB m.reply else if m.kind = 2 then noReplyB m.reply && eventB m.event else false)) from rfl)
 clear hLt hL h
 obtain ⟨w2, hw2⟩ : ∃ v, w.alloc (.cells (M24 m PA pc UA uc LA lc IA ic MA mc RA rc).toArray 50) = v := ⟨_, rfl⟩
 have B2 := hid (show Below w.heap.size w w2 by rw [← hw2]; exact (Below.refl _ _).alloc (Nat.le_refl _) _)
 have X2 := hid (show w2.heap[w.heap.size]? = some (.cells (M24 m PA pc UA uc LA lc IA ic MA mc RA rc).toArray 50) by rw [← hw2]; exact heap_alloc_new w _)
 have c0 := box_cell X2.out 0 rfl
 have c1 := box_cell X2.out 1 rfl
 have c2 := box_cell X2.out 2 rfl
 have c3 := box_cell X2.out 3 rfl
 have c4 := box_cell X2.out 4 rfl
 have c5 := box_cell X2.out 5 rfl
 have c6 := box_cell X2.out 6 rfl
 have c7 := box_cell X2.out 7 rfl
 have c8 := box_cell X2.out 8 rfl
 have c9 := box_cell X2.out 9 rfl
 have c10 := box_cell X2.out 10 rfl
 have c11 := box_cell X2.out 11 rfl
 have c12 := box_cell X2.out 12 rfl
 have c13 := box_cell X2.out 13 rfl
 have c14 := box_cell X2.out 14 rfl
 have c15 := box_cell X2.out 15 rfl
 have c16 := box_cell X2.out 16 rfl
 have c17 := box_cell X2.out 17 rfl
 have c18 := box_cell X2.out 18 rfl
 have c19 := box_cell X2.out 19 rfl
 have c20 := box_cell X2.out 20 rfl
 have c21 := box_cell X2.out 21 rfl
 have c22 := box_cell X2.out 22 rfl
 have c23 := box_cell X2.out 23 rfl
 go_enter Tryz.func58, Tryz.ntmps58
 go_wp2_with fail
 refine (within_any m.num 1 1073741824 w2).mono ?_
 rintro e w3 ⟨rfl, rfl⟩
 cases hn : inB m.num 1 1073741824 with
 | false =>
  rw [hn] at HE
  clear hn; have HD := hid (show false = msgB m from by rw [HE.out]; rfl); go_wp2
  go_ret
  exact ⟨Book.ret_b HD.out, B2.out⟩
 | true =>
  rw [hn] at HE
  clear hn
  by_cases hk1 : m.kind = 1
  · rw [if_pos hk1] at HE
    have hq : (m.kind == 1) = true := by rw [hk1]; rfl
    clear hk1
    as_aux_lemma =>
     go_wp2_with fail
     refine (noEventB_any m.event LA lc IA ic MA mc RA rc w2 (H.out.pod.below B2.out)).mono ?_
     rintro e w3 ⟨rfl, hb3⟩; clear hw2; have B3 := hid (B2.out.trans (hb3.mono B2.out.size)); have X3 := hid ((hb3.block w.heap.size (lt_of_block X2.out)).trans X2.out); clear hb3 X2; clear c0 c1 c2 c3 c4 c5 c6 c7 c8 c9 c10 c11 c12 c13 c14 c15 c16 c17 c18 c19 c20 c21 c22 c23
     as_aux_lemma =>
      have c2 := box_cell X3.out 2 rfl
      have c3 := box_cell X3.out 3 rfl
      have c4 := box_cell X3.out 4 rfl
      have c5 := box_cell X3.out 5 rfl
      have c6 := box_cell X3.out 6 rfl
      have c7 := box_cell X3.out 7 rfl
      have c8 := box_cell X3.out 8 rfl
      cases h1 : noEventB m.event with
      | false =>
       rw [h1] at HE
       clear h1; have HD := hid (show false = msgB m from by rw [HE.out]; rfl); go_wp2
       go_ret
       exact ⟨Book.ret_b HD.out, B3.out⟩
      | true =>
       rw [h1] at HE
       clear h1; go_wp2_with fail
       refine (replyB_any m.reply PA pc UA uc w3 HLT.out.reply (HL.out.below B3.out) (H.out.reply.below B3.out)).mono ?_
       rintro e w4 ⟨rfl, hb4⟩; have B4 := hid (B3.out.trans (hb4.mono B3.out.size)); clear hb4; obtain ⟨z, hz⟩ : ∃ z, replyB m.reply = z := ⟨_, rfl⟩
       rw [hz] at HE ⊢
       clear hz; have HD := hid (show z = msgB m from by rw [HE.out]; simp); go_wp2
       go_ret
       exact ⟨Book.ret_b HD.out, B4.out⟩
  by_cases hk2 : m.kind = 2
  · rw [if_neg hk1, if_pos hk2] at HE
    have hq : (m.kind == 1) = false := by rw [hk2]; rfl
    have hq2 : (m.kind == 2) = true := by rw [hk2]; rfl
    clear hk1 hk2
    as_aux_lemma =>
     go_wp2_with fail
     refine (noReplyB_any m.reply PA pc UA uc w2).mono ?_
     rintro e w3 ⟨rfl, hb3⟩; clear hw2; have B3 := hid (B2.out.trans (hb3.mono B2.out.size)); have X3 := hid ((hb3.block w.heap.size (lt_of_block X2.out)).trans X2.out); clear hb3 X2; clear c0 c1 c2 c3 c4 c5 c6 c7 c8 c9 c10 c11 c12 c13 c14 c15 c16 c17 c18 c19 c20 c21 c22 c23
     as_aux_lemma =>
      have c9 := box_cell X3.out 9 rfl
      have c10 := box_cell X3.out 10 rfl
      have c11 := box_cell X3.out 11 rfl
      have c12 := box_cell X3.out 12 rfl
      have c13 := box_cell X3.out 13 rfl
      have c14 := box_cell X3.out 14 rfl
      have c15 := box_cell X3.out 15 rfl
      have c16 := box_cell X3.out 16 rfl
      have c17 := box_cell X3.out 17 rfl
      have c18 := box_cell X3.out 18 rfl
      have c19 := box_cell X3.out 19 rfl
      have c20 := box_cell X3.out 20 rfl
      have c21 := box_cell X3.out 21 rfl
      have c22 := box_cell X3.out 22 rfl
      have c23 := box_cell X3.out 23 rfl
      cases h1 : noReplyB m.reply with
      | false =>
       rw [h1] at HE
       clear h1; have HD := hid (show false = msgB m from by rw [HE.out]; rfl); go_wp2
       go_ret
       exact ⟨Book.ret_b HD.out, B3.out⟩
      | true =>
       rw [h1] at HE
       clear h1; go_wp2_with fail
       refine (eventB_any m.event LA lc IA ic MA mc RA rc w3 HLT.out.pod (HL.out.below B3.out) (H.out.pod.below B3.out)).mono ?_
       rintro e w4 ⟨rfl, hb4⟩; have B4 := hid (B3.out.trans (hb4.mono B3.out.size)); clear hb4; obtain ⟨z, hz⟩ : ∃ z, eventB m.event = z := ⟨_, rfl⟩
       rw [hz] at HE ⊢
       clear hz; have HD := hid (show z = msgB m from by rw [HE.out]; simp); go_wp2
       go_ret
       exact ⟨Book.ret_b HD.out, B4.out⟩
  rw [if_neg hk1, if_neg hk2] at HE
  have hq : (m.kind == 1) = false := by rw [beq_eq_false_iff_ne]; exact hk1
  have hq2 : (m.kind == 2) = false := by rw [beq_eq_false_iff_ne]; exact hk2
  clear hk1 hk2; have HD := hid (show false = msgB m from by rw [HE.out]; rfl); go_wp2
  go_ret
  exact ⟨Book.ret_b HD.out, B2.out⟩
theorem check_code (m : Mg) (PA : Option Addr) (pc : Nat) (UA : Option Addr) (uc : Nat) (LA : Option Addr) (lc : Nat) (IA : Option Addr) (ic : Nat) (MA : Option Addr) (mc : Nat) (RA : Option Addr) (rc : Nat) (w : World) (hLt : LightM m) (hL : SLaid w) (h : m.In w PA UA LA lc IA ic MA mc RA) :
 Calls Tryz.prog 24 #[.agg (M24 m PA pc UA uc LA lc IA ic MA mc RA rc).toArray] w fun e w' => e = .returned (.int .i64 (bif msgB m then 0 else 4)) ∧ Below w.heap.size w w' := by
 have HLT := hid hLt
 have HL := hid hL
 have H := hid h
 clear hLt hL h
 obtain ⟨w2, hw2⟩ : ∃ v, w.alloc (.cells (M24 m PA pc UA uc LA lc IA ic MA mc RA rc).toArray 50) = v := ⟨_, rfl⟩
 have B2 := hid (show Below w.heap.size w w2 by rw [← hw2]; exact (Below.refl _ _).alloc (Nat.le_refl _) _)
 have X2 := hid (show w2.heap[w.heap.size]? = some (.cells (M24 m PA pc UA uc LA lc IA ic MA mc RA rc).toArray 50) by rw [← hw2]; exact heap_alloc_new w _)
 have RG := hid (range_at X2.out 0 (M24 m PA pc UA uc LA lc IA ic MA mc RA rc) rfl)
 go_enter Tryz.func24, Tryz.ntmps24
 go_wp2_with (refine wpList_load_mid rfl _ _ rfl _ _ rfl _ _ RG.out Tryz.underlying50 rfl (by kernel_rfl) ?_)
 refine (msgB_any m PA pc UA uc LA lc IA ic MA mc RA rc w2 HLT.out (HL.out.below B2.out) (H.out.below B2.out)).mono ?_
 rintro e w3 ⟨rfl, hb3⟩
 clear hw2 RG
 have B3 := hid (B2.out.trans (hb3.mono B2.out.size))
 have X3 := hid ((hb3.block w.heap.size (lt_of_block X2.out)).trans X2.out)
 clear hb3 X2
 as_aux_lemma =>
  go_wp2_with fail
  refine (shape_any (msgB m) w3).mono ?_
  rintro e w4 ⟨rfl, rfl⟩; go_wp2
  go_ret
  exact ⟨rfl, B3.out⟩
structure PodParts (p : Pd) : Prop where
 uid : uidC.ok p.uid
 rev : revC.ok p.rev
 spec : specC.ok p.spec
 phase : phaseC.ok p.phase
 len : p.rs.length = p.spec.main.length
 rs : ∀ x ∈ p.rs, uidC.ok x
 mark : markC.ok p.mark
 grace : graceC.ok p.grace
theorem pod_parts {p : Pd} (h : podC.ok p) : PodParts p := ⟨h.1.1.1, h.1.1.2.1, h.1.1.2.2.1, h.1.1.2.2.2, h.1.2.1.1, h.1.2.1.2, h.1.2.2.1, h.1.2.2.2⟩
structure ReplyParts (y : Rp) : Prop where
 code : codeC.ok y.code
 uid : uidC.ok y.uid
 id : uidC.ok y.id
 rev : revC.ok y.rev
 data : y.data.size ≤ 32
 np : y.pods.length ≤ 16
 pods : ∀ p ∈ y.pods, podC.ok p
 nu : y.use.length ≤ 4
 use : ∀ u ∈ y.use, resC.ok u
theorem reply_parts {y : Rp} (h : replyC.ok y) : ReplyParts y := ⟨h.1.1, h.1.2.1, h.1.2.2.1, h.1.2.2.2.1, h.1.2.2.2.2.1, h.1.2.2.2.2.2.1.1, h.1.2.2.2.2.2.1.2, h.1.2.2.2.2.2.2.1, h.1.2.2.2.2.2.2.2⟩
theorem pod_sure {p : Pd} (h : podB p = true) : (checkV p.spec).1 = 0 := by
 unfold podB at h
 simp only [Bool.and_eq_true, decide_eq_true_eq] at h
 exact h.1.1.1.1.1.2
theorem msg_parts {m : Mg} (h : msgB m = true) (hr : revsM m) :
 (m.kind = 1 ∧ replyC.ok m.reply ∧ (∀ p ∈ m.reply.pods, podC.ok p ∧ (checkV p.spec).1 = 0) ∧ m.event = zeroE) ∨
 (m.kind = 2 ∧ eventC.ok m.event ∧ (hasB m.event.kind = true → podC.ok m.event.pod ∧ (checkV m.event.pod.spec).1 = 0) ∧ m.reply = zeroR) := by
 unfold msgB at h
 rw [Bool.and_eq_true] at h
 obtain ⟨h0, h⟩ := h
 split at h
 · next e =>
   rw [Bool.and_eq_true] at h
   refine .inl ⟨e, reply_ok h.2 hr.1, fun p hp => ?_, (noEvent_iff _).1 h.1⟩
   have h2 := h.2
   unfold replyB at h2
   simp only [Bool.and_eq_true, decide_eq_true_eq, List.all_eq_true] at h2
   have h3 := h2.1.1.2 p hp
   exact ⟨pod_ok h3 (hr.1.2 p hp), pod_sure h3⟩
 · split at h
   · next e =>
     rw [Bool.and_eq_true] at h
     refine .inr ⟨e, event_ok h.2 hr.2.1 hr.2.2, fun hk => ?_, (noReply_iff _).1 h.1⟩
     have h2 := h.2
     unfold eventB at h2
     rw [hk, Bool.true_and, Bool.or_eq_true, Bool.and_eq_true] at h2
     have h3 : podB m.event.pod = true := by
      rcases h2 with h2 | h2
      · exact h2
      · have h4 := inB_iff.1 h2.1
        have h5 := inB_iff.1 hk
        omega
     exact ⟨pod_ok h3 hr.2.2, pod_sure h3⟩
   · simp at h
theorem reply_wrR (g : Nat) (D : Nat → Prop) (c : Int) (xs : List UInt8) (y : Rp) (PA : Option Addr) (pc : Nat) (UA : Option Addr) (uc : Nat) (hok : replyC.ok y) (hr : y.rev < 18446744073709551616) (hp : y.pods = []) (hu : y.use = []) (hz : xs.length + 10000 ≤ 140737488355328) (w0 w : World) (hb : Below w0.heap.size w0 w) (hD : ∀ k, k < w0.heap.size → D k) (h : Wr w g D c xs) :
 Calls Tryz.prog 62 #[.pointer (some ⟨g, 0, none⟩), .agg (Y7 y PA pc UA uc).toArray] w fun e w' => e = .returned (.tuple #[]) ∧ Wr w' g D c (addB c xs (replyC.put y)) ∧ Kept D w w' := by
 have HZ := hid hz
 have HB := hid hb
 have HD := hid hD
 have HR := hid (reply_parts hok)
 have HRV := hid hr
 have HP0 := hid hp
 have HU0 := hid hu
 have L1 := hid (show (codeC.put y.code).length ≤ 10 from int_put_len (reply_parts hok).code)
 have L2 := hid (show (uidC.put y.uid).length ≤ 10 from int_put_len (reply_parts hok).uid)
 have L3 := hid (show (uidC.put y.id).length ≤ 10 from int_put_len (reply_parts hok).id)
 have L4 := hid (leb_le_ten (n := y.rev) hr)
 have L5 := hid (show (dataC.put y.data).length ≤ 10 + 32 from txB_le (reply_parts hok).data)
 have L6 := hid (leb_le_ten (n := y.pods.length) (by rw [hp]; decide))
 have L7 := hid (leb_le_ten (n := y.use.length) (by rw [hu]; decide))
 have hnp' : ¬ (0 : Int) < (y.pods.length : Int) := by rw [hp]; decide
 have hnu' : ¬ (0 : Int) < (y.use.length : Int) := by rw [hu]; decide
 clear hok hz hb hD hr hp hu
 obtain ⟨w1, hw1⟩ : ∃ v, w.alloc (.cells (Y7 y PA pc UA uc).toArray 46) = v := ⟨_, rfl⟩
 have hb1 : Below w.heap.size w w1 := by rw [← hw1]; exact (Below.refl _ _).alloc (Nat.le_refl _) _
 have X1 := hid (show w1.heap[w.heap.size]? = some (.cells (Y7 y PA pc UA uc).toArray 46) by rw [← hw1]; exact heap_alloc_new w _)
 obtain ⟨D1, hD1⟩ : ∃ D1 : Nat → Prop, D1 = fun k => D k ∨ k = w.heap.size := ⟨_, rfl⟩
 have HD1 := hid hD1
 have HDX := hid (show D1 w.heap.size by rw [hD1]; exact .inr rfl)
 have HDD := hid (show ∀ k, D k → D1 k from fun k hk => by rw [hD1]; exact .inl hk)
 have HW1 := hid (show Wr w1 g D1 c xs by rw [hD1, ← hw1]; exact h.alloc _)
 have HK0 := hid (show Kept D w w1 from Kept.of_below hb1 (fun k hk => (h.1 k hk).1))
 have K1 := hid (Kept.refl D1 w1)
 have C1 := hid (HB.out.trans (hb1.mono HB.out.size))
 have HDL := hid (show ∀ k, k < w0.heap.size → D1 k from fun k hk => HDD.out k (HD.out k hk))
 clear hb1 hD1 h
 go_enter Tryz.func62, Tryz.ntmps62
 as_aux_lemma =>
  have c0 := box_cell X1.out 0 rfl
  have HRUN := hid (num_wr g D1 c xs (y.code) 999 (by decide) HR.out.code (by have HZ_ := HZ.out; have L1_ := L1.out; have L2_ := L2.out; have L3_ := L3.out; have L4_ := L4.out; have L5_ := L5.out; have L6_ := L6.out; have L7_ := L7.out; omega) w1 HW1.out); go_wp2_with fail
  refine HRUN.out.mono ?_
  rintro e w2 ⟨rfl, h_, k_⟩; have HW2 := hid (show Wr w2 g D1 c (addB c xs (codeC.put y.code)) from h_); have K2 := hid (K1.out.trans k_); have C2 := hid (C1.out.trans (k_.below HDL.out)); have X2 := hid ((k_.block w.heap.size HDX.out).trans X1.out); clear h_ k_ HRUN HW1 K1 C1 X1 hw1 c0
  as_aux_lemma =>
   have c1 := box_cell X2.out 1 rfl
   have HRUN := hid (num_wr g D1 c (addB c xs (codeC.put y.code)) (y.uid) 1073741824 (by decide) HR.out.uid (by have HZ_ := HZ.out; have L1_ := L1.out; have L2_ := L2.out; have L3_ := L3.out; have L4_ := L4.out; have L5_ := L5.out; have L6_ := L6.out; have L7_ := L7.out; have hz_ := addB_len c xs (codeC.put y.code); (try simp only [List.length_append] at hz_); omega) w2 HW2.out); go_wp2_with fail
   refine HRUN.out.mono ?_
   rintro e w3 ⟨rfl, h_, k_⟩
   rw [addB_two] at h_
   have HW3 := hid (show Wr w3 g D1 c (addB c xs (codeC.put y.code ++ uidC.put y.uid)) from h_); have K3 := hid (K2.out.trans k_); have C3 := hid (C2.out.trans (k_.below HDL.out)); have X3 := hid ((k_.block w.heap.size HDX.out).trans X2.out); clear h_ k_ HRUN HW2 K2 C2 X2 c1
   as_aux_lemma =>
    have c2 := box_cell X3.out 2 rfl
    have HRUN := hid (num_wr g D1 c (addB c xs (codeC.put y.code ++ uidC.put y.uid)) (y.id) 1073741824 (by decide) HR.out.id (by have HZ_ := HZ.out; have L1_ := L1.out; have L2_ := L2.out; have L3_ := L3.out; have L4_ := L4.out; have L5_ := L5.out; have L6_ := L6.out; have L7_ := L7.out; have hz_ := addB_len c xs (codeC.put y.code ++ uidC.put y.uid); (try simp only [List.length_append] at hz_); omega) w3 HW3.out); go_wp2_with fail
    refine HRUN.out.mono ?_
    rintro e w4 ⟨rfl, h_, k_⟩
    rw [addB_two] at h_
    have HW4 := hid (show Wr w4 g D1 c (addB c xs (codeC.put y.code ++ uidC.put y.uid ++ uidC.put y.id)) from h_); have K4 := hid (K3.out.trans k_); have C4 := hid (C3.out.trans (k_.below HDL.out)); have X4 := hid ((k_.block w.heap.size HDX.out).trans X3.out); clear h_ k_ HRUN HW3 K3 C3 X3 c2
    as_aux_lemma =>
     have c3 := box_cell X4.out 3 rfl
     have HRUN := hid (big_any g D1 c (addB c xs (codeC.put y.code ++ uidC.put y.uid ++ uidC.put y.id)) y.rev HRV.out (fun _ => (by have HZ_ := HZ.out; have L1_ := L1.out; have L2_ := L2.out; have L3_ := L3.out; have L4_ := L4.out; have L5_ := L5.out; have L6_ := L6.out; have L7_ := L7.out; have hz_ := addB_len c xs (codeC.put y.code ++ uidC.put y.uid ++ uidC.put y.id); (try simp only [List.length_append] at hz_); omega)) w4 HW4.out); go_wp2_with fail
     refine HRUN.out.mono ?_
     rintro e w5 ⟨rfl, h_, k_⟩
     rw [addB_two] at h_
     have HW5 := hid (show Wr w5 g D1 c (addB c xs (codeC.put y.code ++ uidC.put y.uid ++ uidC.put y.id ++ leb y.rev)) from h_); have K5 := hid (K4.out.trans k_); have C5 := hid (C4.out.trans (k_.below HDL.out)); have X5 := hid ((k_.block w.heap.size HDX.out).trans X4.out); clear h_ k_ HRUN HW4 K4 C4 X4 c3
     as_aux_lemma =>
      have c4 := box_cell X5.out 4 rfl
      have HRUN := hid (text_any g D1 c (addB c xs (codeC.put y.code ++ uidC.put y.uid ++ uidC.put y.id ++ leb y.rev)) y.data (by have h_ := HR.out.data; have q_ : (addB c xs (codeC.put y.code ++ uidC.put y.uid ++ uidC.put y.id ++ leb y.rev)).length + 1000 ≤ 140737488355328 := (by have HZ_ := HZ.out; have L1_ := L1.out; have L2_ := L2.out; have L3_ := L3.out; have L4_ := L4.out; have L5_ := L5.out; have L6_ := L6.out; have L7_ := L7.out; have hz_ := addB_len c xs (codeC.put y.code ++ uidC.put y.uid ++ uidC.put y.id ++ leb y.rev); (try simp only [List.length_append] at hz_); omega); omega) w5 HW5.out); go_wp2_with fail
      refine HRUN.out.mono ?_
      rintro e w6 ⟨rfl, h_, k_⟩
      rw [addB_two] at h_
      have HW6 := hid (show Wr w6 g D1 c (addB c xs (codeC.put y.code ++ uidC.put y.uid ++ uidC.put y.id ++ leb y.rev ++ dataC.put y.data)) from h_); have K6 := hid (K5.out.trans k_); have C6 := hid (C5.out.trans (k_.below HDL.out)); have X6 := hid ((k_.block w.heap.size HDX.out).trans X5.out); clear h_ k_ HRUN HW5 K5 C5 X5 c4
      as_aux_lemma =>
       have c5 := box_cell X6.out 5 rfl
       have HRUN := hid (num_nat g D1 c (addB c xs (codeC.put y.code ++ uidC.put y.uid ++ uidC.put y.id ++ leb y.rev ++ dataC.put y.data)) y.pods.length (by rw [HP0.out]; decide) (fun _ => (by have HZ_ := HZ.out; have L1_ := L1.out; have L2_ := L2.out; have L3_ := L3.out; have L4_ := L4.out; have L5_ := L5.out; have L6_ := L6.out; have L7_ := L7.out; have hz_ := addB_len c xs (codeC.put y.code ++ uidC.put y.uid ++ uidC.put y.id ++ leb y.rev ++ dataC.put y.data); (try simp only [List.length_append] at hz_); omega)) w6 HW6.out); go_wp2_with fail
       refine HRUN.out.mono ?_
       rintro e w7 ⟨rfl, h_, k_⟩
       rw [addB_two] at h_
       have HW7 := hid (show Wr w7 g D1 c (addB c xs (codeC.put y.code ++ uidC.put y.uid ++ uidC.put y.id ++ leb y.rev ++ dataC.put y.data ++ leb y.pods.length)) from h_); have K7 := hid (K6.out.trans k_); have C7 := hid (C6.out.trans (k_.below HDL.out)); have X7 := hid ((k_.block w.heap.size HDX.out).trans X6.out); clear h_ k_ HRUN HW6 K6 C6 X6 c5
       as_aux_lemma =>
        have c5 := box_cell X7.out 5 rfl
        go_wp2_with fail
        go_loopw [36] (fun i wr => i = .int .i64 0 ∧ wr = w7) (fun _ _ => 0)
        case atStart => exact ⟨rfl, rfl⟩
        case round =>
         obtain ⟨rfl, hwr⟩ := hrel
         rw [hwr]; clear hwr c5
         as_aux_lemma =>
          have c6 := box_cell X7.out 6 rfl
          have HRUN := hid (num_nat g D1 c (addB c xs (codeC.put y.code ++ uidC.put y.uid ++ uidC.put y.id ++ leb y.rev ++ dataC.put y.data ++ leb y.pods.length)) y.use.length (by rw [HU0.out]; decide) (fun _ => (by have HZ_ := HZ.out; have L1_ := L1.out; have L2_ := L2.out; have L3_ := L3.out; have L4_ := L4.out; have L5_ := L5.out; have L6_ := L6.out; have L7_ := L7.out; have hz_ := addB_len c xs (codeC.put y.code ++ uidC.put y.uid ++ uidC.put y.id ++ leb y.rev ++ dataC.put y.data ++ leb y.pods.length); (try simp only [List.length_append] at hz_); omega)) w7 HW7.out); go_wp2_with fail
          refine HRUN.out.mono ?_
          rintro e w8 ⟨rfl, h_, k_⟩
          rw [addB_two] at h_
          have HW8 := hid (show Wr w8 g D1 c (addB c xs (codeC.put y.code ++ uidC.put y.uid ++ uidC.put y.id ++ leb y.rev ++ dataC.put y.data ++ leb y.pods.length ++ leb y.use.length)) from h_); have K8 := hid (K7.out.trans k_); have C8 := hid (C7.out.trans (k_.below HDL.out)); have X8 := hid ((k_.block w.heap.size HDX.out).trans X7.out); clear h_ k_ HRUN HW7 K7 C7 X7 c6
          as_aux_lemma =>
           have c6 := box_cell X8.out 6 rfl
           go_wp2_with fail
           go_loopw [52] (fun i wr => i = .int .i64 0 ∧ wr = w8) (fun _ _ => 0)
           case atStart => exact ⟨rfl, rfl⟩
           case round =>
            obtain ⟨rfl, hwr⟩ := hrel
            rw [hwr]; clear hwr c6
            as_aux_lemma =>
             go_wp2
             go_end0
             refine ⟨rfl, ?_, HK0.out.trans (K8.out.mono HDD.out)⟩
             have hE : codeC.put y.code ++ uidC.put y.uid ++ uidC.put y.id ++ leb y.rev ++ dataC.put y.data ++ leb y.pods.length ++ leb y.use.length = replyC.put y := by
              rw [show replyC.put y = codeC.put y.code ++ (uidC.put y.uid ++ (uidC.put y.id ++ (leb y.rev ++ (dataC.put y.data ++ ((leb y.pods.length ++ y.pods.flatMap podC.put) ++ (leb y.use.length ++ y.use.flatMap resC.put)))))) from rfl, HP0.out, HU0.out]; simp only [List.flatMap_nil, List.append_nil, List.append_assoc]
             have hW_ := HW8.out
             rw [hE] at hW_
             exact hW_.less HDD.out
theorem bytes_R (m : Mg) (PA : Option Addr) (pc : Nat) (UA : Option Addr) (uc : Nat) (LA : Option Addr) (lc : Nat) (IA : Option Addr) (ic : Nat) (MA : Option Addr) (mc : Nat) (RA : Option Addr) (rc : Nat) (w : World) (hLt : LightM m) (hL : SLaid w) (h : m.In w PA UA LA lc IA ic MA mc RA) (hmb : msgB m = true) (hkd : m.kind = 1) (hp : m.reply.pods = []) (hu : m.reply.use = []) :
 Calls Tryz.prog 26 #[.agg (M24 m PA pc UA uc LA lc IA ic MA mc RA rc).toArray] w fun e w' => Below w.heap.size w w' ∧ ((msgB m = true ∧ e = .returned (.tuple #[.string ⟨(msgC.put m).toArray⟩, .int .i64 0])) ∨ (msgB m = false ∧ e = .returned (.tuple #[.string ⟨#[]⟩, .int .i64 4]))) := by
 have HLT := hid hLt
 have HL := hid hL
 have H := hid h
 have HKD := hid hkd
 have HP0 := hid hp
 have HU0 := hid hu
 clear hkd hp hu hmb
 obtain ⟨w1, hw1⟩ : ∃ v, w.alloc (.cells (M24 m PA pc UA uc LA lc IA ic MA mc RA rc).toArray 50) = v := ⟨_, rfl⟩
 have B1 := hid (show Below w.heap.size w w1 by rw [← hw1]; exact (Below.refl _ _).alloc (Nat.le_refl _) _)
 have X1 := hid (show w1.heap[w.heap.size]? = some (.cells (M24 m PA pc UA uc LA lc IA ic MA mc RA rc).toArray 50) by rw [← hw1]; exact heap_alloc_new w _)
 have RG := hid (range_at X1.out 0 (M24 m PA pc UA uc LA lc IA ic MA mc RA rc) rfl)
 clear h hL hLt
 go_enter Tryz.func26, Tryz.ntmps26
 go_wp2_with (refine wpList_load_mid rfl _ _ rfl _ _ rfl _ _ RG.out Tryz.underlying50 rfl (by kernel_rfl) ?_)
 refine (check_code m PA pc UA uc LA lc IA ic MA mc RA rc w1 HLT.out (HL.out.below B1.out) (H.out.below B1.out)).mono ?_
 rintro e w2 ⟨rfl, hb2⟩
 have B2 := hid (B1.out.trans (hb2.mono B1.out.size))
 have X2 := hid ((hb2.block w.heap.size (lt_of_block X1.out)).trans X1.out)
 clear hb2 X1 RG hw1 B1
 obtain ⟨b, hb⟩ : ∃ b, msgB m = b := ⟨_, rfl⟩
 rw [hb]
 have HB1 := hid hb
 clear hb
 cases b with
 | false =>
  go_wp2
  go_ret2
  exact ⟨B2.out, .inr ⟨HB1.out, rfl⟩⟩
 | true =>
  go_wp2_with fail
  refine (write_any w2).mono ?_
  rintro e w3 ⟨rfl, h3, hb3, _⟩; have B3 := hid (B2.out.trans (hb3.mono B2.out.size)); have X3 := hid ((hb3.block w.heap.size (lt_of_block X2.out)).trans X2.out)
  have hgx : w.heap.size < w2.heap.size := lt_of_block X2.out
  obtain ⟨g, hg⟩ : ∃ g, w2.heap.size = g := ⟨_, rfl⟩
  rw [hg] at h3 hgx ⊢
  obtain ⟨DD, hDD⟩ : ∃ DD : Nat → Prop, DD = (· < g) := ⟨_, rfl⟩; have HDG := hid (show ∀ k, k < w.heap.size + 1 → DD k from fun k hk => by rw [hDD]; show k < g; omega); have H3 := hid (show Wr w3 g DD 0 [] by rw [hDD]; exact h3); have HOK := hid (msg_ok HB1.out H.out.revs); clear h3 hb3 hg hDD hgx X2 B2
  as_aux_lemma =>
   have c0 := box_cell X3.out 0 rfl
   have HRUN := hid (num_wr g DD 0 [] m.kind 2 (by decide) HOK.out.1.1.1 (by decide) w3 H3.out); go_wp2_with fail
   refine HRUN.out.mono ?_
   rintro e w4 ⟨rfl, h_, k_⟩
   rw [addB_no, List.nil_append] at h_
   have H4 := hid (show Wr w4 g DD 0 (mkindC.put m.kind) from h_); have X4 := hid ((k_.block w.heap.size (HDG.out _ (by omega))).trans X3.out); have B4 := hid (B3.out.trans (k_.below (fun k hk => HDG.out k (by omega)))); clear h_ k_ HRUN X3 H3 B3 c0
   as_aux_lemma =>
    have L1 : (mkindC.put m.kind).length ≤ 10 := int_put_len HOK.out.1.1.1
    have L2 : (uidC.put m.num).length ≤ 10 := int_put_len HOK.out.1.1.2
    have HL12 := hid (show (mkindC.put m.kind ++ uidC.put m.num).length ≤ 20 by rw [List.length_append]; omega)
    have c1 := box_cell X4.out 1 rfl
    have HRUN := hid (num_wr g DD 0 (mkindC.put m.kind) m.num 1073741824 (by decide) HOK.out.1.1.2 (by omega) w4 H4.out); clear L1 L2; go_wp2_with fail
    refine HRUN.out.mono ?_
    rintro e w6 ⟨rfl, h_, k_⟩
    rw [addB_no] at h_
    have H6 := hid (show Wr w6 g DD 0 (mkindC.put m.kind ++ uidC.put m.num) from h_); have X6 := hid ((k_.block w.heap.size (HDG.out _ (by omega))).trans X4.out); have B6 := hid (B4.out.trans (k_.below (fun k hk => HDG.out k (by omega)))); clear h_ k_ HRUN X4 H4 B4 c1; have HLEN := hid (show (mkindC.put m.kind ++ uidC.put m.num).length + 2000000000 ≤ 140737488355328 by have := HL12.out; omega); have HPARTS := hid (msg_parts HB1.out H.out.revs)
    have c0 : w6.cell? _ = some (.int .i64 m.kind) := box_cell X6.out 0 rfl
    rcases HPARTS.out with ⟨hk, hyo, hyp, he⟩ | ⟨hk, huo, hup, he⟩
    · have HK := hid hk
      have HE := hid he
      rw [hk] at c0
      clear hk he
      as_aux_lemma =>
       have RG := hid (range_at X6.out 2 (Y7 m.reply PA pc UA uc) rfl); have HRUN := hid (reply_wrR g DD 0 _ m.reply PA pc UA uc hyo H.out.revs.1.1 HP0.out HU0.out (by have := HLEN.out; omega) w w6 B6.out (fun k hk => HDG.out k (by omega)) H6.out)
       go_wp2_with (refine wpList_load_mid rfl _ _ rfl _ _ rfl _ _ RG.out Tryz.underlying46 rfl (by kernel_rfl) ?_)
       refine HRUN.out.mono ?_
       rintro e w7 ⟨rfl, h_, k_⟩
       rw [addB_no] at h_
       have H7 := hid h_
       have B7 := hid (B6.out.trans (k_.below (fun k hk => HDG.out k (by omega)))); clear h_ k_ HRUN RG X6 H6 B6
       as_aux_lemma =>
        have hE : ((mkindC.put m.kind ++ uidC.put m.num) ++ replyC.put m.reply) = msgC.put m := by
         rw [show msgC.put m = (mkindC.put m.kind ++ uidC.put m.num) ++ (bodyC m.kind).put (m.reply, m.event) from rfl]
         unfold bodyC
         rw [if_pos HK.out]
         rfl
        have h7 := H7.out
        rw [hE] at h7
        have HRUN := hid (end_ok g DD _ w7 h7); clear h7 H7; go_wp2_with fail
        refine HRUN.out.mono ?_
        rintro e w9 ⟨rfl, rfl⟩; go_wp2
        go_ret2
        exact ⟨B7.out, .inl ⟨HB1.out, rfl⟩⟩
    · rw [HKD.out] at hk; exact absurd hk (by decide)
end Tl
end Go.Proofs.YtljbpelogjmciaaGreatDoor
