/-
  The document's words of what may be a spec, in plain functions: the first code, and the path's text. No condition.
-/
import Derived.Test.YtbichomjpmmjmaaGreatDoorNu0
import Derived.Test.YtbichomjpmmjmaaGreatDoorChecked
import Derived.Test.YtbichomjpmmjmaaGreatDoorShelf
import Derived.Lib.ItoaLen
import Derived.Lib.Hide
import Derived.Lib.LaidTab
import Derived.Lib.ItoaNum
import Derived.Sort.Grow
import Derived.Deep.Draws
import Derived.WalkKit
import Derived.OpenShut
import Derived.ProofKit
import Derived.Laws.BytesArg
import Derived.Lib.AtoiAll
import Derived.ShutString
import Derived.Laws.OwnMore
import Derived.StillTailTactics
import Derived.Laws.Concat
import Derived.Deep.QuietTactic
import Derived.BigQuiet
import Derived.IntWalk
namespace Go.Proofs.YtbichomjpmmjmaaGreatDoor
open TextPure
namespace Sd
def isName (s : ByteArray) : Bool := nameL s.data.toList
def isKey (s : ByteArray) : Bool := keyL s.data.toList
def isVal (s : ByteArray) : Bool := valL s.data.toList
def isImage (s : ByteArray) : Bool := imageL s.data.toList
/-- a name, a number between brackets -/
def atB (name : ByteArray) (i : Nat) : ByteArray := name ++ ⟨#[91]⟩ ++ ⟨(Lib.itoa (i : Int)).toArray⟩ ++ ⟨#[93]⟩
def t_name : ByteArray := ⟨#[110, 97, 109, 101]⟩
def t_labels : ByteArray := ⟨#[108, 97, 98, 101, 108, 115]⟩
def t_key : ByteArray := ⟨#[46, 107, 101, 121]⟩
def t_val : ByteArray := ⟨#[46, 118, 97, 108]⟩
def t_init : ByteArray := ⟨#[105, 110, 105, 116]⟩
def t_main : ByteArray := ⟨#[109, 97, 105, 110]⟩
def t_image : ByteArray := ⟨#[105, 109, 97, 103, 101]⟩
def t_req : ByteArray := ⟨#[114, 101, 113, 46]⟩
def t_lim : ByteArray := ⟨#[108, 105, 109, 46]⟩
def t_cpu : ByteArray := ⟨#[99, 112, 117]⟩
def t_mem : ByteArray := ⟨#[109, 101, 109]⟩
def t_pids : ByteArray := ⟨#[112, 105, 100, 115]⟩
def t_ports : ByteArray := ⟨#[112, 111, 114, 116, 115]⟩
def t_every : ByteArray := ⟨#[112, 114, 111, 98, 101, 46, 101, 118, 101, 114, 121]⟩
def t_fails : ByteArray := ⟨#[112, 114, 111, 98, 101, 46, 102, 97, 105, 108, 115]⟩
def t_restart : ByteArray := ⟨#[114, 101, 115, 116, 97, 114, 116]⟩
def t_grace : ByteArray := ⟨#[103, 114, 97, 99, 101]⟩
def t_prio : ByteArray := ⟨#[112, 114, 105, 111]⟩
/-- what is told: a code, and a path's text; nothing is wrong: 0, and no text -/
abbrev Say := Int × ByteArray
def fine : Say := (0, ⟨#[]⟩)
/-- is a label not greater than the one ahead? -/
def notMore (p : Option Lbl) (x : Lbl) : Bool := match p with
  | none => false
  | some q => !(Op.bytesLess q.key.toList x.key.toList)
/-- the labels from number i on, the one ahead being known -/
def labelsFrom (name : ByteArray) : Nat → Option Lbl → List Lbl → Say
  | _, _, [] => fine
  | i, p, x :: l =>
    if isKey x.key = false then (31, atB name i ++ t_key)
    else if notMore p x = true then (4, atB name i ++ t_key)
    else if isVal x.val = false then (32, atB name i ++ t_val)
    else labelsFrom name (i + 1) (some x) l
theorem labelsFrom_cons (name : ByteArray) (i : Nat) (p : Option Lbl) (x : Lbl) (l : List Lbl) : labelsFrom name i p (x :: l) =
    if isKey x.key = false then (31, atB name i ++ t_key) else if notMore p x = true then (4, atB name i ++ t_key) else if isVal x.val = false then (32, atB name i ++ t_val) else labelsFrom name (i + 1) (some x) l := by
  cases p <;> rfl
def labelsV (name : ByteArray) (l : List Lbl) : Say := if 4 < l.length then (2, name) else labelsFrom name 0 none l
def big : Int := 1099511627776
/-- the first of three numbers out of bounds: which -/
def numV (free : Bool) (n least : Int) : Bool := (!free || n != 0) && (decide (n < least) || decide (big < n))
def numsV (free : Bool) (n0 n1 n2 l0 l1 l2 : Int) : Int := if numV free n0 l0 then 0 else if numV free n1 l1 then 1 else if numV free n2 l2 then 2 else -1
def t_res (k : Int) : ByteArray := if k = 0 then t_cpu else if k = 1 then t_mem else t_pids
/-- is a port one of these containers'? -/
def hasV (l : List Ctr) (p : Int) : Bool := l.any fun c => c.ports.contains p
/-- the ports from number k on, those ahead in the container being known -/
def portsFrom (ahead : List Ctr) : Nat → List Int → List Int → Say
  | _, _, [] => fine
  | k, seen, p :: l =>
    if p < 1 ∨ 65535 < p then (1, atB t_ports k)
    else if hasV ahead p || seen.contains p then (150, atB t_ports k)
    else portsFrom ahead (k + 1) (seen ++ [p]) l
/-- a probe -/
def probeV (ev fl : Int) (init : Bool) : Say :=
  if ev < 0 ∨ 1000 < ev ∨ (init = true ∧ 0 < ev) then (1, t_every)
  else if (ev = 0 ∧ fl ≠ 0) ∨ (0 < ev ∧ (fl < 1 ∨ 10 < fl)) then (1, t_fails)
  else fine
/-- a container, behind others -/
def oneV (x : Ctr) (ahead : List Ctr) (init : Bool) : Say :=
  if isName x.name = false then (30, t_name)
  else if ahead.any (fun c => c.name.toList == x.name.toList) then (7, t_name)
  else if isImage x.image = false then (33, t_image)
  else if 0 ≤ numsV false x.rc x.rm x.rp 0 0 0 then (1, t_req ++ t_res (numsV false x.rc x.rm x.rp 0 0 0))
  else if 0 ≤ numsV true x.lc x.lm x.lp x.rc x.rm x.rp then (1, t_lim ++ t_res (numsV true x.lc x.lm x.lp x.rc x.rm x.rp))
  else if 3 < x.ports.length ∨ (init = true ∧ 0 < x.ports.length) then (2, t_ports)
  else if (portsFrom ahead 0 [] x.ports).1 ≠ 0 then portsFrom ahead 0 [] x.ports
  else probeV x.ev x.fl init
/-- the containers from number i on, those ahead being known -/
def ctrsFrom (name : ByteArray) (init : Bool) : Nat → List Ctr → List Ctr → Say
  | _, _, [] => fine
  | i, ahead, x :: l => if (oneV x ahead init).1 ≠ 0 then ((oneV x ahead init).1, atB name i ++ ⟨#[46]⟩ ++ (oneV x ahead init).2) else ctrsFrom name init (i + 1) (ahead ++ [x]) l
/-- what stands behind the lists -/
def tailV (S : Spc) : Say :=
  if S.restart < 1 ∨ 3 < S.restart then (1, t_restart)
  else if S.grace < 0 ∨ 1000 < S.grace then (1, t_grace)
  else if S.prio < 0 ∨ 10 < S.prio then (1, t_prio)
  else fine
/-- a spec -/
def checkV (S : Spc) : Say :=
  if isName S.name = false then (30, t_name)
  else if (labelsV t_labels S.labels).1 ≠ 0 then labelsV t_labels S.labels
  else if 3 < S.init.length then (2, t_init)
  else if (ctrsFrom t_init true 0 [] S.init).1 ≠ 0 then ctrsFrom t_init true 0 [] S.init
  else if S.main.length < 1 ∨ 4 < S.main.length then (2, t_main)
  else if (ctrsFrom t_main false 0 S.init S.main).1 ≠ 0 then ctrsFrom t_main false 0 S.init S.main
  else tailV S
end Sd
end Go.Proofs.YtbichomjpmmjmaaGreatDoor

/-
  What an error of package fail says: a code and its path's text (nil: nothing is wrong), its steps lying in blocks of which something is known; fail.New of one step, fail.In, fail.First, fail.Code, fail.Text by it. Conditions: texts are not too long.
-/
namespace Go.Proofs.YtbichomjpmmjmaaGreatDoor
open Go.RowKit Err
namespace Sd
/-- the value E is the error of the code c with the path p, its steps in blocks of D -/
inductive IsIn (D : Nat → Prop) (w : World) : Value → Int → List ByteArray → Prop
  | code (c : Int) : IsIn D w (.iface 53 (.int .i64 c)) c []
  | step (b : Nat) (E : Value) (s : ByteArray) (c : Int) (p : List ByteArray) : D b → w.cell? ⟨b, 0, none⟩ = some (.string s) → w.cell? ⟨b, 1, none⟩ = some E → IsIn D w E c p →
      IsIn D w (.iface 157 (.pointer (some ⟨b, 0, none⟩))) c (s :: p)
theorem IsIn.is {D : Nat → Prop} {w : World} {E : Value} {c : Int} {p : List ByteArray} (h : IsIn D w E c p) : Is w E c p := by
  induction h with
  | code c => exact .code c
  | step b E s c p _ h0 h1 _ ih => exact .step b 0 E s c p h0 h1 ih
theorem IsIn.keep {D D' : Nat → Prop} {w w' : World} {E : Value} {c : Int} {p : List ByteArray} (h : IsIn D w E c p) (hd : ∀ b, D b → b < w.heap.size → D' b ∧ w'.heap[b]? = w.heap[b]?) : IsIn D' w' E c p := by
  induction h with
  | code c => exact .code c
  | step b E s c p hb h0 h1 _ ih =>
    obtain ⟨h2, h3⟩ := hd b hb (lt_of_cell h0)
    exact .step b E s c p h2 ((World.cell?_of_block (a := ⟨b, 0, none⟩) h3).trans h0) ((World.cell?_of_block (a := ⟨b, 1, none⟩) h3).trans h1) ih
theorem in_in {D : Nat → Prop} {w : World} {E : Value} {c : Int} {p : List ByteArray} (h : IsIn D w E c p) (s : ByteArray) :
    Calls Tryz.prog 92 #[E, .string s] w fun e w' => ∃ E', e = .returned E' ∧ IsIn (fun b => D b ∨ w.heap.size ≤ b) w' E' c (s :: p) ∧ Below w.heap.size w w' := by
  obtain ⟨u, x, rfl⟩ := h.is.iface
  refine (in_some u x s w).mono ?_
  rintro e w' ⟨rfl, rfl⟩
  refine ⟨_, rfl, ?_, (Below.refl _ _).alloc (Nat.le_refl _) _⟩
  exact .step _ _ _ _ _ (.inr (Nat.le_refl _)) (by simp) (by simp) (h.keep fun b hb hlt => ⟨.inl hb, ((Below.refl _ _).alloc (Nat.le_refl _) _).block b hlt⟩)
theorem new_in (c : Int) (hc : (c == 0) = false) (A : Option Addr) (cap : Nat) (xs : List ByteArray) (w : World) (hT : Texts w A xs) (hn : xs.length ≤ 9223372036854775807) :
    Calls Tryz.prog 74 #[.int .i64 c, .slice A xs.length cap] w fun e w' => ∃ E', e = .returned E' ∧ IsIn (fun b => w.heap.size ≤ b) w' E' c xs ∧ Below w.heap.size w w' := by
  have HT := Lib.hid hT
  clear hT
  go_enter Tryz.func74, Tryz.ntmps74
  go_wp2
  go_loopw [5, 6] (fun E i wr => ∃ (k : Nat) (z : Int), k ≤ xs.length ∧ i = .int .i64 z ∧ z = (k : Int) - 1 ∧ IsIn (fun b => w.heap.size ≤ b) wr E c (xs.drop k) ∧ Below w.heap.size w wr) (fun _ i _ => (RowKit.intOf i + 1).toNat)
  case atStart => exact ⟨xs.length, _, Nat.le_refl _, rfl, rfl, by rw [List.drop_length]; exact .code c, Below.refl _ _⟩
  case round =>
    obtain ⟨k, z, hk, rfl, hz, hE, hb⟩ := hrel
    rcases Nat.eq_zero_or_pos k with h0 | h0
    · obtain rfl : z = -1 := by omega
      subst h0
      have HE := Lib.hid hE
      clear hE hz
      go_wp2
      go_ret
      exact ⟨_, rfl, HE.out, hb⟩
    · obtain ⟨j, rfl⟩ : ∃ j, k = j + 1 := ⟨k - 1, by omega⟩
      obtain rfl : z = (j : Int) := by omega
      obtain ⟨a, rfl, hcell⟩ := (HT.out.below hb) j xs[j] (List.getElem?_eq_getElem (by omega))
      have HE := Lib.hid hE
      have Hz := Lib.hid hz
      clear hE hz
      have hj : (j : Int) < (xs.length : Int) := by omega
      go_wp2_with fail
      refine (in_in HE.out _).mono ?_
      rintro e w1 ⟨E1, rfl, h1, hb1⟩
      have H1 := Lib.hid (h1.keep (D' := fun b => w.heap.size ≤ b) (w' := w1) fun b hd _ => ⟨hd.elim (fun x => x) fun x => Nat.le_trans hb.size x, rfl⟩)
      clear h1
      go_wp2_with fail
      go_roundw
      case rel => exact ⟨j, (j : Int) - 1, by omega, rfl, rfl, by rw [List.drop_eq_getElem_cons (by omega)]; exact H1.out, hb.trans (hb1.mono hb.size)⟩
      case measure => simp [RowKit.intOf]
/-- the value E says y: nil, if nothing is wrong; else it is the error of y's code whose path reads as y's text -/
def Says (D : Nat → Prop) (w : World) (E : Value) (y : Say) : Prop :=
  (y = fine ∧ E = .nilIface) ∨ (y.1 ≠ 0 ∧ y.2.size ≤ 100000 ∧ ∃ p, IsIn D w E y.1 p ∧ p ≠ [] ∧ (⟨(pathText p).toArray⟩ : ByteArray) = y.2)
theorem Says.keep {D D' : Nat → Prop} {w w' : World} {E : Value} {y : Say} (h : Says D w E y) (hd : ∀ b, D b → b < w.heap.size → D' b ∧ w'.heap[b]? = w.heap[b]?) : Says D' w' E y := by
  rcases h with h | ⟨h0, hs, p, h1, h2, h4⟩
  · exact .inl h
  · exact .inr ⟨h0, hs, p, h1.keep hd, h2, h4⟩
theorem Says.form {D : Nat → Prop} {w : World} {E : Value} {y : Say} (h : Says D w E y) : E = .nilIface ∨ ∃ u x, E = .iface u x := by
  rcases h with ⟨_, h⟩ | ⟨_, _, p, h, _⟩
  · exact .inl h
  · exact .inr h.is.iface
theorem Says.nil_iff {D : Nat → Prop} {w : World} {E : Value} {y : Say} (h : Says D w E y) : E = .nilIface ↔ y.1 = 0 := by
  rcases h with ⟨rfl, h⟩ | ⟨h0, _, p, h, _⟩
  · simp [h, fine]
  · obtain ⟨u, x, rfl⟩ := h.is.iface
    simp [h0]
/-- a call ends with what says y, in new memory -/
def Tells (y : Say) (w : World) (e : Ending) (w' : World) : Prop := ∃ E, e = .returned E ∧ Says (fun b => w.heap.size ≤ b) w' E y ∧ Below w.heap.size w w'
theorem pathText_one (s : ByteArray) : (⟨(pathText [s]).toArray⟩ : ByteArray) = s := by
  apply ByteArray.ext
  show (pathText [s]).toArray = s.data
  simp [pathText, Lib.join_one]
theorem pathText_cons (s : ByteArray) {p : List ByteArray} (hp : p ≠ []) : (⟨(pathText (s :: p)).toArray⟩ : ByteArray) = s ++ ⟨#[46]⟩ ++ ⟨(pathText p).toArray⟩ := by
  rcases p with _ | ⟨q, p⟩
  · exact absurd rfl hp
  · apply ByteArray.ext
    show (pathText (s :: q :: p)).toArray = _
    simp [pathText, Lib.join_cons, Lib.joinTail, ByteArray.data_append]
/-- one step of a code -/
def newV (c : Int) (s : ByteArray) : Say := if c = 0 then fine else (c, s)
theorem new_says (c : Int) (s : ByteArray) (g cap : Nat) (w : World) (hs : s.size ≤ 100000) (hc : w.cell? ⟨g, 0, none⟩ = some (.string s)) :
    Calls Tryz.prog 74 #[.int .i64 c, .slice (some ⟨g, 0, none⟩) 1 cap] w (Tells (newV c s) w) := by
  by_cases h0 : c = 0
  · subst h0
    refine (new_ok _ w).mono ?_
    rintro e w' ⟨rfl, rfl⟩
    exact ⟨_, rfl, .inl ⟨if_pos rfl, rfl⟩, Below.refl _ _⟩
  · refine (new_in c (beq_eq_false_iff_ne.2 h0) (some ⟨g, 0, none⟩) cap [s] w ?_ (by simp)).mono ?_
    · intro k x hx
      rcases k with _ | k
      · simp at hx; subst hx; exact ⟨_, rfl, hc⟩
      · simp at hx
    · rintro e w' ⟨E, rfl, hE, hb⟩
      refine ⟨_, rfl, .inr ?_, hb⟩
      unfold newV
      rw [if_neg h0]
      exact ⟨h0, hs, [s], hE, by simp, pathText_one s⟩
/-- one step ahead -/
def inV (s : ByteArray) (y : Say) : Say := if y.1 = 0 then fine else (y.1, s ++ ⟨#[46]⟩ ++ y.2)
theorem in_says {D : Nat → Prop} {w : World} {E : Value} {y : Say} (h : Says D w E y) (s : ByteArray) (hs : s.size + y.2.size ≤ 90000) :
    Calls Tryz.prog 92 #[E, .string s] w fun e w' => ∃ E', e = .returned E' ∧ Says (fun b => D b ∨ w.heap.size ≤ b) w' E' (inV s y) ∧ Below w.heap.size w w' := by
  rcases h with ⟨rfl, rfl⟩ | ⟨h0, hs0, p, h1, h2, h4⟩
  · refine (in_nil s w).mono ?_
    rintro e w' ⟨rfl, rfl⟩
    exact ⟨_, rfl, .inl ⟨if_pos rfl, rfl⟩, Below.refl _ _⟩
  · refine (in_in h1 s).mono ?_
    rintro e w' ⟨E', rfl, hE, hb⟩
    refine ⟨_, rfl, .inr ?_, hb⟩
    unfold inV
    rw [if_neg h0]
    refine ⟨h0, ?_, s :: p, hE, by simp, ?_⟩
    · show (s ++ ⟨#[46]⟩ ++ y.2).size ≤ _
      rw [ByteArray.size_append, ByteArray.size_append]
      show _ + 1 + _ ≤ _
      omega
    · rw [pathText_cons s h2, h4]
/-- the first of some -/
def firstV : List Say → Say
  | [] => fine
  | y :: l => if y.1 = 0 then firstV l else y
theorem first_says {D : Nat → Prop} {w : World} : ∀ {Es : List Value} {ys : List Say}, Es.length = ys.length → (∀ (k : Nat) (E : Value) (y : Say), Es[k]? = some E → ys[k]? = some y → Says D w E y) → Says D w (firstOf Es) (firstV ys)
  | [], [], _, _ => .inl ⟨rfl, rfl⟩
  | [], _ :: _, h, _ => by simp at h
  | _ :: _, [], h, _ => by simp at h
  | E :: Es, y :: ys, hl, h => by
    have h0 := h 0 E y rfl rfl
    have ih := first_says (Es := Es) (ys := ys) (by simpa using hl) (fun k E' c' h1 h2 => h (k + 1) E' c' (by simpa using h1) (by simpa using h2))
    rcases h0 with ⟨rfl, rfl⟩ | ⟨hc, hsz, p, hE, hq⟩
    · simpa [firstV, firstOf, fine] using ih
    · obtain ⟨u, x, rfl⟩ := hE.is.iface
      have : Says D w (.iface u x) y := .inr ⟨hc, hsz, p, hE, hq⟩
      simpa [firstV, firstOf, hc] using this
end Sd
end Go.Proofs.YtbichomjpmmjmaaGreatDoor

/-
  The program's words of what may be a spec, part by part, as plain functions, and that they are the document's. No condition.
-/
namespace Go.Proofs.YtbichomjpmmjmaaGreatDoor
namespace Sd
def withinV (n l m : Int) (p : ByteArray) : Say := if n < l ∨ m < n then (1, p) else fine
def nameN (s : ByteArray) (N : List ByteArray) : Say := if isName s = false then (30, t_name) else if N.any (fun y => y.toList == s.toList) then (7, t_name) else fine
def nameAfter (s : ByteArray) (N : List ByteArray) : List ByteArray := if (nameN s N).1 = 0 then N ++ [s] else N
def imageN (s : ByteArray) : Say := newV (if isImage s = true then 0 else 33) t_image
def reqN (a b c : Int) : Say := firstV [withinV a 0 big (t_req ++ t_cpu), withinV b 0 big (t_req ++ t_mem), withinV c 0 big (t_req ++ t_pids)]
def limitV (n l : Int) (p : ByteArray) : Say := if n = 0 then fine else withinV n l big p
def limN (a b c d e f : Int) : Say := firstV [limitV a d (t_lim ++ t_cpu), limitV b e (t_lim ++ t_mem), limitV c f (t_lim ++ t_pids)]
/-- the ports from number k on, those of P being taken -/
def portsN (P : List Int) : Nat → List Int → Say
  | _, [] => fine
  | k, p :: l => if p < 1 ∨ 65535 < p then (1, atB t_ports k) else if P.contains p then (150, atB t_ports k) else portsN (P ++ [p]) (k + 1) l
def portsAfter (P : List Int) : List Int → List Int
  | [] => P
  | p :: l => if p < 1 ∨ 65535 < p then P else if P.contains p then P else portsAfter (P ++ [p]) l
def portsL (P : List Int) (most : Int) (l : List Int) : Say := if most < l.length then (2, t_ports) else portsN P 0 l
def portsLAfter (P : List Int) (most : Int) (l : List Int) : List Int := if most < l.length then P else portsAfter P l
def probeN (ev fl every : Int) : Say := firstV [withinV ev 0 every t_every, withinV fl (if ev = 0 then 0 else 1) (if ev = 0 then 0 else 10) t_fails]
def oneN (x : Ctr) (N : List ByteArray) (P : List Int) (most every : Int) : Say :=
  firstV [nameN x.name N, imageN x.image, reqN x.rc x.rm x.rp, limN x.lc x.lm x.lp x.rc x.rm x.rp, portsL P most x.ports, probeN x.ev x.fl every]
/-- the containers from number i on: what is said, and what is taken behind -/
def listFrom (name : ByteArray) (most every : Int) : Nat → List ByteArray → List Int → List Ctr → Say
  | _, _, _, [] => fine
  | i, N, P, x :: l => if (oneN x N P most every).1 = 0 then listFrom name most every (i + 1) (N ++ [x.name]) (P ++ x.ports) l else inV (atB name i) (oneN x N P most every)
def listN (name : ByteArray) (least most ports every : Int) (N : List ByteArray) (P : List Int) (l : List Ctr) : Say :=
  if (l.length : Int) < least ∨ most < (l.length : Int) then (2, name) else listFrom name ports every 0 N P l
theorem firstV_nil : firstV [] = fine := rfl
theorem firstV_cons (y : Say) (l : List Say) : firstV (y :: l) = if y.1 = 0 then firstV l else y := rfl
theorem nameAfter_fine {s : ByteArray} {N : List ByteArray} (h : (nameN s N).1 = 0) : nameAfter s N = N ++ [s] := if_pos h
theorem portsAfter_fine : ∀ {l : List Int} {P : List Int} {k : Nat}, (portsN P k l).1 = 0 → portsAfter P l = P ++ l
  | [], P, k, _ => by simp [portsAfter]
  | p :: l, P, k, h => by
    rw [portsN] at h
    rw [portsAfter]
    split at h
    · simp at h
    · rename_i h1
      rw [if_neg h1]
      split at h
      · simp at h
      · rename_i h2
        rw [if_neg h2, portsAfter_fine h, List.append_assoc]; rfl
theorem portsLAfter_fine {l : List Int} {P : List Int} {most : Int} (h : (portsL P most l).1 = 0) : portsLAfter P most l = P ++ l := by
  unfold portsL at h
  unfold portsLAfter
  split at h
  · simp at h
  · rename_i h1
    rw [if_neg h1]
    exact portsAfter_fine h
theorem portsAfter_len : ∀ (l : List Int) (P : List Int), (portsAfter P l).length ≤ P.length + l.length
  | [], P => by simp [portsAfter]
  | p :: l, P => by
    rw [portsAfter]
    split
    · simp
    · split
      · simp
      · have := portsAfter_len l (P ++ [p])
        simp at this ⊢; omega
theorem portsLAfter_len (l : List Int) (P : List Int) (most : Int) (h : 0 ≤ most) : ((portsLAfter P most l).length : Int) ≤ P.length + most := by
  unfold portsLAfter
  split
  · omega
  · have := portsAfter_len l P
    omega
theorem nameAfter_len (s : ByteArray) (N : List ByteArray) : (nameAfter s N).length ≤ N.length + 1 := by
  unfold nameAfter
  split <;> simp
theorem firstV_fine {l : List Say} (h : (firstV l).1 = 0) : ∀ y ∈ l, y.1 = 0 := by
  induction l with
  | nil => intro y hy; cases hy
  | cons z l ih =>
    rw [firstV_cons] at h
    split at h
    · rename_i h0
      intro y hy
      rcases List.mem_cons.1 hy with rfl | hy
      · exact h0
      · exact ih h y hy
    · rename_i h0
      exact absurd h h0
/-! the document's words -/
theorem any_names (l : List Ctr) (s : ByteArray) : (l.map (·.name)).any (fun y => y.toList == s.toList) = l.any (fun c => c.name.toList == s.toList) := by
  rw [List.any_map]; rfl
theorem has_ports (l : List Ctr) (p : Int) : (l.flatMap (·.ports)).contains p = hasV l p := by
  unfold hasV
  induction l with
  | nil => rfl
  | cons c l ih => simp only [List.flatMap_cons, List.any_cons]; rw [← ih]; simp
theorem portsN_from (a : List Ctr) : ∀ (l : List Int) (k : Nat) (seen : List Int), portsN (a.flatMap (·.ports) ++ seen) k l = portsFrom a k seen l
  | [], _, _ => rfl
  | p :: l, k, seen => by
    rw [portsN, portsFrom, List.append_assoc, portsN_from a l (k + 1) (seen ++ [p]), ← has_ports]
    have e : (a.flatMap (·.ports) ++ seen).contains p = ((a.flatMap (·.ports)).contains p || seen.contains p) := by simp
    rw [e]
theorem reqN_eq (a b c : Int) : reqN a b c = if 0 ≤ numsV false a b c 0 0 0 then (1, t_req ++ t_res (numsV false a b c 0 0 0)) else fine := by
  unfold reqN numsV numV withinV
  by_cases h1 : a < 0 ∨ big < a
  · have : (decide (a < 0) || decide (big < a)) = true := by simpa using h1
    simp [firstV, h1, this, t_res]
  · have e1 : (decide (a < 0) || decide (big < a)) = false := by simpa using h1
    by_cases h2 : b < 0 ∨ big < b
    · have : (decide (b < 0) || decide (big < b)) = true := by simpa using h2
      simp [firstV, h1, h2, e1, this, t_res, fine]
    · have e2 : (decide (b < 0) || decide (big < b)) = false := by simpa using h2
      by_cases h3 : c < 0 ∨ big < c
      · have : (decide (c < 0) || decide (big < c)) = true := by simpa using h3
        simp [firstV, h1, h2, h3, e1, e2, this, t_res, fine]
      · have e3 : (decide (c < 0) || decide (big < c)) = false := by simpa using h3
        simp [firstV, h1, h2, h3, e1, e2, e3, fine]
theorem numV_limit (n l : Int) (p : ByteArray) : limitV n l p = if numV true n l = true then (1, p) else fine := by
  unfold limitV withinV numV
  by_cases h : n = 0
  · simp [h]
  · by_cases h1 : n < l ∨ big < n
    · have : (decide (n < l) || decide (big < n)) = true := by simpa using h1
      simp [h, h1, this]
    · have : (decide (n < l) || decide (big < n)) = false := by simpa using h1
      simp [h, h1, this]
theorem limN_eq (a b c d e f : Int) : limN a b c d e f = if 0 ≤ numsV true a b c d e f then (1, t_lim ++ t_res (numsV true a b c d e f)) else fine := by
  unfold limN numsV
  rw [numV_limit, numV_limit, numV_limit]
  cases numV true a d <;> cases numV true b e <;> cases numV true c f <;> simp [firstV, fine, t_res]
theorem probeN_eq (ev fl : Int) (init : Bool) : probeN ev fl (if init = true then 0 else 1000) = probeV ev fl init := by
  unfold probeN probeV withinV
  cases init
  · simp only [Bool.false_eq_true, if_false, false_and, or_false]
    by_cases h1 : ev < 0 ∨ 1000 < ev
    · simp [firstV, h1]
    · by_cases h2 : ev = 0
      · subst h2
        by_cases h3 : fl = 0
        · subst h3; simp [firstV, fine]
        · have : fl < 0 ∨ 0 < fl := by omega
          simp [firstV, fine, h3, this]
      · have h4 : 0 < ev := by omega
        by_cases h3 : fl < 1 ∨ 10 < fl
        · simp [firstV, fine, h1, h2, h3, h4]
        · simp [firstV, fine, h1, h2, h3, h4]
  · simp only [if_true, true_and]
    by_cases h1 : ev < 0 ∨ 1000 < ev ∨ 0 < ev
    · have h0 : ev < 0 ∨ 0 < ev := by omega
      simp [firstV, h1, h0]
    · have h2 : ev = 0 := by omega
      subst h2
      by_cases h3 : fl = 0
      · subst h3; simp [firstV, fine]
      · have : fl < 0 ∨ 0 < fl := by omega
        simp [firstV, fine, h3, this]
theorem oneN_eq (x : Ctr) (a : List Ctr) (init : Bool) : oneN x (a.map (·.name)) (a.flatMap (·.ports)) (if init = true then 0 else 3) (if init = true then 0 else 1000) = oneV x a init := by
  unfold oneN oneV
  rw [reqN_eq, limN_eq, probeN_eq]
  unfold nameN imageN newV portsL
  rw [any_names]
  have hp := portsN_from a x.ports 0 []
  rw [List.append_nil] at hp
  rw [hp]
  have hlen : ((if init = true then (0 : Int) else 3) < (x.ports.length : Int)) ↔ (3 < x.ports.length ∨ (init = true ∧ 0 < x.ports.length)) := by
    cases init <;> simp <;> omega
  simp only [firstV_cons, firstV_nil]
  by_cases h1 : isName x.name = false
  · simp [h1]
  · by_cases h2 : a.any (fun c => c.name.toList == x.name.toList) = true
    · simp [h1, h2]
    · by_cases h3 : isImage x.image = false
      · simp [h1, h2, h3, fine]
      · have h3' : isImage x.image = true := by simpa using h3
        by_cases h4 : 0 ≤ numsV false x.rc x.rm x.rp 0 0 0
        · simp [h1, h2, h3', h4, fine]
        · by_cases h5 : 0 ≤ numsV true x.lc x.lm x.lp x.rc x.rm x.rp
          · simp [h1, h2, h3', h4, h5, fine]
          · by_cases h6 : 3 < x.ports.length ∨ (init = true ∧ 0 < x.ports.length)
            · have h6' := hlen.2 h6
              simp only [h1, h2, h3', h4, h5, h6, h6', if_true, if_false, fine]
              simp
            · have h6' := mt hlen.1 h6
              simp only [h1, h2, h3', h4, h5, h6, h6', if_true, if_false, fine]
              by_cases h7 : (portsFrom a 0 [] x.ports).1 = 0
              · simp only [h7]
                by_cases h8 : (probeV x.ev x.fl init).1 = 0
                · simp only [h8]
                  have : probeV x.ev x.fl init = fine := by
                    unfold probeV at h8 ⊢
                    split at h8
                    · simp at h8
                    · rename_i h9
                      rw [if_neg h9]
                      split at h8
                      · simp at h8
                      · rename_i h10
                        rw [if_neg h10]
                  simp [this, fine]
                · simp [h8]
              · simp [h7]
theorem listFrom_eq (name : ByteArray) (init : Bool) : ∀ (l : List Ctr) (i : Nat) (a : List Ctr),
    listFrom name (if init = true then 0 else 3) (if init = true then 0 else 1000) i (a.map (·.name)) (a.flatMap (·.ports)) l = ctrsFrom name init i a l
  | [], _, _ => rfl
  | x :: l, i, a => by
    rw [listFrom, ctrsFrom, oneN_eq]
    have ih := listFrom_eq name init l (i + 1) (a ++ [x])
    simp only [List.map_append, List.flatMap_append, List.map_cons, List.map_nil, List.flatMap_cons, List.flatMap_nil, List.append_nil] at ih
    rw [ih]
    unfold inV
    by_cases h : (oneV x a init).1 = 0 <;> simp [h]
end Sd
end Go.Proofs.YtbichomjpmmjmaaGreatDoor

/-
  The contract of num.Text: the text of a number; all that was there is left as it was. Conditions: strconv's table of powers holds what the program's text lays (Tab), and the number is one of 64 bits.
-/
namespace Go.Proofs.YtbichomjpmmjmaaGreatDoor
open Go.ChangeShapes Go.WideShapes Go.ChangeAt Go.RowKit Go.Sort
open Go.Lib
namespace NumText
theorem var_below {w w' : World} (hb : Below w.heap.size w w') {name : String} {cs : Array Value} (h : w.var? Tryz.prog name = some cs) : w'.var? Tryz.prog name = some cs := by
  unfold World.var? at h ⊢
  cases hg : Tryz.prog.globalNamed name with
  | none => rw [hg] at h; simp at h
  | some g =>
    rw [hg] at h
    simp only [Option.bind_some] at h ⊢
    have hlt : g < w.heap.size := by
      rcases Nat.lt_or_ge g w.heap.size with hl | hl
      · exact hl
      · rw [Array.getElem?_eq_none hl] at h; simp at h
    rw [hb.block g hlt]; exact h
/-- strconv's table of powers -/
def Tab (w : World) : Prop := Lib.TabIs Tryz.prog w "internal/strconv.uint64pow10" .u64 Lib.pow10Tab
theorem Tab.below {w w' : World} (h : Tab w) (hb : Below w.heap.size w w') : Tab w' := var_below hb h
theorem below_grow (w : World) (k : Nat) (os : Array Obj) : Below w.heap.size w (grow (w.drewN k) os) :=
  ⟨rfl, rfl, rfl, by simp [grow], fun j hj => by simp [grow, Array.getElem?_append, hj]⟩
theorem numtext_any (n : Int) (w : World) (h0 : -9223372036854775808 ≤ n) (h1 : n ≤ 9223372036854775807) (hL : Tab w) :
    Calls Tryz.prog 113 #[.int .i64 n] w fun e w' => e = .returned (.string ⟨(itoa n).toArray⟩) ∧ Below w.heap.size w w' := by
  go_enter Tryz.func113, Tryz.ntmps113
  go_wp2_with fail
  refine (Any.strconv_Itoa Tryz.laysM171 n h0 h1 _ hL).mono ?_
  rintro e w' ⟨rfl, k, os, rfl⟩
  go_wp2_with fail
  go_ret
  exact ⟨rfl, below_grow _ k os⟩
end NumText
end Go.Proofs.YtbichomjpmmjmaaGreatDoor

/-
  The contracts of text's tests on names, values and tags: each tells whether the text is one, by the document's words; all is left as it was. Conditions: the table holds what the program's text lays (Laid); the text is no longer than a Go string may be.
-/
namespace Go.Proofs.YtbichomjpmmjmaaGreatDoor
open Go.ChangeShapes Go.WideShapes Go.ChangeAt Go.RowKit
open TextPure
namespace Text
def codeN (ok : Bool) (c : Int) : Int := if ok then 0 else c
theorem unless_any (ok : Bool) (c : Int) (w : World) :
    Calls Tryz.prog 94 #[.bool ok, .int .i64 c] w fun e w' => e = .returned (.int .i64 (codeN ok c)) ∧ w = w' := by
  cases ok
  all_goals
    go_enter Tryz.func94, Tryz.ntmps94
    go_wp2_with fail
    go_ret
    exact ⟨rfl, rfl⟩
theorem size_list (s : ByteArray) : s.data.toList.length = s.size := by rw [Array.length_toList]; rfl
theorem nameL_false {l : List UInt8} (h : ¬ (1 ≤ l.length ∧ l.length ≤ 16)) : nameL l = false := by
  cases hx : nameL l with
  | false => rfl
  | true => exact absurd (nameL_len hx) h
theorem nameL_eq {l : List UInt8} (h1 : 1 ≤ l.length) (h2 : l.length ≤ 16) : nameL l = (standN 8 (at' l 0) && standN 8 (at' l (l.length - 1)) && allN 4 l) := by
  unfold nameL
  rw [decide_eq_true h1, decide_eq_true h2]
  rfl
theorem list_empty {s : ByteArray} (h : 0 < s.size) : s.toList.isEmpty = false := by
  rw [ByteArray.toList_eq]
  have := size_list s
  cases hl : s.data.toList with
  | nil => rw [hl] at this; simp at this; omega
  | cons a b => rfl
set_option maxRecDepth 100000 in
theorem isName_any (s : ByteArray) (hs : s.size ≤ maxLen) (w : World) (hL : Laid w) :
    Calls Tryz.prog 95 #[.string s] w fun e w' => e = .returned (.bool (nameL s.data.toList)) ∧ w = w' := by
  unfold maxLen at hs
  have HL := Lib.hid hL
  have HN := Lib.hid (size_list s)
  clear hL
  by_cases h0 : s.size = 0
  · obtain rfl : s = ⟨#[]⟩ := by cases s with | mk d => simp [ByteArray.size] at h0; simp [h0]
    go_enter Tryz.func95, Tryz.ntmps95
    go_wp2_with fail
    go_ret
    exact ⟨rfl, rfl⟩
  · have hpos : 0 < s.size := by omega
    have hne := list_empty hpos
    by_cases h16 : s.size ≤ 16
    · have HE := Lib.hid (nameL_eq (l := s.data.toList) (by rw [HN.out]; exact hpos) (by rw [HN.out]; exact h16))
      have HB0 := Lib.hid (at_byte s 0 hpos)
      have HB1 := Lib.hid (at_byte s (s.size - 1) (by omega))
      have hi : (((s.size : Int) - 1).toNat) = s.size - 1 := by omega
      have hlt : s.size - 1 < s.size := by omega
      have hn0 : (0 : Int) ≤ (s.size : Int) - 1 := by omega
      have hn1 : (s.size : Int) - 1 < s.size := by omega
      have hw1 : IntKind.i64.wrap ((s.size : Int) - 1) = (s.size : Int) - 1 := IntWalk.i64_in _ (by omega)
      go_enter Tryz.func95, Tryz.ntmps95
      go_wp2_with fail
      refine (may_any s[0].toNat 8 s[0].toNat_lt (by omega) _ HL.out).mono ?_
      rintro e w' ⟨rfl, rfl⟩
      rw [HN.out, ← HB0.out, ← HB1.out] at HE
      cases hb0 : standN 8 s[0].toNat with
      | false =>
        go_wp2_with fail
        go_ret
        exact ⟨by rw [HE.out, hb0]; rfl, rfl⟩
      | true =>
        go_wp2_with fail
        refine (may_any s[s.size - 1].toNat 8 s[s.size - 1].toNat_lt (by omega) _ HL.out).mono ?_
        rintro e w' ⟨rfl, rfl⟩
        cases hb1 : standN 8 s[s.size - 1].toNat with
        | false =>
          go_wp2_with fail
          go_ret
          exact ⟨by rw [HE.out, hb0, hb1]; rfl, rfl⟩
        | true =>
          go_wp2_with fail
          refine (all_any s 4 (by omega) (by omega) _ HL.out).mono ?_
          rintro e w' ⟨rfl, rfl⟩
          go_wp2_with fail
          go_ret
          exact ⟨by rw [HE.out, hb0, hb1]; rfl, rfl⟩
    · have hgt : (16 : Int) < s.size := by omega
      go_enter Tryz.func95, Tryz.ntmps95
      go_wp2_with fail
      go_ret
      exact ⟨by rw [nameL_false (by rw [HN.out]; omega)]; rfl, rfl⟩
theorem valL_eq (l : List UInt8) : valL l = (decide (l.length ≤ 16) && allN 1 l) := rfl
theorem tagL_eq (l : List UInt8) : tagL l = (decide (1 ≤ l.length) && decide (l.length ≤ 8) && allN 2 l) := rfl
set_option maxRecDepth 100000 in
theorem isVal_any (s : ByteArray) (hs : s.size ≤ maxLen) (w : World) (hL : Laid w) :
    Calls Tryz.prog 117 #[.string s] w fun e w' => e = .returned (.bool (valL s.data.toList)) ∧ w = w' := by
  unfold maxLen at hs
  have HL := Lib.hid hL
  have HN := Lib.hid (size_list s)
  clear hL
  have HE := Lib.hid (valL_eq s.data.toList)
  rw [HN.out] at HE
  by_cases h16 : s.size ≤ 16
  · have hgt : (s.size : Int) ≤ 16 := by omega
    go_enter Tryz.func117, Tryz.ntmps117
    go_wp2_with fail
    refine (all_any s 1 (by omega) (by omega) _ HL.out).mono ?_
    rintro e w' ⟨rfl, rfl⟩
    go_wp2_with fail
    go_ret
    exact ⟨by rw [HE.out, decide_eq_true h16]; rfl, rfl⟩
  · have hgt : ¬ (s.size : Int) ≤ 16 := by omega
    go_enter Tryz.func117, Tryz.ntmps117
    go_wp2_with fail
    go_ret
    exact ⟨by rw [HE.out, decide_eq_false h16]; rfl, rfl⟩
set_option maxRecDepth 100000 in
theorem isTag_any (s : ByteArray) (hs : s.size ≤ maxLen) (w : World) (hL : Laid w) :
    Calls Tryz.prog 156 #[.string s] w fun e w' => e = .returned (.bool (tagL s.data.toList)) ∧ w = w' := by
  unfold maxLen at hs
  have HL := Lib.hid hL
  have HN := Lib.hid (size_list s)
  clear hL
  have HE := Lib.hid (tagL_eq s.data.toList)
  rw [HN.out] at HE
  by_cases h0 : s.size = 0
  · obtain rfl : s = ⟨#[]⟩ := by cases s with | mk d => simp [ByteArray.size] at h0; simp [h0]
    go_enter Tryz.func156, Tryz.ntmps156
    go_wp2_with fail
    go_ret
    exact ⟨rfl, rfl⟩
  · have hpos : 0 < s.size := by omega
    have hne := list_empty hpos
    by_cases h16 : s.size ≤ 8
    · have hgt : (s.size : Int) ≤ 8 := by omega
      go_enter Tryz.func156, Tryz.ntmps156
      go_wp2_with fail
      refine (all_any s 2 (by omega) (by omega) _ HL.out).mono ?_
      rintro e w' ⟨rfl, rfl⟩
      go_wp2_with fail
      go_ret
      exact ⟨by rw [HE.out, decide_eq_true h16, decide_eq_true (show 1 ≤ s.size by omega)]; rfl, rfl⟩
    · have hgt : ¬ (s.size : Int) ≤ 8 := by omega
      go_enter Tryz.func156, Tryz.ntmps156
      go_wp2_with fail
      go_ret
      exact ⟨by rw [HE.out, decide_eq_false h16, Bool.and_false]; rfl, rfl⟩
end Text
end Go.Proofs.YtbichomjpmmjmaaGreatDoor

/-
  The contracts of package text's exported functions: each tells what the document's words say; all that was there is left as it was. Conditions: the table and internal/bytealg.MaxLen hold what they may (Laid); the text has at most 4294967280 bytes where it is cut.
-/
namespace Go.Proofs.YtbichomjpmmjmaaGreatDoor
open Go.ChangeShapes Go.WideShapes Go.ChangeAt Go.RowKit
open TextPure
namespace Text
/-- the part ahead of the first c, and the part behind it -/
def fstB (s : ByteArray) (c : UInt8) : ByteArray := ⟨(Lib.cut s.data.toList [c]).1.toArray⟩
def sndB (s : ByteArray) (c : UInt8) : ByteArray := ⟨(Lib.cut s.data.toList [c]).2.1.toArray⟩
def hasB (s : ByteArray) (c : UInt8) : Bool := (Lib.cut s.data.toList [c]).2.2
theorem fstB_size (s : ByteArray) (c : UInt8) : (fstB s c).size ≤ s.size := by
  have := (cut_len c s.data.toList).1
  rw [size_list] at this
  show (Lib.cut s.data.toList [c]).1.toArray.size ≤ _
  simpa using this
theorem sndB_size (s : ByteArray) (c : UInt8) : (sndB s c).size ≤ s.size := by
  have := (cut_len c s.data.toList).2
  rw [size_list] at this
  show (Lib.cut s.data.toList [c]).2.1.toArray.size ≤ _
  simpa using this
theorem cut_any (s : ByteArray) (c : UInt8) (hs : s.size < 4294967281) (w : World) (hL : Laid w) :
    Calls Tryz.prog 145 #[.string s, .string ⟨#[c]⟩] w fun e w' => e = .returned (.tuple #[.string (fstB s c), .string (sndB s c), .bool (hasB s c)]) ∧ Below w.heap.size w w' := by
  obtain ⟨m, hm⟩ := hL.max
  refine (Any.strings_Cut Tryz.lays145 s ⟨#[c]⟩ m w hs hm).mono ?_
  rintro e w' ⟨rfl, n, rfl⟩
  exact ⟨rfl, Kit.below_drewN _ _ _⟩
theorem keyL_eq (s : ByteArray) : keyL s.data.toList = (nameL (fstB s 47).data.toList && (!hasB s 47 || nameL (sndB s 47).data.toList)) := by
  unfold keyL fstB sndB hasB
  simp
set_option maxRecDepth 100000 in
theorem isKey_any (s : ByteArray) (hs : s.size < 4294967281) (w : World) (hL : Laid w) :
    Calls Tryz.prog 116 #[.string s] w fun e w' => e = .returned (.bool (keyL s.data.toList)) ∧ Below w.heap.size w w' := by
  have HE := Lib.hid (keyL_eq s)
  have h1 := Lib.hid (show (fstB s 47).size ≤ maxLen by have := fstB_size s 47; unfold maxLen; omega)
  have h2 := Lib.hid (show (sndB s 47).size ≤ maxLen by have := sndB_size s 47; unfold maxLen; omega)
  have HL := Lib.hid hL
  clear hL
  go_enter Tryz.func116, Tryz.ntmps116
  go_wp2_with fail
  refine (cut_any s 47 hs _ HL.out).mono ?_
  rintro e w1 ⟨rfl, hb⟩
  have HB := Lib.hid hb
  have HL1 := Lib.hid (HL.out.below hb)
  clear hb HL
  go_wp2_with fail
  refine (isName_any (fstB s 47) h1.out _ HL1.out).mono ?_
  rintro e w' ⟨rfl, rfl⟩
  cases hn : nameL (fstB s 47).data.toList with
  | false =>
    go_wp2_with fail
    go_ret
    exact ⟨by rw [HE.out, hn]; rfl, HB.out⟩
  | true =>
    cases hh : hasB s 47 with
    | false =>
      go_wp2_with fail
      go_ret
      exact ⟨by rw [HE.out, hn, hh]; rfl, HB.out⟩
    | true =>
      go_wp2_with fail
      refine (isName_any (sndB s 47) h2.out _ HL1.out).mono ?_
      rintro e w' ⟨rfl, rfl⟩
      go_wp2_with fail
      go_ret
      exact ⟨by rw [HE.out, hn, hh]; rfl, HB.out⟩
theorem info_string' : (Tryz.prog.info? 9).map (fun i => (i.zero, i.size, i.bytes)) = some (some (.string ByteArray.empty), 1, 16) := by kernel_rfl
/-- the pieces as texts -/
def piecesB (s : ByteArray) (c : UInt8) : List ByteArray := (pieces c s.data.toList).map fun l => ⟨l.toArray⟩
theorem splitB_pieces (s : ByteArray) (c : UInt8) : Lib.splitB ⟨#[c]⟩ 0 (Lib.countB s ⟨#[c]⟩) s = piecesB s c := by
  have h := Lib.splitB_data ⟨#[c]⟩ 0 (Lib.countB s ⟨#[c]⟩) s
  have h2 : Lib.splitK [c] 0 (Lib.countB s ⟨#[c]⟩) s.data.toList = pieces c s.data.toList := splitK_pieces c s.data.toList
  unfold piecesB
  rw [← h2]
  have h3 : (⟨#[c]⟩ : ByteArray).data.toList = [c] := rfl
  rw [h3] at h
  rw [← h, List.map_map]
  have : ((fun l : List UInt8 => (⟨l.toArray⟩ : ByteArray)) ∘ fun x : ByteArray => x.data.toList) = id := by
    funext x
    cases x
    simp
  rw [this, List.map_id]
theorem piecesB_len (s : ByteArray) (c : UInt8) : (piecesB s c).length = Lib.countB s ⟨#[c]⟩ + 1 := by
  rw [← splitB_pieces]
  exact Lib.splitB_all ⟨#[c]⟩ (Nat.le_refl 1) 0 _ s rfl
theorem split_any (s : ByteArray) (c : UInt8) (hs : s.size < 4294967281) (w : World) (hL : Laid w) :
    Calls Tryz.prog 161 #[.string s, .string ⟨#[c]⟩] w fun e w' =>
      e = .returned (.slice (some ⟨w.heap.size, 0, none⟩) (piecesB s c).length (piecesB s c).length) ∧ w' = w.alloc (.cells ((piecesB s c).map Value.string).toArray 9) := by
  obtain ⟨m, hm⟩ := hL.max
  refine (Any.strings_Split Tryz.lays146 info_string' s ⟨#[c]⟩ m w hs hm (Nat.le_refl 1)).mono ?_
  rintro e w' ⟨rfl, rfl⟩
  rw [piecesB_len, splitB_pieces]
  exact ⟨rfl, rfl⟩
theorem pieces_each (c : UInt8) : ∀ (l p : List UInt8), p ∈ pieces c l → p.length ≤ l.length
  | [], p, h => by simp [pieces] at h; simp [h]
  | b :: l, p, h => by
    unfold pieces at h
    split at h
    · rcases List.mem_cons.1 h with rfl | h
      · simp
      · have := pieces_each c l p h; simp; omega
    · split at h
      · rename_i hx; exact absurd hx (pieces_ne c l)
      · rename_i q qs hq
        rcases List.mem_cons.1 h with rfl | h
        · have := pieces_each c l q (by rw [hq]; simp); simp; omega
        · have := pieces_each c l p (by rw [hq]; simp [h]); simp; omega
theorem piecesB_each {s : ByteArray} {c : UInt8} {x : ByteArray} (h : x ∈ piecesB s c) : x.size ≤ s.size := by
  obtain ⟨l, hl, rfl⟩ := List.mem_map.1 h
  have := pieces_each c _ l hl
  rw [size_list] at this
  show l.toArray.size ≤ _
  simpa using this
theorem pieces_count (c : UInt8) : ∀ l : List UInt8, (pieces c l).length ≤ l.length + 1
  | [] => by simp [pieces]
  | b :: l => by
    have := pieces_count c l
    unfold pieces
    split
    · simp; omega
    · split
      · simp
      · rename_i q qs hq; rw [hq] at this; simp at this ⊢; omega
theorem piecesB_count (s : ByteArray) (c : UInt8) : (piecesB s c).length ≤ s.size + 1 := by
  have := pieces_count c s.data.toList
  rw [size_list] at this
  unfold piecesB
  simpa using this
/-- is each of the texts a name? -/
def namesL (l : List ByteArray) : Bool := l.all fun x => nameL x.data.toList
theorem namesL_pieces (s : ByteArray) (c : UInt8) : namesL (piecesB s c) = (pieces c s.data.toList).all nameL := by
  unfold namesL piecesB
  rw [List.all_map]
  rfl
theorem namesL_no {l : List ByteArray} {k : Nat} (hk : k < l.length) (h : nameL l[k].data.toList = false) : namesL l = false := by
  cases hx : namesL l with
  | false => rfl
  | true => rw [List.all_eq_true.1 hx _ (List.getElem_mem hk)] at h; cases h
theorem namesL_yes {l : List ByteArray} (h : ∀ k (hk : k < l.length), nameL l[k].data.toList = true) : namesL l = true := by
  refine List.all_eq_true.2 fun x hx => ?_
  obtain ⟨k, hk, rfl⟩ := List.getElem_of_mem hx
  exact h k hk
theorem repoL_eq (s : ByteArray) : repoL s.data.toList = (decide (s.size ≤ 24) && namesL (piecesB s 47)) := by
  unfold repoL
  rw [size_list, namesL_pieces]
set_option maxRecDepth 100000 in
set_option maxHeartbeats 1000000 in
theorem isRepo_any (s : ByteArray) (hs : s.size < 4294967281) (w : World) (hL : Laid w) :
    Calls Tryz.prog 155 #[.string s] w fun e w' => e = .returned (.bool (repoL s.data.toList)) ∧ Below w.heap.size w w' := by
  have HE := Lib.hid (repoL_eq s)
  have HL := Lib.hid hL
  clear hL
  by_cases h24 : s.size ≤ 24
  · rw [decide_eq_true h24, Bool.true_and] at HE
    have hgt : ¬ (24 : Int) < s.size := by omega
    go_enter Tryz.func155, Tryz.ntmps155
    go_wp2_with fail
    refine (split_any s 47 hs _ HL.out).mono ?_
    rintro e w1 ⟨rfl, hw1⟩
    have hb1 : Below w.heap.size w w1 := by rw [hw1]; exact (Below.refl _ _).alloc (Nat.le_refl _) _
    have HL1 := Lib.hid (HL.out.below hb1)
    have HB1 := Lib.hid hb1
    have hcell : ∀ k (hk : k < (piecesB s 47).length), w1.cell? ⟨w.heap.size, k, none⟩ = some (.string (piecesB s 47)[k]) := by
      intro k hk
      rw [hw1]
      simp [hk]
    have HC := Lib.hid hcell
    have hP := piecesB_count s 47
    have HZ := Lib.hid (fun k (hk : k < (piecesB s 47).length) => piecesB_each (List.getElem_mem hk))
    clear hcell hb1 hw1 HL
    generalize piecesB s 47 = ps at *
    go_wp2_with fail
    go_loop [11] (fun i => ∃ k : Nat, k ≤ ps.length ∧ i = .int .i64 k ∧ Hid (∀ j (hj : j < ps.length), j < k → nameL ps[j].data.toList = true)) (fun i => ps.length - (RowKit.intOf i).toNat)
    case atStart => exact ⟨0, by omega, rfl, fun j _ h => by omega⟩
    case round =>
      obtain ⟨k, hk, rfl, HA⟩ := hrel
      by_cases hlt : k < ps.length
      · have hc := HC.out k hlt
        have hz := HZ.out k hlt
        go_wp2_with fail
        refine (isName_any ps[k] (by unfold maxLen; omega) _ HL1.out).mono ?_
        rintro e w' ⟨rfl, rfl⟩
        cases hn : nameL ps[k].data.toList with
        | false =>
          go_wp2_with fail
          go_ret
          exact ⟨by rw [HE.out, namesL_no hlt hn]; rfl, HB1.out⟩
        | true =>
          go_wp2_with fail
          go_round
          case rel =>
            refine ⟨k + 1, by omega, by go_num, fun j hj hj' => ?_⟩
            by_cases e : j = k
            · subst e; exact hn
            · exact HA.out j hj (by omega)
          case measure => simp [RowKit.intOf]; omega
      · obtain rfl : k = ps.length := by omega
        go_wp2_with fail
        go_ret
        exact ⟨by rw [HE.out, namesL_yes (fun j hj => HA.out j hj hj)]; rfl, HB1.out⟩
  · have hgt : (24 : Int) < s.size := by omega
    go_enter Tryz.func155, Tryz.ntmps155
    go_wp2_with fail
    go_ret
    exact ⟨by rw [HE.out, decide_eq_false h24]; rfl, Below.refl _ _⟩
end Text
end Go.Proofs.YtbichomjpmmjmaaGreatDoor

/-
  The contracts of package text's exported functions Name, Key, Val, Image, Split, Same: each tells what the document's words say; all that was there is left as it was. Conditions: the table and internal/bytealg.MaxLen hold what they may (Laid); a text that is cut has at most 4294967280 bytes.
-/
namespace Go.Proofs.YtbichomjpmmjmaaGreatDoor
open Go.ChangeShapes Go.WideShapes Go.ChangeAt Go.RowKit
open TextPure
namespace Text
/-- is the text an image? -/
def imageB (s : ByteArray) : Bool := imageL s.data.toList
theorem imageB_eq (s : ByteArray) : imageB s = (hasB s 58 && repoL (fstB s 58).data.toList && tagL (sndB s 58).data.toList) := by
  unfold imageB imageL fstB sndB hasB
  simp
set_option maxRecDepth 100000 in
theorem parts_any (s : ByteArray) (hs : s.size < 4294967281) (w : World) (hL : Laid w) :
    Calls Tryz.prog 139 #[.string s] w fun e w' => e = .returned (.tuple #[.string (fstB s 58), .string (sndB s 58), .bool (imageB s)]) ∧ Below w.heap.size w w' := by
  have HE := Lib.hid (imageB_eq s)
  have h1 := Lib.hid (show (fstB s 58).size < 4294967281 by have := fstB_size s 58; omega)
  have h2 := Lib.hid (show (sndB s 58).size ≤ maxLen by have := sndB_size s 58; unfold maxLen; omega)
  have HL := Lib.hid hL
  clear hL
  go_enter Tryz.func139, Tryz.ntmps139
  go_wp2_with fail
  refine (cut_any s 58 hs _ HL.out).mono ?_
  rintro e w1 ⟨rfl, hb⟩
  have HB := Lib.hid hb
  have HL1 := Lib.hid (HL.out.below hb)
  clear hb HL
  cases hh : hasB s 58 with
  | false =>
    go_wp2_with fail
    go_ret3
    exact ⟨by rw [HE.out, hh]; rfl, HB.out⟩
  | true =>
    go_wp2_with fail
    refine (isRepo_any (fstB s 58) h1.out _ HL1.out).mono ?_
    rintro e w2 ⟨rfl, hb2⟩
    have HB2 := Lib.hid (HB.out.trans (hb2.mono HB.out.size))
    have HL2 := Lib.hid (HL1.out.below hb2)
    clear hb2 HL1 HB
    cases hr : repoL (fstB s 58).data.toList with
    | false =>
      go_wp2_with fail
      go_ret3
      exact ⟨by rw [HE.out, hh, hr]; rfl, HB2.out⟩
    | true =>
      go_wp2_with fail
      refine (isTag_any (sndB s 58) h2.out _ HL2.out).mono ?_
      rintro e w' ⟨rfl, rfl⟩
      go_wp2_with fail
      go_ret3
      exact ⟨by rw [HE.out, hh, hr]; rfl, HB2.out⟩
theorem name_any (s : ByteArray) (hs : s.size ≤ maxLen) (w : World) (hL : Laid w) :
    Calls Tryz.prog 75 #[.string s] w fun e w' => e = .returned (.int .i64 (codeN (nameL s.data.toList) 30)) ∧ w = w' := by
  have HL := Lib.hid hL
  clear hL
  go_enter Tryz.func75, Tryz.ntmps75
  go_wp2_with fail
  refine (isName_any s hs _ HL.out).mono ?_
  rintro e w' ⟨rfl, rfl⟩
  go_wp2_with fail
  refine (unless_any _ _ _).mono ?_
  rintro e w' ⟨rfl, rfl⟩
  go_wp2_with fail
  go_ret
  exact ⟨rfl, rfl⟩
theorem val_any (s : ByteArray) (hs : s.size ≤ maxLen) (w : World) (hL : Laid w) :
    Calls Tryz.prog 97 #[.string s] w fun e w' => e = .returned (.int .i64 (codeN (valL s.data.toList) 32)) ∧ w = w' := by
  have HL := Lib.hid hL
  clear hL
  go_enter Tryz.func97, Tryz.ntmps97
  go_wp2_with fail
  refine (isVal_any s hs _ HL.out).mono ?_
  rintro e w' ⟨rfl, rfl⟩
  go_wp2_with fail
  refine (unless_any _ _ _).mono ?_
  rintro e w' ⟨rfl, rfl⟩
  go_wp2_with fail
  go_ret
  exact ⟨rfl, rfl⟩
theorem key_any (s : ByteArray) (hs : s.size < 4294967281) (w : World) (hL : Laid w) :
    Calls Tryz.prog 96 #[.string s] w fun e w' => e = .returned (.int .i64 (codeN (keyL s.data.toList) 31)) ∧ Below w.heap.size w w' := by
  have HL := Lib.hid hL
  clear hL
  go_enter Tryz.func96, Tryz.ntmps96
  go_wp2_with fail
  refine (isKey_any s hs _ HL.out).mono ?_
  rintro e w1 ⟨rfl, hb⟩
  go_wp2_with fail
  refine (unless_any _ _ _).mono ?_
  rintro e w' ⟨rfl, rfl⟩
  go_wp2_with fail
  go_ret
  exact ⟨rfl, hb⟩
theorem image_any (s : ByteArray) (hs : s.size < 4294967281) (w : World) (hL : Laid w) :
    Calls Tryz.prog 108 #[.string s] w fun e w' => e = .returned (.int .i64 (codeN (imageB s) 33)) ∧ Below w.heap.size w w' := by
  have HL := Lib.hid hL
  clear hL
  go_enter Tryz.func108, Tryz.ntmps108
  go_wp2_with fail
  refine (parts_any s hs _ HL.out).mono ?_
  rintro e w1 ⟨rfl, hb⟩
  go_wp2_with fail
  refine (unless_any _ _ _).mono ?_
  rintro e w' ⟨rfl, rfl⟩
  go_wp2_with fail
  go_ret
  exact ⟨rfl, hb⟩
end Text
end Go.Proofs.YtbichomjpmmjmaaGreatDoor

/-
  Plain arithmetic for layer 1 (num): when a sum or a product of two 64-bit integers fits, and what Go's checks by division and by sizes say of it. No condition.
-/
namespace Go.Proofs.YtbichomjpmmjmaaGreatDoor.NumMath
open Go.RowKit (wrap64)
/-- 'an int can be that' -/
def fits (n : Int) : Bool := decide (-9223372036854775808 ≤ n ∧ n ≤ 9223372036854775807)
theorem fits_yes {n : Int} (h1 : -9223372036854775808 ≤ n) (h2 : n ≤ 9223372036854775807) : fits n = true := by
  unfold fits; exact decide_eq_true ⟨h1, h2⟩
theorem fits_no {n : Int} (h : n < -9223372036854775808 ∨ 9223372036854775807 < n) : fits n = false := by
  unfold fits; exact decide_eq_false (by omega)
theorem fits_iff {n : Int} : fits n = true ↔ (-9223372036854775808 ≤ n ∧ n ≤ 9223372036854775807) := by
  unfold fits; exact decide_eq_true_iff
/-- the value beside the answer -/
def val (n : Int) : Int := if fits n = true then n else 0
theorem val_yes {n : Int} (h : fits n = true) : val n = n := by unfold val; rw [if_pos h]
theorem val_no {n : Int} (h : fits n = false) : val n = 0 := by unfold val; rw [if_neg (by simp [h])]
end Go.Proofs.YtbichomjpmmjmaaGreatDoor.NumMath

/-
  The contract of the document's size of a number: its magnitude as a 64-bit number without sign; the world is left alone. Condition: the argument is a 64-bit integer.
-/
namespace Go.Proofs.YtbichomjpmmjmaaGreatDoor
open Go.ChangeShapes Go.WideShapes Go.ChangeAt Go.RowKit
open NumMath
namespace NumRefSize
end NumRefSize
end Go.Proofs.YtbichomjpmmjmaaGreatDoor

/-
  A text of one byte out of a slice of one, and such a text ahead of another. Condition: the byte's cell holds it.
-/
namespace Go.Proofs.YtbichomjpmmjmaaGreatDoor
open Go.ChangeShapes Go.WideShapes Go.ChangeAt Go.RowKit
namespace OneByte
end OneByte
end Go.Proofs.YtbichomjpmmjmaaGreatDoor

/-
  Plain facts on numbers as text: the decimal text of a number, the number of a text (parseV), and how a reader from the left comes to it. No condition.
-/
namespace Go.Proofs.YtbichomjpmmjmaaGreatDoor.TextMath
open Go.Lib
end Go.Proofs.YtbichomjpmmjmaaGreatDoor.TextMath

/-
  The contract of the document's text of a number: its decimal digits, with a - ahead if it is below 0; all that was there is left as it was. Condition: the argument is a 64-bit integer.
-/
namespace Go.Proofs.YtbichomjpmmjmaaGreatDoor
open Go.ChangeShapes Go.WideShapes Go.ChangeAt Go.RowKit
open NumMath TextMath OneByte Go.Lib
namespace NumRefText
end NumRefText
end Go.Proofs.YtbichomjpmmjmaaGreatDoor

/-
  The contracts of the document's answers for layer 3 that walk over bytes alone (provostref03.small, Name, Val): what the document's words say; all is left as it was. Condition: the text is no longer than a Go string may be.
-/
namespace Go.Proofs.YtbichomjpmmjmaaGreatDoor
open Go.ChangeShapes Go.WideShapes Go.ChangeAt Go.RowKit
open TextPure
namespace Text
end Text
end Go.Proofs.YtbichomjpmmjmaaGreatDoor

/-
  The contracts of the document's answers for layer 3 that cut texts into parts (provostref03.parts, names, Key, Split): what the document's words say; all that was there is left as it was. Condition: the text has at most 2000 bytes.
-/
namespace Go.Proofs.YtbichomjpmmjmaaGreatDoor
open Go.ChangeShapes Go.WideShapes Go.ChangeAt Go.RowKit
open TextPure
namespace Text
end Text
end Go.Proofs.YtbichomjpmmjmaaGreatDoor

/-
  The contract of the document's answer for layer 3 on images (provostref03.Split): an image's repository and tag and true, else two empty texts and false; all that was there is left as it was. Condition: the text has at most 2000 bytes.
-/
namespace Go.Proofs.YtbichomjpmmjmaaGreatDoor
open Go.ChangeShapes Go.WideShapes Go.ChangeAt Go.RowKit
open TextPure
namespace Text
end Text
end Go.Proofs.YtbichomjpmmjmaaGreatDoor

/-
  The contracts of the document's own answers on labels and containers (provostref06). Condition: what is looked at is not too long.
-/
namespace Go.Proofs.YtbichomjpmmjmaaGreatDoor
open Go.ChangeShapes Go.WideShapes Go.ChangeAt Go.RowKit Go.Lib
open Sd Lists
namespace SpecRef
theorem atB_size (name : ByteArray) (k : Nat) (hk : k ≤ 1000000) : (atB name k).size ≤ name.size + 23 := by
  have h1 : (itoa (k : Int)).length ≤ 21 := itoa_length_le _ (by omega) (by omega)
  have h2 : (⟨(itoa (k : Int)).toArray⟩ : ByteArray).size = (itoa (k : Int)).length := by show (itoa (k : Int)).toArray.size = _; simp
  unfold atB
  rw [ByteArray.size_append, ByteArray.size_append, ByteArray.size_append, h2]
  show _ + 1 + _ + 1 ≤ _
  omega
/-- the labels: from k on -/
def LHere (name : ByteArray) (l : List Lbl) (k : Nat) : Prop := labelsV name l = labelsFrom name k (if k = 0 then none else l[k - 1]?) (l.drop k)
end SpecRef
end Go.Proofs.YtbichomjpmmjmaaGreatDoor
