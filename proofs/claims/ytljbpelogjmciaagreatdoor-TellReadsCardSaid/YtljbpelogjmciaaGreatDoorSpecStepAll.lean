/-
 What an error of package fail says: a code and its path's text (nil: nothing is wrong), its steps lying in blocks of which something is known; fail.New of one step, fail.In, fail.First, fail.Code, fail.Text by it. Conditions: texts are not too long. And what follows of it, part by part, each with its conditions.
-/
import Derived.Test.YtljbpelogjmciaaGreatDoorErrAll
import Derived.Test.YtljbpelogjmciaaGreatDoorSpecRefAll
import Derived.Test.YtljbpelogjmciaaGreatDoorChecked
import Derived.Test.YtljbpelogjmciaaGreatDoorShelf
import Derived.Test.YtljbpelogjmciaaGreatDoorKit
import Derived.Test.YtljbpelogjmciaaGreatDoorTextAll
import Derived.Lib.Hide
import Derived.Lib.LaidTab
import Derived.Laws.Concat
import Derived.Lib.ItoaLen
import Derived.IntWalk
import Derived.Maps.AppendAt
import Derived.OwnWalk
set_option maxRecDepth 100000
namespace Go.Proofs.YtljbpelogjmciaaGreatDoor
open Go.RowKit Err
namespace Sd
inductive IsIn (D : Nat → Prop) (w : World) : Value → Int → List ByteArray → Prop
 | code (c : Int) : IsIn D w (.iface 34 (.int .i64 c)) c []
 | step (b : Nat) (E : Value) (s : ByteArray) (c : Int) (p : List ByteArray) : D b → w.cell? ⟨b, 0, none⟩ = some (.string s) → w.cell? ⟨b, 1, none⟩ = some E → IsIn D w E c p →
  IsIn D w (.iface 197 (.pointer (some ⟨b, 0, none⟩))) c (s :: p)
theorem IsIn.is {D : Nat → Prop} {w : World} {E : Value} {c : Int} {p : List ByteArray} (h : IsIn D w E c p) : Is w E c p := by
 induction h with
 | code c => exact .code c
 | step b E s c p _ h0 h1 _ ih => exact .step b 0 E s c p h0 h1 ih
theorem IsIn.keep {D D' : Nat → Prop} {w w' : World} {E : Value} {c : Int} {p : List ByteArray} (h : IsIn D w E c p) (hd : ∀ b, D b → b < w.heap.size → D' b ∧ w'.heap[b]? = w.heap[b]?) : IsIn D' w' E c p := by
 induction h with
 | code c => exact .code c
 | step b E s c p hb h0 h1 _ ih =>
  obtain ⟨h2, h3⟩ := hd b hb (lt_of_cell h0)
  exact .step b E s c p h2 ((World.cell?_of_block (a := ⟨b, 0, none⟩) h3).trans h0) ((World.cell?_of_block (a := ⟨b, 1, none⟩) h3).trans h1) ih
theorem in_in {D : Nat → Prop} {w : World} {E : Value} {c : Int} {p : List ByteArray} (h : IsIn D w E c p) (s : ByteArray) :
 Calls Tryz.prog 130 #[E, .string s] w fun e w' => ∃ E', e = .returned E' ∧ IsIn (fun b => D b ∨ w.heap.size ≤ b) w' E' c (s :: p) ∧ Below w.heap.size w w' := by
 obtain ⟨u, x, rfl⟩ := h.is.iface
 refine (in_some u x s w).mono ?_
 rintro e w' ⟨rfl, rfl⟩
 refine ⟨_, rfl, ?_, (Below.refl _ _).alloc (Nat.le_refl _) _⟩
 exact .step _ _ _ _ _ (.inr (Nat.le_refl _)) (by simp) (by simp) (h.keep fun b hb hlt => ⟨.inl hb, ((Below.refl _ _).alloc (Nat.le_refl _) _).block b hlt⟩)
theorem new_in (c : Int) (hc : (c == 0) = false) (A : Option Addr) (cap : Nat) (xs : List ByteArray) (w : World) (hT : Texts w A xs) (hn : xs.length ≤ 9223372036854775807) :
 Calls Tryz.prog 82 #[.int .i64 c, .slice A xs.length cap] w fun e w' => ∃ E', e = .returned E' ∧ IsIn (fun b => w.heap.size ≤ b) w' E' c xs ∧ Below w.heap.size w w' := by
 have HT := Lib.hid hT
 clear hT
 go_enter Tryz.func82, Tryz.ntmps82
 go_wp2
 go_loopw [5, 6] (fun E i wr => ∃ (k : Nat) (z : Int), k ≤ xs.length ∧ i = .int .i64 z ∧ z = (k : Int) - 1 ∧ IsIn (fun b => w.heap.size ≤ b) wr E c (xs.drop k) ∧ Below w.heap.size w wr) (fun _ i _ => (intOf i + 1).toNat)
 case atStart => exact ⟨xs.length, _, Nat.le_refl _, rfl, rfl, by rw [List.drop_length]; exact .code c, Below.refl _ _⟩
 case round =>
  obtain ⟨k, z, hk, rfl, hz, hE, hb⟩ := hrel
  rcases Nat.eq_zero_or_pos k with h0 | h0
  · obtain rfl : z = -1 := by omega
    subst h0
    have HE := Lib.hid hE
    clear hE hz; go_wp2
    go_ret
    exact ⟨_, rfl, HE.out, hb⟩
  · obtain ⟨j, rfl⟩ : ∃ j, k = j + 1 := ⟨k - 1, by omega⟩
    obtain rfl : z = (j : Int) := by omega
    obtain ⟨a, rfl, hcell⟩ := (HT.out.below hb) j xs[j] (List.getElem?_eq_getElem (by omega))
    have HE := Lib.hid hE
    have Hz := Lib.hid hz
    clear hE hz
    have hj : (j : Int) < (xs.length : Int) := by omega
    go_wp2_with fail
    refine (in_in HE.out _).mono ?_
    rintro e w1 ⟨E1, rfl, h1, hb1⟩; have H1 := Lib.hid (h1.keep (D' := fun b => w.heap.size ≤ b) (w' := w1) fun b hd _ => ⟨hd.elim (fun x => x) fun x => Nat.le_trans hb.size x, rfl⟩); clear h1; go_wp2_with fail
    go_roundw
    case rel => exact ⟨j, (j : Int) - 1, by omega, rfl, rfl, by rw [List.drop_eq_getElem_cons (by omega)]; exact H1.out, hb.trans (hb1.mono hb.size)⟩
    case measure => simp [intOf]
def Says (D : Nat → Prop) (w : World) (E : Value) (y : Say) : Prop :=
 (y = fine ∧ E = .nilIface) ∨ (y.1 ≠ 0 ∧ y.2.size ≤ 100000 ∧ ∃ p, IsIn D w E y.1 p ∧ p ≠ [] ∧ (⟨(pathText p).toArray⟩ : ByteArray) = y.2)
theorem Says.keep {D D' : Nat → Prop} {w w' : World} {E : Value} {y : Say} (h : Says D w E y) (hd : ∀ b, D b → b < w.heap.size → D' b ∧ w'.heap[b]? = w.heap[b]?) : Says D' w' E y := by
 rcases h with h | ⟨h0, hs, p, h1, h2, h4⟩
 · exact .inl h
 · exact .inr ⟨h0, hs, p, h1.keep hd, h2, h4⟩
theorem Says.below {D : Nat → Prop} {w w' : World} {E : Value} {y : Say} (h : Says D w E y) (hb : Below w.heap.size w w') : Says D w' E y := h.keep fun b hd hlt => ⟨hd, hb.block b hlt⟩
theorem Says.form {D : Nat → Prop} {w : World} {E : Value} {y : Say} (h : Says D w E y) : E = .nilIface ∨ ∃ u x, E = .iface u x := by
 rcases h with ⟨_, h⟩ | ⟨_, _, p, h, _⟩
 · exact .inl h
 · exact .inr h.is.iface
theorem Says.nil_iff {D : Nat → Prop} {w : World} {E : Value} {y : Say} (h : Says D w E y) : E = .nilIface ↔ y.1 = 0 := by
 rcases h with ⟨rfl, h⟩ | ⟨h0, _, p, h, _⟩
 · simp [h, fine]
 · obtain ⟨u, x, rfl⟩ := h.is.iface
   simp [h0]
def Tells (y : Say) (w : World) (e : Ending) (w' : World) : Prop := ∃ E, e = .returned E ∧ Says (fun b => w.heap.size ≤ b) w' E y ∧ Below w.heap.size w w'
theorem pathText_one (s : ByteArray) : (⟨(pathText [s]).toArray⟩ : ByteArray) = s := by
 apply ByteArray.ext
 show (pathText [s]).toArray = s.data
 simp [pathText, Lib.join_one]
theorem pathText_cons (s : ByteArray) {p : List ByteArray} (hp : p ≠ []) : (⟨(pathText (s :: p)).toArray⟩ : ByteArray) = s ++ ⟨#[46]⟩ ++ ⟨(pathText p).toArray⟩ := by
 rcases p with _ | ⟨q, p⟩
 · exact absurd rfl hp
 · apply ByteArray.ext
   show (pathText (s :: q :: p)).toArray = _
   simp [pathText, Lib.join_cons, Lib.joinTail, ByteArray.data_append]
def newV (c : Int) (s : ByteArray) : Say := if c = 0 then fine else (c, s)
theorem new_says (c : Int) (s : ByteArray) (g cap : Nat) (w : World) (hs : s.size ≤ 100000) (hc : w.cell? ⟨g, 0, none⟩ = some (.string s)) :
 Calls Tryz.prog 82 #[.int .i64 c, .slice (some ⟨g, 0, none⟩) 1 cap] w (Tells (newV c s) w) := by
 by_cases h0 : c = 0
 · subst h0
   refine (new_ok _ w).mono ?_
   rintro e w' ⟨rfl, rfl⟩
   exact ⟨_, rfl, .inl ⟨if_pos rfl, rfl⟩, Below.refl _ _⟩
 · refine (new_in c (beq_eq_false_iff_ne.2 h0) (some ⟨g, 0, none⟩) cap [s] w ?_ (by simp)).mono ?_
   · intro k x hx
     rcases k with _ | k
     · simp at hx; subst hx; exact ⟨_, rfl, hc⟩
     · simp at hx
   · rintro e w' ⟨E, rfl, hE, hb⟩
     refine ⟨_, rfl, .inr ?_, hb⟩
     unfold newV
     rw [if_neg h0]
     exact ⟨h0, hs, [s], hE, by simp, pathText_one s⟩
def inV (s : ByteArray) (y : Say) : Say := if y.1 = 0 then fine else (y.1, s ++ ⟨#[46]⟩ ++ y.2)
theorem in_says {D : Nat → Prop} {w : World} {E : Value} {y : Say} (h : Says D w E y) (s : ByteArray) (hs : s.size + y.2.size ≤ 90000) :
 Calls Tryz.prog 130 #[E, .string s] w fun e w' => ∃ E', e = .returned E' ∧ Says (fun b => D b ∨ w.heap.size ≤ b) w' E' (inV s y) ∧ Below w.heap.size w w' := by
 rcases h with ⟨rfl, rfl⟩ | ⟨h0, hs0, p, h1, h2, h4⟩
 · refine (in_nil s w).mono ?_
   rintro e w' ⟨rfl, rfl⟩
   exact ⟨_, rfl, .inl ⟨if_pos rfl, rfl⟩, Below.refl _ _⟩
 · refine (in_in h1 s).mono ?_
   rintro e w' ⟨E', rfl, hE, hb⟩
   refine ⟨_, rfl, .inr ?_, hb⟩
   unfold inV
   rw [if_neg h0]
   refine ⟨h0, ?_, s :: p, hE, by simp, ?_⟩
   · show (s ++ ⟨#[46]⟩ ++ y.2).size ≤ _
     rw [ByteArray.size_append, ByteArray.size_append]
     show _ + 1 + _ ≤ _
     omega
   · rw [pathText_cons s h2, h4]
def firstV : List Say → Say
 | [] => fine
 | y :: l => if y.1 = 0 then firstV l else y
theorem first_says {D : Nat → Prop} {w : World} : ∀ {Es : List Value} {ys : List Say}, Es.length = ys.length → (∀ (k : Nat) (E : Value) (y : Say), Es[k]? = some E → ys[k]? = some y → Says D w E y) → Says D w (firstOf Es) (firstV ys)
 | [], [], _, _ => .inl ⟨rfl, rfl⟩
 | [], _ :: _, h, _ => by simp at h
 | _ :: _, [], h, _ => by simp at h
 | E :: Es, y :: ys, hl, h => by
  have h0 := h 0 E y rfl rfl
  have ih := first_says (Es := Es) (ys := ys) (by simpa using hl) (fun k E' c' h1 h2 => h (k + 1) E' c' (by simpa using h1) (by simpa using h2))
  rcases h0 with ⟨rfl, rfl⟩ | ⟨hc, hsz, p, hE, hq⟩
  · simpa [firstV, firstOf, fine] using ih
  · obtain ⟨u, x, rfl⟩ := hE.is.iface
    have : Says D w (.iface u x) y := .inr ⟨hc, hsz, p, hE, hq⟩
    simpa [firstV, firstOf, hc] using this
end Sd
end Go.Proofs.YtljbpelogjmciaaGreatDoor
namespace Go.Proofs.YtljbpelogjmciaaGreatDoor
namespace Sd
def withinV (n l m : Int) (p : ByteArray) : Say := if n < l ∨ m < n then (1, p) else fine
def nameN (s : ByteArray) (N : List ByteArray) : Say := if isName s = false then (30, t_name) else if N.any (fun y => y.toList == s.toList) then (7, t_name) else fine
def nameAfter (s : ByteArray) (N : List ByteArray) : List ByteArray := if (nameN s N).1 = 0 then N ++ [s] else N
def imageN (s : ByteArray) : Say := newV (if isImage s = true then 0 else 33) t_image
def reqN (a b c : Int) : Say := firstV [withinV a 0 big (t_req ++ t_cpu), withinV b 0 big (t_req ++ t_mem), withinV c 0 big (t_req ++ t_pids)]
def limitV (n l : Int) (p : ByteArray) : Say := if n = 0 then fine else withinV n l big p
def limN (a b c d e f : Int) : Say := firstV [limitV a d (t_lim ++ t_cpu), limitV b e (t_lim ++ t_mem), limitV c f (t_lim ++ t_pids)]
def portsN (P : List Int) : Nat → List Int → Say
 | _, [] => fine
 | k, p :: l => if p < 1 ∨ 65535 < p then (1, atB t_ports k) else if P.contains p then (150, atB t_ports k) else portsN (P ++ [p]) (k + 1) l
def portsAfter (P : List Int) : List Int → List Int
 | [] => P
 | p :: l => if p < 1 ∨ 65535 < p then P else if P.contains p then P else portsAfter (P ++ [p]) l
def portsL (P : List Int) (most : Int) (l : List Int) : Say := if most < l.length then (2, t_ports) else portsN P 0 l
def portsLAfter (P : List Int) (most : Int) (l : List Int) : List Int := if most < l.length then P else portsAfter P l
def probeN (ev fl every : Int) : Say := firstV [withinV ev 0 every t_every, withinV fl (if ev = 0 then 0 else 1) (if ev = 0 then 0 else 10) t_fails]
def oneN (x : Ctr) (N : List ByteArray) (P : List Int) (most every : Int) : Say :=
 firstV [nameN x.name N, imageN x.image, reqN x.rc x.rm x.rp, limN x.lc x.lm x.lp x.rc x.rm x.rp, portsL P most x.ports, probeN x.ev x.fl every]
def listFrom (name : ByteArray) (most every : Int) : Nat → List ByteArray → List Int → List Ctr → Say
 | _, _, _, [] => fine
 | i, N, P, x :: l => if (oneN x N P most every).1 = 0 then listFrom name most every (i + 1) (N ++ [x.name]) (P ++ x.ports) l else inV (atB name i) (oneN x N P most every)
def listN (name : ByteArray) (least most ports every : Int) (N : List ByteArray) (P : List Int) (l : List Ctr) : Say :=
 if (l.length : Int) < least ∨ most < (l.length : Int) then (2, name) else listFrom name ports every 0 N P l
theorem firstV_nil : firstV [] = fine := rfl
theorem firstV_cons (y : Say) (l : List Say) : firstV (y :: l) = if y.1 = 0 then firstV l else y := rfl
theorem nameAfter_fine {s : ByteArray} {N : List ByteArray} (h : (nameN s N).1 = 0) : nameAfter s N = N ++ [s] := if_pos h
theorem portsAfter_fine : ∀ {l : List Int} {P : List Int} {k : Nat}, (portsN P k l).1 = 0 → portsAfter P l = P ++ l
 | [], P, k, _ => by simp [portsAfter]
 | p :: l, P, k, h => by
  rw [portsN] at h
  rw [portsAfter]
  split at h
  · simp at h
  · rename_i h1
    rw [if_neg h1]
    split at h
    · simp at h
    · rename_i h2
      rw [if_neg h2, portsAfter_fine h, List.append_assoc]; rfl
theorem portsLAfter_fine {l : List Int} {P : List Int} {most : Int} (h : (portsL P most l).1 = 0) : portsLAfter P most l = P ++ l := by
 unfold portsL at h
 unfold portsLAfter
 split at h
 · simp at h
 · rename_i h1
   rw [if_neg h1]
   exact portsAfter_fine h
theorem portsAfter_len : ∀ (l : List Int) (P : List Int), (portsAfter P l).length ≤ P.length + l.length
 | [], P => by simp [portsAfter]
 | p :: l, P => by
  rw [portsAfter]
  split
  · simp
  · split
    · simp
    · have := portsAfter_len l (P ++ [p])
      simp at this ⊢; omega
theorem portsLAfter_len (l : List Int) (P : List Int) (most : Int) (h : 0 ≤ most) : ((portsLAfter P most l).length : Int) ≤ P.length + most := by
 unfold portsLAfter
 split
 · omega
 · have := portsAfter_len l P
   omega
theorem nameAfter_len (s : ByteArray) (N : List ByteArray) : (nameAfter s N).length ≤ N.length + 1 := by
 unfold nameAfter
 split <;> simp
theorem firstV_fine {l : List Say} (h : (firstV l).1 = 0) : ∀ y ∈ l, y.1 = 0 := by
 induction l with
 | nil => intro y hy; cases hy
 | cons z l ih =>
  rw [firstV_cons] at h
  split at h
  · rename_i h0
    intro y hy
    rcases List.mem_cons.1 hy with rfl | hy
    · exact h0
    · exact ih h y hy
  · rename_i h0
    exact absurd h h0
theorem any_names (l : List Ctr) (s : ByteArray) : (l.map (·.name)).any (fun y => y.toList == s.toList) = l.any (fun c => c.name.toList == s.toList) := by
 rw [List.any_map]; rfl
theorem has_ports (l : List Ctr) (p : Int) : (l.flatMap (·.ports)).contains p = hasV l p := by
 unfold hasV
 induction l with
 | nil => rfl
 | cons c l ih => simp only [List.flatMap_cons, List.any_cons]; rw [← ih]; simp
theorem portsN_from (a : List Ctr) : ∀ (l : List Int) (k : Nat) (seen : List Int), portsN (a.flatMap (·.ports) ++ seen) k l = portsFrom a k seen l
 | [], _, _ => rfl
 | p :: l, k, seen => by
  rw [portsN, portsFrom, List.append_assoc, portsN_from a l (k + 1) (seen ++ [p]), ← has_ports]
  have e : (a.flatMap (·.ports) ++ seen).contains p = ((a.flatMap (·.ports)).contains p || seen.contains p) := by simp
  rw [e]
theorem reqN_eq (a b c : Int) : reqN a b c = if 0 ≤ numsV false a b c 0 0 0 then (1, t_req ++ t_res (numsV false a b c 0 0 0)) else fine := by
 unfold reqN numsV numV withinV
 by_cases h1 : a < 0 ∨ big < a
 · have : (decide (a < 0) || decide (big < a)) = true := by simpa using h1
   simp [firstV, h1, this, t_res]
 · have e1 : (decide (a < 0) || decide (big < a)) = false := by simpa using h1
   by_cases h2 : b < 0 ∨ big < b
   · have : (decide (b < 0) || decide (big < b)) = true := by simpa using h2
     simp [firstV, h1, h2, e1, this, t_res, fine]
   · have e2 : (decide (b < 0) || decide (big < b)) = false := by simpa using h2
     by_cases h3 : c < 0 ∨ big < c
     · have : (decide (c < 0) || decide (big < c)) = true := by simpa using h3
       simp [firstV, h1, h2, h3, e1, e2, this, t_res, fine]
     · have e3 : (decide (c < 0) || decide (big < c)) = false := by simpa using h3
       simp [firstV, h1, h2, h3, e1, e2, e3, fine]
theorem numV_limit (n l : Int) (p : ByteArray) : limitV n l p = if numV true n l = true then (1, p) else fine := by
 unfold limitV withinV numV
 by_cases h : n = 0
 · simp [h]
 · by_cases h1 : n < l ∨ big < n
   · have : (decide (n < l) || decide (big < n)) = true := by simpa using h1
     simp [h, h1, this]
   · have : (decide (n < l) || decide (big < n)) = false := by simpa using h1
     simp [h, h1, this]
theorem limN_eq (a b c d e f : Int) : limN a b c d e f = if 0 ≤ numsV true a b c d e f then (1, t_lim ++ t_res (numsV true a b c d e f)) else fine := by
 unfold limN numsV
 rw [numV_limit, numV_limit, numV_limit]
 cases numV true a d <;> cases numV true b e <;> cases numV true c f <;> simp [firstV, fine, t_res]
theorem probeN_eq (ev fl : Int) (init : Bool) : probeN ev fl (if init = true then 0 else 1000) = probeV ev fl init := by
 unfold probeN probeV withinV
 cases init
 · simp only [Bool.false_eq_true, if_false, false_and, or_false]
   by_cases h1 : ev < 0 ∨ 1000 < ev
   · simp [firstV, h1]
   · by_cases h2 : ev = 0
     · subst h2
       by_cases h3 : fl = 0
       · subst h3; simp [firstV, fine]
       · have : fl < 0 ∨ 0 < fl := by omega
         simp [firstV, fine, h3, this]
     · have h4 : 0 < ev := by omega
       by_cases h3 : fl < 1 ∨ 10 < fl
       · simp [firstV, fine, h1, h2, h3, h4]
       · simp [firstV, fine, h1, h2, h3, h4]
 · simp only [if_true, true_and]
   by_cases h1 : ev < 0 ∨ 1000 < ev ∨ 0 < ev
   · have h0 : ev < 0 ∨ 0 < ev := by omega
     simp [firstV, h1, h0]
   · have h2 : ev = 0 := by omega
     subst h2
     by_cases h3 : fl = 0
     · subst h3; simp [firstV, fine]
     · have : fl < 0 ∨ 0 < fl := by omega
       simp [firstV, fine, h3, this]
theorem oneN_eq (x : Ctr) (a : List Ctr) (init : Bool) : oneN x (a.map (·.name)) (a.flatMap (·.ports)) (if init = true then 0 else 3) (if init = true then 0 else 1000) = oneV x a init := by
 unfold oneN oneV
 rw [reqN_eq, limN_eq, probeN_eq]
 unfold nameN imageN newV portsL
 rw [any_names]
 have hp := portsN_from a x.ports 0 []
 rw [List.append_nil] at hp
 rw [hp]
 have hlen : ((if init = true then (0 : Int) else 3) < (x.ports.length : Int)) ↔ (3 < x.ports.length ∨ (init = true ∧ 0 < x.ports.length)) := by
  cases init <;> simp <;> omega
 simp only [firstV_cons, firstV_nil]
 by_cases h1 : isName x.name = false
 · simp [h1]
 · by_cases h2 : a.any (fun c => c.name.toList == x.name.toList) = true
   · simp [h1, h2]
   · by_cases h3 : isImage x.image = false
     · simp [h1, h2, h3, fine]
     · have h3' : isImage x.image = true := by simpa using h3
       by_cases h4 : 0 ≤ numsV false x.rc x.rm x.rp 0 0 0
       · simp [h1, h2, h3', h4, fine]
       · by_cases h5 : 0 ≤ numsV true x.lc x.lm x.lp x.rc x.rm x.rp
         · simp [h1, h2, h3', h4, h5, fine]
         · by_cases h6 : 3 < x.ports.length ∨ (init = true ∧ 0 < x.ports.length)
           · have h6' := hlen.2 h6
             simp only [h1, h2, h3', h4, h5, h6, h6', if_true, if_false, fine]
             simp
           · have h6' := mt hlen.1 h6
             simp only [h1, h2, h3', h4, h5, h6, h6', if_true, if_false, fine]
             by_cases h7 : (portsFrom a 0 [] x.ports).1 = 0
             · simp only [h7]
               by_cases h8 : (probeV x.ev x.fl init).1 = 0
               · simp only [h8]
                 have : probeV x.ev x.fl init = fine := by
                  unfold probeV at h8 ⊢
                  split at h8
                  · simp at h8
                  · rename_i h9
                    rw [if_neg h9]
                    split at h8
                    · simp at h8
                    · rename_i h10
                      rw [if_neg h10]
                 simp [this, fine]
               · simp [h8]
             · simp [h7]
theorem listFrom_eq (name : ByteArray) (init : Bool) : ∀ (l : List Ctr) (i : Nat) (a : List Ctr),
 listFrom name (if init = true then 0 else 3) (if init = true then 0 else 1000) i (a.map (·.name)) (a.flatMap (·.ports)) l = ctrsFrom name init i a l
 | [], _, _ => rfl
 | x :: l, i, a => by
  rw [listFrom, ctrsFrom, oneN_eq]
  have ih := listFrom_eq name init l (i + 1) (a ++ [x])
  simp only [List.map_append, List.flatMap_append, List.map_cons, List.map_nil, List.flatMap_cons, List.flatMap_nil, List.append_nil] at ih
  rw [ih]
  unfold inV
  by_cases h : (oneV x a init).1 = 0 <;> simp [h]
end Sd
end Go.Proofs.YtljbpelogjmciaaGreatDoor
namespace Go.Proofs.YtljbpelogjmciaaGreatDoor
open Go.ChangeShapes Go.WideShapes Go.ChangeAt Go.RowKit Go.Sort
open Go.Lib
namespace NumText
theorem var_below {w w' : World} (hb : Below w.heap.size w w') {name : String} {cs : Array Value} (h : w.var? Tryz.prog name = some cs) : w'.var? Tryz.prog name = some cs := by
 unfold World.var? at h ⊢
 cases hg : Tryz.prog.globalNamed name with
 | none => rw [hg] at h; simp at h
 | some g =>
  rw [hg] at h
  simp only [Option.bind_some] at h ⊢
  have hlt : g < w.heap.size := by
   rcases Nat.lt_or_ge g w.heap.size with hl | hl
   · exact hl
   · rw [Array.getElem?_eq_none hl] at h; simp at h
  rw [hb.block g hlt]; exact h
def Tab (w : World) : Prop := Lib.TabIs Tryz.prog w "internal/strconv.uint64pow10" .u64 Lib.pow10Tab
theorem Tab.below {w w' : World} (h : Tab w) (hb : Below w.heap.size w w') : Tab w' := var_below hb h
theorem below_grow (w : World) (k : Nat) (os : Array Obj) : Below w.heap.size w (grow (w.drewN k) os) :=
 ⟨rfl, rfl, rfl, by simp [grow], fun j hj => by simp [grow, Array.getElem?_append, hj]⟩
theorem numtext_any (n : Int) (w : World) (h0 : -9223372036854775808 ≤ n) (h1 : n ≤ 9223372036854775807) (hL : Tab w) :
 Calls Tryz.prog 118 #[.int .i64 n] w fun e w' => e = .returned (.string ⟨(itoa n).toArray⟩) ∧ Below w.heap.size w w' := by
 go_enter Tryz.func118, Tryz.ntmps118
 go_wp2_with fail
 refine (Any.strconv_Itoa Tryz.laysM171 n h0 h1 _ hL).mono ?_
 rintro e w' ⟨rfl, k, os, rfl⟩
 go_wp2_with fail
 go_ret
 exact ⟨rfl, below_grow _ k os⟩
end NumText
end Go.Proofs.YtljbpelogjmciaaGreatDoor
namespace Go.Proofs.YtljbpelogjmciaaGreatDoor
open Go.ChangeShapes Go.WideShapes Go.ChangeAt Go.RowKit Go.Lib
open Sd Lists
namespace SpecOwn
structure SLaid (w : World) : Prop where
 err : Err.Laid w
 text : Text.Laid w
 tab : NumText.Tab w
theorem SLaid.below {w w' : World} (h : SLaid w) (hb : Below w.heap.size w w') : SLaid w' := ⟨h.err.keep hb, h.text.below hb, h.tab.below hb⟩
theorem member_any (s : ByteArray) (k : Nat) (hs : s.size ≤ 1000000) (hk : k ≤ 1000000) (w : World) (hL : NumText.Tab w) :
 Calls Tryz.prog 165 #[.string s, .int .i64 k] w fun e w' => e = .returned (.string (atB s k)) ∧ Below w.heap.size w w' := by
 have hl : (itoa (k : Int)).length ≤ 21 := itoa_length_le _ (by omega) (by omega)
 obtain ⟨d, hd⟩ : ∃ d : ByteArray, (⟨(itoa (k : Int)).toArray⟩ : ByteArray) = d := ⟨_, rfl⟩
 have hds : d.size ≤ 21 := by rw [← hd]; show (itoa (k : Int)).toArray.size ≤ 21; simpa using hl
 have a1 : ∀ v, (Op.stringOp .add s ⟨#[91]⟩).run Tryz.prog v = .ok (.string (s ++ ⟨#[91]⟩)) v := fun v => run_string_add_sum v _ _ (by show _ + 1 ≤ _; omega)
 have a2 : ∀ v, (Op.stringOp .add (s ++ ⟨#[91]⟩) d).run Tryz.prog v = .ok (.string (s ++ ⟨#[91]⟩ ++ d)) v := fun v => run_string_add_sum v _ _ (by rw [ByteArray.size_append]; show _ + 1 + _ ≤ _; omega)
 have a3 : ∀ v, (Op.stringOp .add (s ++ ⟨#[91]⟩ ++ d) ⟨#[93]⟩).run Tryz.prog v = .ok (.string (s ++ ⟨#[91]⟩ ++ d ++ ⟨#[93]⟩)) v := fun v => run_string_add_sum v _ _ (by rw [ByteArray.size_append, ByteArray.size_append]; show _ + 1 + _ + 1 ≤ _; omega)
 have HD := Lib.hid (show s ++ ⟨#[91]⟩ ++ d ++ ⟨#[93]⟩ = atB s k by rw [← hd]; rfl)
 have HE := Lib.hid hd
 have HL := Lib.hid hL
 clear hd hL
 go_enter Tryz.func165, Tryz.ntmps165
 go_wp2_with fail
 refine (NumText.numtext_any k w (by omega) (by omega) HL.out).mono ?_
 rw [HE.out]
 rintro e w1 ⟨rfl, hb⟩
 go_wp2
 go_ret
 exact ⟨congrArg (fun x => Ending.returned (.string x)) HD.out, hb⟩
theorem told_fine (w w' : World) (hb : Below w.heap.size w w') : Tells fine w (.returned .nilIface) w' := ⟨_, rfl, .inl ⟨rfl, rfl⟩, hb⟩
theorem tells_mono {y : Say} {w w0 w' : World} {e : Ending} (h : Tells y w0 e w') (hb : Below w.heap.size w w0) : Tells y w e w' := by
 obtain ⟨E, he, h1, h2⟩ := h
 exact ⟨E, he, h1.keep fun b hd _ => ⟨Nat.le_trans hb.size hd, rfl⟩, hb.trans (h2.mono hb.size)⟩
theorem within_any (n l m : Int) (s : ByteArray) (hs : s.size ≤ 100000) (w : World) :
 Calls Tryz.prog 134 #[.int .i64 n, .int .i64 l, .int .i64 m, .string s] w (Tells (withinV n l m s) w) := by
 by_cases h : n < l ∨ m < n
 · have HE := Lib.hid (show withinV n l m s = newV 1 s by unfold withinV newV; rw [if_pos h, if_neg (by decide)])
   by_cases h1 : n < l
   · clear h
     go_enter Tryz.func134, Tryz.ntmps134
     go_wp2_with fail
     refine (new_says 1 s w.heap.size 1 _ hs (by simp)).mono ?_
     rintro e w1 ⟨E, rfl, hE, hb⟩; have HX := Lib.hid (tells_mono (e := .returned E) ⟨E, rfl, hE, hb⟩ ((Below.refl _ w).alloc (Nat.le_refl _) _)); clear hE hb; go_wp2_with fail
     go_ret
     exact HE.out ▸ HX.out
   · have h2 : m < n := by omega
     clear h
     go_enter Tryz.func134, Tryz.ntmps134
     go_wp2_with fail
     refine (new_says 1 s w.heap.size 1 _ hs (by simp)).mono ?_
     rintro e w1 ⟨E, rfl, hE, hb⟩; have HX := Lib.hid (tells_mono (e := .returned E) ⟨E, rfl, hE, hb⟩ ((Below.refl _ w).alloc (Nat.le_refl _) _)); clear hE hb; go_wp2_with fail
     go_ret
     exact HE.out ▸ HX.out
 · have HE := Lib.hid (show withinV n l m s = fine by unfold withinV; rw [if_neg h])
   have h1 : ¬ n < l := by omega
   have h2 : ¬ m < n := by omega
   clear h
   go_enter Tryz.func134, Tryz.ntmps134
   go_wp2
   go_ret
   exact HE.out ▸ told_fine _ _ (Below.refl _ _)
theorem limit_any (n l : Int) (s : ByteArray) (hs : s.size ≤ 100000) (w : World) :
 Calls Tryz.prog 221 #[.int .i64 n, .int .i64 l, .string s] w (Tells (limitV n l s) w) := by
 by_cases h : n = 0
 · have HE := Lib.hid (show limitV n l s = fine by unfold limitV; rw [if_pos h])
   subst h
   go_enter Tryz.func221, Tryz.ntmps221
   go_wp2
   go_ret
   exact HE.out ▸ told_fine _ _ (Below.refl _ _)
 · have HE := Lib.hid (show limitV n l s = withinV n l big s by unfold limitV; rw [if_neg h])
   have h0 : (n == 0) = false := by simpa using h
   clear h
   go_enter Tryz.func221, Tryz.ntmps221
   go_wp2_with fail
   refine (within_any n l big s hs w).mono ?_
   rintro e w1 ⟨E, rfl, hE, hb⟩; have HX := Lib.hid (show Tells (withinV n l big s) w (.returned E) w1 from ⟨E, rfl, hE, hb⟩); clear hE hb; go_wp2_with fail
   go_ret
   exact HE.out ▸ HX.out
theorem two_cells {w : World} {g : Nat} {u v : Value} {t : TypeId} (h : w.heap[g]? = some (.cells #[u, v] t (0, 0))) :
 w.cell? ⟨g, 0, none⟩ = some u ∧ w.cell? ⟨g, 1, none⟩ = some v ∧ w.frozen? ⟨g, 0, none⟩ = false ∧ w.frozen? ⟨g, 1, none⟩ = false :=
 ⟨by simp [World.cell?, h], by simp [World.cell?, h], by simp [World.frozen?, h], by simp [World.frozen?, h]⟩
theorem two_set0 {w : World} {g : Nat} {u v : Value} {t : TypeId} (h : w.heap[g]? = some (.cells #[u, v] t (0, 0))) (x : Value) : (w.setCell ⟨g, 0, none⟩ x).heap[g]? = some (.cells #[x, v] t (0, 0)) := by
 simpa using heap_setCell_same w g 0 _ _ x h
theorem two_set1 {w : World} {g : Nat} {u v : Value} {t : TypeId} (h : w.heap[g]? = some (.cells #[u, v] t (0, 0))) (x : Value) : (w.setCell ⟨g, 1, none⟩ x).heap[g]? = some (.cells #[u, x] t (0, 0)) := by
 simpa using heap_setCell_same w g 1 _ _ x h
theorem lt_of_block {w : World} {g : Nat} {o : Obj} (h : w.heap[g]? = some o) : g < w.heap.size := by
 rcases Nat.lt_or_ge g w.heap.size with hl | hl
 · exact hl
 · rw [Array.getElem?_eq_none hl] at h; cases h
theorem owns_of {w w' : World} {base : Nat} {e : TypeId} {size n : Nat} {v : Value} {xs : List Value} (h : w.ownsRow base e size v n xs) (hk : ∀ r, v.ownBlock = some r → w'.heap[r]? = w.heap[r]?) : w'.ownsRow base e size v n xs := by
 refine ⟨h.1, ?_⟩
 rcases h.2 with h0 | ⟨g, cap, cur, rfl, h1, h2, h3⟩
 · exact .inl h0
 · exact .inr ⟨g, cap, cur, rfl, h1, (hk g rfl).trans h2, h3⟩
def InRow (g : Nat) (w : World) (b : Nat) : Prop := ∃ i a n c, w.cell? ⟨g, i, none⟩ = some (.slice (some a) n c) ∧ a.block = b
structure Ok (g : Nat) (w : World) : Prop where
 lt : g < w.heap.size
 rows : ∀ b, InRow g w b → b < w.heap.size
def Off (g : Nat) (w : World) (b : Nat) : Prop := b < w.heap.size ∧ b ≠ g ∧ ¬ InRow g w b
structure Av (g : Nat) (w w' : World) : Prop where
 os : w'.os = w.os
 tape : w'.tape = w.tape
 output : w'.output = w.output
 size : w.heap.size ≤ w'.heap.size
 low : ∀ k, k < g → k < w.heap.size → w'.heap[k]? = w.heap[k]?
 ok : Ok g w → Ok g w' ∧ ∀ b, Off g w b → Off g w' b ∧ w'.heap[b]? = w.heap[b]?
theorem Av.refl (g : Nat) (w : World) : Av g w w := ⟨rfl, rfl, rfl, Nat.le_refl _, fun _ _ _ => rfl, fun h => ⟨h, fun _ hb => ⟨hb, rfl⟩⟩⟩
theorem Av.trans {g : Nat} {a b c : World} (h : Av g a b) (k : Av g b c) : Av g a c :=
 ⟨k.os.trans h.os, k.tape.trans h.tape, k.output.trans h.output, Nat.le_trans h.size k.size, fun i hi hl => (k.low i hi (Nat.lt_of_lt_of_le hl h.size)).trans (h.low i hi hl), fun hok => ⟨(k.ok (h.ok hok).1).1, fun b hb => by
  obtain ⟨h1, h2⟩ := (h.ok hok).2 b hb
  obtain ⟨h3, h4⟩ := (k.ok (h.ok hok).1).2 b h1
  exact ⟨h3, h4.trans h2⟩⟩⟩
theorem InRow.of_same {g : Nat} {w w' : World} (h : w'.heap[g]? = w.heap[g]?) {b : Nat} (hb : InRow g w' b) : InRow g w b := by
 obtain ⟨i, a, n, c, h1, h2⟩ := hb
 exact ⟨i, a, n, c, (World.cell?_of_block (w := w) (w' := w') (a := ⟨g, i, none⟩) h).symm.trans h1, h2⟩
theorem Av.of_any {g : Nat} {w w' : World} (hb : Below w.heap.size w w') : Av g w w' :=
 ⟨hb.os, hb.tape, hb.output, hb.size, fun k _ hl => hb.block k hl, fun hok => ⟨⟨Nat.lt_of_lt_of_le hok.lt hb.size, fun b h => Nat.lt_of_lt_of_le (hok.rows b (h.of_same (hb.block g hok.lt))) hb.size⟩,
  fun b h => ⟨⟨Nat.lt_of_lt_of_le h.1 hb.size, h.2.1, fun hr => h.2.2 (hr.of_same (hb.block g hok.lt))⟩, hb.block b h.1⟩⟩⟩
theorem Av.of_below {g : Nat} {w w' : World} (hb : Below w.heap.size w w') (_ : g < w.heap.size) : Av g w w' := .of_any hb
theorem Ok.fresh {g : Nat} {w w' : World} (h : Ok g w) (hb : Below w.heap.size w w') {b : Nat} (h1 : w.heap.size ≤ b) (h2 : b < w'.heap.size) : Off g w' b :=
 ⟨h2, fun e => by have := h.lt; omega, fun hr => by have := h.rows b (hr.of_same (hb.block g h.lt)); omega⟩
structure TkV (w : World) (g : Nat) (A : Option Addr) (c : Nat) (B : Option Addr) (d : Nat) (N : List ByteArray) (P : List Int) : Prop where
 box : w.heap[g]? = some (.cells #[.slice A N.length c, .slice B P.length d] 179 (0, 0))
 names : w.ownsRow (g + 1) 9 1 (.slice A N.length c) N.length (N.map Value.string)
 ports : w.ownsRow (g + 1) 3 1 (.slice B P.length d) P.length (P.map (Value.int .i64))
def Tk (w : World) (g : Nat) (N : List ByteArray) (P : List Int) : Prop := ∃ A c B d, TkV w g A c B d N P
theorem TkV.lt {w : World} {g : Nat} {A : Option Addr} {c : Nat} {B : Option Addr} {d : Nat} {N : List ByteArray} {P : List Int} (h : TkV w g A c B d N P) : g < w.heap.size := lt_of_block h.box
theorem TkV.ok {w : World} {g : Nat} {A : Option Addr} {c : Nat} {B : Option Addr} {d : Nat} {N : List ByteArray} {P : List Int} (h : TkV w g A c B d N P) : Ok g w := by
 refine ⟨h.lt, ?_⟩
 rintro b ⟨i, a, n, k, h1, rfl⟩
 obtain ⟨c0, c1, _, _⟩ := two_cells h.box
 rcases i with _ | _ | i
 · have e := Option.some.inj (c0.symm.trans h1)
   exact (h.names.lt a.block (by rw [e]; rfl)).2
 · have e := Option.some.inj (c1.symm.trans h1)
   exact (h.ports.lt a.block (by rw [e]; rfl)).2
 · simp [World.cell?, h.box] at h1
theorem TkV.keep {w w' : World} {g : Nat} {A : Option Addr} {c : Nat} {B : Option Addr} {d : Nat} {N : List ByteArray} {P : List Int} (h : TkV w g A c B d N P) (hb : Below w.heap.size w w') : TkV w' g A c B d N P :=
 ⟨(hb.block g h.lt).trans h.box, owns_of h.names fun r hr => hb.block r (h.names.lt r hr).2, owns_of h.ports fun r hr => hb.block r (h.ports.lt r hr).2⟩
theorem Tk.keep {w w' : World} {g : Nat} {N : List ByteArray} {P : List Int} (h : Tk w g N P) (hb : Below w.heap.size w w') : Tk w' g N P := by
 obtain ⟨A, c, B, d, h⟩ := h
 exact ⟨A, c, B, d, h.keep hb⟩
theorem Tk.lt {w : World} {g : Nat} {N : List ByteArray} {P : List Int} (h : Tk w g N P) : g < w.heap.size := by
 obtain ⟨A, c, B, d, h⟩ := h
 exact h.lt
theorem Tk.ok {w : World} {g : Nat} {N : List ByteArray} {P : List Int} (h : Tk w g N P) : Ok g w := by
 obtain ⟨A, c, B, d, h⟩ := h
 exact h.ok
theorem TkV.apart {w : World} {g : Nat} {A : Option Addr} {c : Nat} {B : Option Addr} {d : Nat} {N : List ByteArray} {P : List Int} (h : TkV w g A c B d N P) {r : Nat} (h1 : (Value.slice A N.length c).ownBlock = some r) (h2 : (Value.slice B P.length d).ownBlock = some r) : False := by
 rcases h.names.2 with ⟨e, _⟩ | ⟨g1, cap, cur, e, _, hh, _⟩
 · rw [e] at h1; cases h1
 · rcases h.ports.2 with ⟨e2, _⟩ | ⟨g2, cap2, cur2, e2, _, hh2, _⟩
   · rw [e2] at h2; cases h2
   · rw [e] at h1
     rw [e2] at h2
     obtain rfl : g1 = r := Option.some.inj h1
     obtain rfl : g2 = g1 := Option.some.inj h2
     rw [hh] at hh2
     injection hh2 with h3
     injection h3 with _ h4 _
     exact absurd h4 (by decide)
theorem own_form {w : World} {base : Nat} {t : TypeId} {size n : Nat} {v : Value} {xs : List Value} (h : w.ownsRow base t size v n xs) : ∃ A c, v = .slice A n c := by
 rcases h.2 with ⟨h1, h0⟩ | ⟨g, cap, cur, h1, _⟩
 · exact ⟨none, 0, by rw [h1, h0]⟩
 · exact ⟨_, _, h1⟩
theorem TkV.push_name {w w2 : World} {g : Nat} {A : Option Addr} {c : Nat} {B : Option Addr} {d : Nat} {N : List ByteArray} {P : List Int} (h : TkV w g A c B d N P) (o : Obj) (s : ByteArray) (v' : Value)
 (hown : w2.ownsRow (g + 1) 9 1 v' (N.length + 1) (N.map Value.string ++ [.string s])) (hg : (w.alloc o).grownBy w2 (Value.slice A N.length c).ownBlock)
 (hloc : v'.ownBlock = (Value.slice A N.length c).ownBlock ∨ v'.ownBlock = some (w.heap.size + 1)) :
 Tk (w2.setCell ⟨g, 0, none⟩ v') g (N ++ [s]) P ∧ Av g w (w2.setCell ⟨g, 0, none⟩ v') := by
 have hb1 : Below w.heap.size w (w.alloc o) := (Below.refl _ _).alloc (Nat.le_refl _) _
 have h1 := h.keep hb1
 have hnew : w.heap.size + 1 = (w.alloc o).heap.size := by simp
 rw [hnew] at hloc
 clear hnew
 generalize hw1 : w.alloc o = w1 at *
 have hN : ∀ k, (Value.slice A N.length c).ownBlock = some k → g + 1 ≤ k ∧ k < w1.heap.size := fun k hk => h1.names.lt k hk
 have hgb : w2.heap[g]? = w1.heap[g]? := hg.block g h1.lt (fun e => by have := hN g e.symm; omega)
 have hbox2 : w2.heap[g]? = some (.cells #[.slice A N.length c, .slice B P.length d] 179 (0, 0)) := hgb.trans h1.box
 have hbox3 := two_set0 hbox2 v'
 have hoth : ∀ k, k ≠ g → (w2.setCell ⟨g, 0, none⟩ v').heap[k]? = w2.heap[k]? := fun k hk => Below.heap_setCell _ _ _ _ hk
 have hsz : (w2.setCell ⟨g, 0, none⟩ v').heap.size = w2.heap.size := by simp [World.setCell]
 obtain ⟨A', c', rfl⟩ := own_form hown
 have hpo : ∀ r, (Value.slice B P.length d).ownBlock = some r → w2.heap[r]? = w1.heap[r]? := fun r hr => hg.block r (h1.ports.lt r hr).2 (fun e => h1.apart e.symm hr)
 have hT : TkV (w2.setCell ⟨g, 0, none⟩ (.slice A' (N.length + 1) c')) g A' c' B d (N ++ [s]) P := by
  refine ⟨?_, ?_, ?_⟩
  · rw [List.length_append]; exact hbox3
  · rw [List.length_append, List.map_append]
    exact owns_of hown fun r hr => hoth r (by have := (hown.lt r hr).1; omega)
  · refine owns_of (owns_of h1.ports hpo) fun r hr => hoth r (by have := (h1.ports.lt r hr).1; omega)
 refine ⟨⟨_, _, _, _, hT⟩, hg.os.trans hb1.os, hg.tape.trans hb1.tape, hg.output.trans hb1.output, by rw [hsz]; exact Nat.le_trans hb1.size hg.size, fun k hk _ => ?_, fun hok => ⟨hT.ok, fun b hb => ?_⟩⟩
 · rw [hoth k (by omega), hg.block k (by have := h1.lt; omega) (fun e => by have := hN k e.symm; omega), hb1.block k (by have := h.lt; omega)]
 · obtain ⟨b1, b2, b3⟩ := hb
   obtain ⟨c0, c1, _, _⟩ := two_cells h.box
   have hne : some b ≠ (Value.slice A N.length c).ownBlock := fun e => by
    cases A with
    | none => cases e
    | some a => exact b3 ⟨0, a, _, _, c0, (Option.some.inj e).symm⟩
   have hne2 : some b ≠ (Value.slice B P.length d).ownBlock := fun e => by
    cases B with
    | none => cases e
    | some a => exact b3 ⟨1, a, _, _, c1, (Option.some.inj e).symm⟩
   refine ⟨⟨by rw [hsz]; have := hb1.size; have := hg.size; omega, b2, ?_⟩, ?_⟩
   · rintro ⟨i, a, n, k, e1, rfl⟩
     obtain ⟨d0, d1, _, _⟩ := two_cells hT.box
     simp only [List.length_append, List.length_singleton] at d0 d1
     rcases i with _ | _ | i
     · have e := Option.some.inj (d0.symm.trans e1)
       have e' : (Value.slice A' (N.length + 1) c').ownBlock = some a.block := congrArg Value.ownBlock e
       rcases hloc with hl | hl
       · exact hne (e'.symm.trans hl)
       · have := Option.some.inj (e'.symm.trans hl)
         have := hb1.size
         omega
     · have e := Option.some.inj (d1.symm.trans e1)
       exact hne2 (congrArg Value.ownBlock e).symm
     · simp [World.cell?, hT.box] at e1
   · rw [hoth b b2, hg.block b (by have := hb1.size; omega) hne, hb1.block b b1]
theorem TkV.push_port {w w2 : World} {g : Nat} {A : Option Addr} {c : Nat} {B : Option Addr} {d : Nat} {N : List ByteArray} {P : List Int} (h : TkV w g A c B d N P) (o : Obj) (z : Int) (v' : Value)
 (hown : w2.ownsRow (g + 1) 3 1 v' (P.length + 1) (P.map (Value.int .i64) ++ [.int .i64 z])) (hg : (w.alloc o).grownBy w2 (Value.slice B P.length d).ownBlock)
 (hloc : v'.ownBlock = (Value.slice B P.length d).ownBlock ∨ v'.ownBlock = some (w.heap.size + 1)) :
 Tk (w2.setCell ⟨g, 1, none⟩ v') g N (P ++ [z]) ∧ Av g w (w2.setCell ⟨g, 1, none⟩ v') := by
 have hb1 : Below w.heap.size w (w.alloc o) := (Below.refl _ _).alloc (Nat.le_refl _) _
 have h1 := h.keep hb1
 have hnew : w.heap.size + 1 = (w.alloc o).heap.size := by simp
 rw [hnew] at hloc
 clear hnew
 generalize hw1 : w.alloc o = w1 at *
 have hN : ∀ k, (Value.slice B P.length d).ownBlock = some k → g + 1 ≤ k ∧ k < w1.heap.size := fun k hk => h1.ports.lt k hk
 have hgb : w2.heap[g]? = w1.heap[g]? := hg.block g h1.lt (fun e => by have := hN g e.symm; omega)
 have hbox2 : w2.heap[g]? = some (.cells #[.slice A N.length c, .slice B P.length d] 179 (0, 0)) := hgb.trans h1.box
 have hbox3 := two_set1 hbox2 v'
 have hoth : ∀ k, k ≠ g → (w2.setCell ⟨g, 1, none⟩ v').heap[k]? = w2.heap[k]? := fun k hk => Below.heap_setCell _ _ _ _ hk
 have hsz : (w2.setCell ⟨g, 1, none⟩ v').heap.size = w2.heap.size := by simp [World.setCell]
 obtain ⟨A', c', rfl⟩ := own_form hown
 have hpo : ∀ r, (Value.slice A N.length c).ownBlock = some r → w2.heap[r]? = w1.heap[r]? := fun r hr => hg.block r (h1.names.lt r hr).2 (fun e => h1.apart hr e.symm)
 have hT : TkV (w2.setCell ⟨g, 1, none⟩ (.slice A' (P.length + 1) c')) g A c A' c' N (P ++ [z]) := by
  refine ⟨?_, ?_, ?_⟩
  · rw [List.length_append]; exact hbox3
  · refine owns_of (owns_of h1.names hpo) fun r hr => hoth r (by have := (h1.names.lt r hr).1; omega)
  · rw [List.length_append, List.map_append]
    exact owns_of hown fun r hr => hoth r (by have := (hown.lt r hr).1; omega)
 refine ⟨⟨_, _, _, _, hT⟩, hg.os.trans hb1.os, hg.tape.trans hb1.tape, hg.output.trans hb1.output, by rw [hsz]; exact Nat.le_trans hb1.size hg.size, fun k hk _ => ?_, fun hok => ⟨hT.ok, fun b hb => ?_⟩⟩
 · rw [hoth k (by omega), hg.block k (by have := h1.lt; omega) (fun e => by have := hN k e.symm; omega), hb1.block k (by have := h.lt; omega)]
 · obtain ⟨b1, b2, b3⟩ := hb
   obtain ⟨c0, c1, _, _⟩ := two_cells h.box
   have hne : some b ≠ (Value.slice A N.length c).ownBlock := fun e => by
    cases A with
    | none => cases e
    | some a => exact b3 ⟨0, a, _, _, c0, (Option.some.inj e).symm⟩
   have hne2 : some b ≠ (Value.slice B P.length d).ownBlock := fun e => by
    cases B with
    | none => cases e
    | some a => exact b3 ⟨1, a, _, _, c1, (Option.some.inj e).symm⟩
   refine ⟨⟨by rw [hsz]; have := hb1.size; have := hg.size; omega, b2, ?_⟩, ?_⟩
   · rintro ⟨i, a, n, k, e1, rfl⟩
     obtain ⟨d0, d1, _, _⟩ := two_cells hT.box
     simp only [List.length_append, List.length_singleton] at d0 d1
     rcases i with _ | _ | i
     · have e := Option.some.inj (d0.symm.trans e1)
       exact hne (congrArg Value.ownBlock e).symm
     · have e := Option.some.inj (d1.symm.trans e1)
       have e' : (Value.slice A' (P.length + 1) c').ownBlock = some a.block := congrArg Value.ownBlock e
       rcases hloc with hl | hl
       · exact hne2 (e'.symm.trans hl)
       · have := Option.some.inj (e'.symm.trans hl)
         have := hb1.size
         omega
     · simp [World.cell?, hT.box] at e1
   · rw [hoth b b2, hg.block b (by have := hb1.size; omega) hne2, hb1.block b b1]
def idxN {α : Type} (p : α → Bool) : Nat → List α → Int
 | _, [] => -1
 | k, x :: l => if p x = true then (k : Int) else idxN p (k + 1) l
theorem idxN_some {α : Type} (p : α → Bool) : ∀ (l : List α) (k : Nat), l.any p = true → 0 ≤ idxN p k l
 | [], _, h => by simp at h
 | x :: l, k, h => by
  rw [idxN]
  split
  · omega
  · rename_i h0
    exact idxN_some p l (k + 1) (by simpa [h0] using h)
theorem idxN_none {α : Type} (p : α → Bool) : ∀ (l : List α) (k : Nat), l.any p = false → idxN p k l = -1
 | [], _, _ => rfl
 | x :: l, k, h => by
  simp only [List.any_cons, Bool.or_eq_false_iff] at h
  rw [idxN, if_neg (by simp [h.1])]
  exact idxN_none p l (k + 1) h.2
theorem index_texts (s : ByteArray) (A : Option Addr) (c : Nat) (N : List ByteArray) (hn : N.length ≤ 9223372036854775807) (w : World) (h : Texts w A N) :
 Calls Tryz.prog 232 #[.slice A N.length c, .string s] w fun e w' => e = .returned (.int .i64 (idxN (fun y => s.toList == y.toList) 0 N)) ∧ w = w' := by
 have H := Lib.hid h
 clear h
 have hn' : (N.length : Int) ≤ 9223372036854775807 := by omega
 obtain ⟨R, hR⟩ : ∃ R, idxN (fun y => s.toList == y.toList) 0 N = R := ⟨_, rfl⟩
 rw [hR]
 have HR := Lib.hid hR
 clear hR
 go_enter Tryz.func232, Tryz.ntmps232
 go_wp2
 go_loop [8] (fun i => ∃ k : Nat, k ≤ N.length ∧ i = .int .i64 k ∧ Hid (R = idxN (fun y => s.toList == y.toList) k (N.drop k))) (fun i => N.length - (RowKit.intOf i).toNat)
 case atStart => exact ⟨0, Nat.zero_le _, rfl, by unfold Hid; rw [← HR.out, List.drop_zero]⟩
 case round =>
  obtain ⟨k, hk, rfl, HK⟩ := hrel
  by_cases hlt : k < N.length
  · obtain ⟨a, rfl, ha, hc⟩ := H.out.at hlt
    have HD := Lib.hid (List.drop_eq_getElem_cons hlt); obtain ⟨x, hx⟩ : ∃ x, N[k] = x := ⟨_, rfl⟩
    rw [hx] at hc
    have HX := Lib.hid hx
    have hkn : (k : Int) < (N.length : Int) := by omega
    clear hx
    cases hq : (s.toList == x.toList) with
    | true =>
     have HE := Lib.hid (show R = (k : Int) by rw [HK.out, HD.out, HX.out, idxN, if_pos hq]); go_wp2
     go_ret
     exact ⟨by rw [HE.out]; rfl, rfl⟩
    | false =>
     have HE := Lib.hid (show R = idxN (fun y => s.toList == y.toList) (k + 1) (N.drop (k + 1)) by rw [HK.out, HD.out, HX.out, idxN, if_neg (by rw [hq]; simp)]); go_wp2
     go_round
     case rel => exact ⟨k + 1, by omega, by go_num, HE.out⟩
     case measure => simp [RowKit.intOf]; omega
  · have HE := Lib.hid (show R = -1 by rw [HK.out, List.drop_eq_nil_of_le (by omega)]; rfl)
    go_wp2
    go_ret
    exact ⟨by rw [HE.out]; rfl, rfl⟩
theorem index_nums (z : Int) (A : Option Addr) (c : Nat) (P : List Int) (hn : P.length ≤ 9223372036854775807) (w : World) (h : ∀ (k : Nat) (x : Int), P[k]? = some x → ∃ a, A = some a ∧ w.cell? (a.add k) = some (.int .i64 x)) :
 Calls Tryz.prog 235 #[.slice A P.length c, .int .i64 z] w fun e w' => e = .returned (.int .i64 (idxN (fun y => z == y) 0 P)) ∧ w = w' := by
 have H := Lib.hid h
 clear h
 have hn' : (P.length : Int) ≤ 9223372036854775807 := by omega
 obtain ⟨R, hR⟩ : ∃ R, idxN (fun y => z == y) 0 P = R := ⟨_, rfl⟩
 rw [hR]
 have HR := Lib.hid hR
 clear hR
 go_enter Tryz.func235, Tryz.ntmps235
 go_wp2
 go_loop [8] (fun i => ∃ k : Nat, k ≤ P.length ∧ i = .int .i64 k ∧ Hid (R = idxN (fun y => z == y) k (P.drop k))) (fun i => P.length - (RowKit.intOf i).toNat)
 case atStart => exact ⟨0, Nat.zero_le _, rfl, by unfold Hid; rw [← HR.out, List.drop_zero]⟩
 case round =>
  obtain ⟨k, hk, rfl, HK⟩ := hrel
  by_cases hlt : k < P.length
  · obtain ⟨a, rfl, hc⟩ := H.out k P[k] (List.getElem?_eq_getElem hlt)
    have HD := Lib.hid (List.drop_eq_getElem_cons hlt); obtain ⟨x, hx⟩ : ∃ x, P[k] = x := ⟨_, rfl⟩
    rw [hx] at hc
    have HX := Lib.hid hx
    have hkn : (k : Int) < (P.length : Int) := by omega
    clear hx
    cases hq : (z == x) with
    | true =>
     have HE := Lib.hid (show R = (k : Int) by rw [HK.out, HD.out, HX.out, idxN, if_pos hq]); go_wp2
     go_ret
     exact ⟨by rw [HE.out]; rfl, rfl⟩
    | false =>
     have HE := Lib.hid (show R = idxN (fun y => z == y) (k + 1) (P.drop (k + 1)) by rw [HK.out, HD.out, HX.out, idxN, if_neg (by rw [hq]; simp)]); go_wp2
     go_round
     case rel => exact ⟨k + 1, by omega, by go_num, HE.out⟩
     case measure => simp [RowKit.intOf]; omega
  · have HE := Lib.hid (show R = -1 by rw [HK.out, List.drop_eq_nil_of_le (by omega)]; rfl)
    go_wp2
    go_ret
    exact ⟨by rw [HE.out]; rfl, rfl⟩
theorem contains_texts (s : ByteArray) (A : Option Addr) (c : Nat) (N : List ByteArray) (hn : N.length ≤ 9223372036854775807) (w : World) (h : Texts w A N) :
 Calls Tryz.prog 219 #[.slice A N.length c, .string s] w fun e w' => e = .returned (.bool (N.any fun y => y.toList == s.toList)) ∧ w = w' := by
 have hcm : (N.any fun y => y.toList == s.toList) = N.any fun y => s.toList == y.toList := by congr 1; funext y; exact Bool.beq_comm
 rw [hcm]
 have H := Lib.hid h
 clear h hcm
 obtain ⟨b, hb⟩ : ∃ b, (N.any fun y => s.toList == y.toList) = b := ⟨_, rfl⟩
 rw [hb]
 obtain ⟨z, hz⟩ : ∃ z, idxN (fun y => s.toList == y.toList) 0 N = z := ⟨_, rfl⟩
 have HZ := Lib.hid hz
 cases b with
 | true =>
  have h0 : 0 ≤ z := hz ▸ idxN_some _ N 0 hb
  clear hb hz
  go_enter Tryz.func219, Tryz.ntmps219
  go_wp2_with fail
  refine (index_texts s A c N hn _ H.out).mono ?_
  rw [HZ.out]; rintro e w1 ⟨rfl, rfl⟩; go_wp2
  go_ret
  exact ⟨rfl, rfl⟩
 | false =>
  obtain rfl : -1 = z := hz ▸ (idxN_none _ N 0 hb).symm
  clear hb hz
  go_enter Tryz.func219, Tryz.ntmps219
  go_wp2_with fail
  refine (index_texts s A c N hn _ H.out).mono ?_
  rw [HZ.out]; rintro e w1 ⟨rfl, rfl⟩; go_wp2
  go_ret
  exact ⟨rfl, rfl⟩
theorem contains_nums (z : Int) (A : Option Addr) (c : Nat) (P : List Int) (hn : P.length ≤ 9223372036854775807) (w : World) (h : ∀ (k : Nat) (x : Int), P[k]? = some x → ∃ a, A = some a ∧ w.cell? (a.add k) = some (.int .i64 x)) :
 Calls Tryz.prog 222 #[.slice A P.length c, .int .i64 z] w fun e w' => e = .returned (.bool (P.contains z)) ∧ w = w' := by
 have hcm : P.contains z = P.any fun y => z == y := by
  rw [List.contains_eq_any_beq]
 rw [hcm]
 have H := Lib.hid h
 clear h hcm
 obtain ⟨b, hb⟩ : ∃ b, (P.any fun y => z == y) = b := ⟨_, rfl⟩
 rw [hb]
 obtain ⟨y, hy⟩ : ∃ y, idxN (fun y => z == y) 0 P = y := ⟨_, rfl⟩
 have HZ := Lib.hid hy
 cases b with
 | true =>
  have h0 : 0 ≤ y := hy ▸ idxN_some _ P 0 hb
  clear hb hy
  go_enter Tryz.func222, Tryz.ntmps222
  go_wp2_with fail
  refine (index_nums z A c P hn _ H.out).mono ?_
  rw [HZ.out]; rintro e w1 ⟨rfl, rfl⟩; go_wp2
  go_ret
  exact ⟨rfl, rfl⟩
 | false =>
  obtain rfl : -1 = y := hy ▸ (idxN_none _ P 0 hb).symm
  clear hb hy
  go_enter Tryz.func222, Tryz.ntmps222
  go_wp2_with fail
  refine (index_nums z A c P hn _ H.out).mono ?_
  rw [HZ.out]; rintro e w1 ⟨rfl, rfl⟩; go_wp2
  go_ret
  exact ⟨rfl, rfl⟩
theorem info_int : (Tryz.prog.info? 3).map (fun i => (i.zero, i.size, i.bytes)) = some (some (.int .i64 0), 1, 8) := by kernel_rfl
def Took (g : Nat) (y : Say) (N : List ByteArray) (P : List Int) (w : World) (e : Ending) (w' : World) : Prop :=
 ∃ E, e = .returned E ∧ Says (Off g w') w' E y ∧ Av g w w' ∧ Tk w' g N P
theorem tells_off {g : Nat} {y : Say} {w w1 w' : World} {E : Value} {N : List ByteArray} {P : List Int} (hT : Tk w1 g N P) (hb1 : Below w.heap.size w w1) (hg : g < w.heap.size) (h : Tells y w1 (.returned E) w') : Took g y N P w (.returned E) w' := by
 obtain ⟨E', he, h1, h2⟩ := h
 injection he with he
 subst he
 refine ⟨_, rfl, ?_, Av.of_below (hb1.trans (h2.mono hb1.size)) hg, hT.keep h2⟩
 rcases h1 with h1 | ⟨h0, hs, p, hp, hr⟩
 · exact .inl h1
 · refine .inr ⟨h0, hs, p, ?_, hr⟩
   refine IsIn.keep (w' := w') hp fun b hd hlt => ⟨hT.ok.fresh h2 hd hlt, rfl⟩
theorem tells_on {g : Nat} {y : Say} {w w1 w' : World} {E : Value} {N : List ByteArray} {P : List Int} (hT : Tk w1 g N P) (hA : Av g w w1) (h : Tells y w1 (.returned E) w') : Took g y N P w (.returned E) w' := by
 obtain ⟨E', he, h1, h2, h3⟩ := tells_off hT (Below.refl _ _) hT.lt h
 exact ⟨E', he, h1, hA.trans h2, h3⟩
theorem Av.base {g : Nat} {w0 w w' : World} (h : Av g w w') (hb : Below w0.heap.size w0 w) (hB : w0.heap.size ≤ g) : Below w0.heap.size w0 w' :=
 ⟨h.os.trans hb.os, h.tape.trans hb.tape, h.output.trans hb.output, Nat.le_trans hb.size h.size, fun k hk => (h.low k (Nat.lt_of_lt_of_le hk hB) (Nat.lt_of_lt_of_le hk hb.size)).trans (hb.block k hk)⟩
theorem texts_of_own {w : World} {base : Nat} {A : Option Addr} {n c : Nat} {p : List ByteArray} (h : w.ownsRow base 9 1 (.slice A n c) p.length (p.map Value.string)) : Texts w A p := by
 rcases h.2 with ⟨h1, h0⟩ | ⟨g, cap, cur, h1, _⟩
 · obtain rfl : p = [] := List.eq_nil_of_length_eq_zero h0
   exact fun k x hx => by simp at hx
 · injection h1 with e1 e2 e3
   subst e1
   intro k x hx
   have hc := h.cells (g := g) rfl k (.string x) (by rw [List.getElem?_map, hx]; rfl)
   exact ⟨_, rfl, (h.lt g rfl).2, hc⟩
theorem nums_of_own {w : World} {base : Nat} {A : Option Addr} {n c : Nat} {p : List Int} (h : w.ownsRow base 3 1 (.slice A n c) p.length (p.map (Value.int .i64))) :
 ∀ (k : Nat) (x : Int), p[k]? = some x → ∃ a, A = some a ∧ w.cell? (a.add k) = some (.int .i64 x) := by
 rcases h.2 with ⟨h1, h0⟩ | ⟨g, cap, cur, h1, _⟩
 · obtain rfl : p = [] := List.eq_nil_of_length_eq_zero h0
   exact fun k x hx => by simp at hx
 · injection h1 with e1 e2 e3
   subst e1
   intro k x hx
   exact ⟨_, rfl, h.cells (g := g) rfl k (.int .i64 x) (by rw [List.getElem?_map, hx]; rfl)⟩
set_option maxHeartbeats 1000000 in
theorem takeName_any (g : Nat) (s : ByteArray) (N : List ByteArray) (P : List Int) (hs : s.size ≤ 1000) (hN : N.length ≤ 1000) (w : World) (hL : SLaid w) (hT : Tk w g N P) :
 Calls Tryz.prog 194 #[.pointer (some ⟨g, 0, none⟩), .string s] w (Took g (nameN s N) (nameAfter s N) P w) := by
 have HL := Lib.hid hL
 have HT := Lib.hid hT
 obtain ⟨A, c, B, d, hV⟩ := hT
 have HV := Lib.hid hV
 obtain ⟨c0, c1, f0, f1⟩ := two_cells hV.box
 have hg := hV.lt
 have HTX := Lib.hid (texts_of_own hV.names)
 obtain ⟨i0, hi, hz0, hz1, hz2⟩ := info_parts Err.info_string
 clear hL hV
 cases hname : TextPure.nameL s.data.toList with
 | false =>
  have HE := Lib.hid (show nameN s N = newV 30 t_name by unfold nameN newV; rw [if_pos (show isName s = false from hname), if_neg (by decide)]); have HA := Lib.hid (show nameAfter s N = N by unfold nameAfter; rw [HE.out]; rfl); have HC := Lib.hid (show Text.codeN (TextPure.nameL s.data.toList) 30 = 30 by rw [hname]; rfl); clear hname
  go_enter Tryz.func194, Tryz.ntmps194
  go_wp2_with fail
  refine (Text.name_any s (by unfold maxLen; omega) _ HL.out.text).mono ?_
  rw [HC.out]; rintro e w1 ⟨rfl, rfl⟩; go_wp2_with fail
  refine (new_says 30 t_name w.heap.size 1 _ (by decide) (by simp [t_name])).mono ?_
  rintro e w1 ⟨E, rfl, hE, hb⟩; have HX := Lib.hid (tells_off (HT.out.keep ((Below.refl _ w).alloc (Nat.le_refl _) _)) ((Below.refl _ w).alloc (Nat.le_refl _) _) hg ⟨E, rfl, hE, hb⟩); clear hE hb; go_wp2_with fail
  go_ret
  rw [HE.out, HA.out]
  exact HX.out
 | true =>
  have HC := Lib.hid (show Text.codeN (TextPure.nameL s.data.toList) 30 = 0 by rw [hname]; rfl)
  cases hin : N.any (fun y => y.toList == s.toList) with
  | true =>
   have HE := Lib.hid (show nameN s N = newV 7 t_name by unfold nameN newV; rw [if_neg (show ¬ isName s = false by show ¬ TextPure.nameL _ = _; rw [hname]; simp), if_pos hin, if_neg (by decide)]); have HA := Lib.hid (show nameAfter s N = N by unfold nameAfter; rw [HE.out]; rfl)
   have HI := Lib.hid hin
   clear hname hin
   go_enter Tryz.func194, Tryz.ntmps194
   go_wp2_with fail
   refine (Text.name_any s (by unfold maxLen; omega) _ HL.out.text).mono ?_
   rw [HC.out]; rintro e w1 ⟨rfl, rfl⟩; go_wp2_with fail
   refine (contains_texts s A c N (by omega) _ HTX.out).mono ?_
   rw [HI.out]; rintro e w1 ⟨rfl, rfl⟩; go_wp2_with fail
   refine (new_says 7 t_name w.heap.size 1 _ (by decide) (by simp [t_name])).mono ?_
   rintro e w1 ⟨E, rfl, hE, hb⟩; have HX := Lib.hid (tells_off (HT.out.keep ((Below.refl _ w).alloc (Nat.le_refl _) _)) ((Below.refl _ w).alloc (Nat.le_refl _) _) hg ⟨E, rfl, hE, hb⟩); clear hE hb; go_wp2_with fail
   go_ret
   rw [HE.out, HA.out]
   exact HX.out
  | false =>
   have HE := Lib.hid (show nameN s N = fine by unfold nameN; rw [if_neg (show ¬ isName s = false by show ¬ TextPure.nameL _ = _; rw [hname]; simp), if_neg (by rw [hin]; simp)]); have HA := Lib.hid (show nameAfter s N = N ++ [s] by unfold nameAfter; rw [HE.out]; rfl)
   have HI := Lib.hid hin
   clear hname hin
   go_enter Tryz.func194, Tryz.ntmps194
   go_wp2_with fail
   refine (Text.name_any s (by unfold maxLen; omega) _ HL.out.text).mono ?_
   rw [HC.out]; rintro e w1 ⟨rfl, rfl⟩; go_wp2_with fail
   refine (contains_texts s A c N (by omega) _ HTX.out).mono ?_
   rw [HI.out]; rintro e w1 ⟨rfl, rfl⟩
   go_wp2_with (at_builtin; refine wpList_append_own_at _ rfl _ _ 116 rfl (g + 1) 9 i0 (.string ⟨#[]⟩) 1 16 Tryz.underlying116 hi hz0 hz1 hz2 rfl (by decide) _ _ _ rfl (HV.out.names.alloc _) ⟨w.heap.size, 0, none⟩ 1 1 [.string s] rfl rfl (cell_one_new _ _ _) (by intro u hu; simp at hu; subst hu; rfl) (by unfold maxLen; omega) (by omega) (by simp; omega) ?_)
   intro v' w7 hown' hgrow hnil hloc
   obtain ⟨A', c', rfl⟩ := own_form hown'
   have HP := Lib.hid (HV.out.push_name (.cells #[.string s] 9) s _ hown' hgrow hloc)
   have hsame : w7.heap[g]? = w.heap[g]? := by
    have h1 := hgrow.block g (by simp; omega) (fun e => by have := (HV.out.names.lt g e.symm).1; omega)
    rw [h1]
    exact ((Below.refl w.heap.size w).alloc (Nat.le_refl _) _).block g hg
   have hcell : w7.cell? ⟨g, 0, none⟩ = some (.slice A N.length c) := (World.cell?_of_block (w := w) (a := ⟨g, 0, none⟩) hsame).trans c0
   have hfz : w7.frozen? ⟨g, 0, none⟩ = false := (World.frozen?_of_block (w := w) (a := ⟨g, 0, none⟩) hsame).trans f0
   clear hown' hgrow hnil hloc hsame c0 c1 f0 f1; go_wp2
   go_ret
   rw [HE.out, HA.out]
   exact ⟨_, rfl, .inl ⟨rfl, rfl⟩, HP.out.2, HP.out.1⟩
set_option maxHeartbeats 2000000 in
theorem takePorts_any (w0 : World) (hL : SLaid w0) (g : Nat) (hg0 : w0.heap.size ≤ g) (LA : Option Addr) (lc : Nat) (l : List Int) (most : Int) (hl : Nums .i64 w0 LA l) (hll : l.length ≤ 1000) (N : List ByteArray) (P : List Int) (hP : P.length ≤ 1000)
 (w : World) (hb0 : Below w0.heap.size w0 w) (hT : Tk w g N P) :
 Calls Tryz.prog 198 #[.pointer (some ⟨g, 0, none⟩), .slice LA l.length lc, .int .i64 most] w (Took g (portsL P most l) N (portsLAfter P most l) w) := by
 have HL := Lib.hid hL
 have HT := Lib.hid hT
 have HN := Lib.hid hl
 have HB := Lib.hid hb0
 have hlt := hT.lt
 obtain ⟨i0, hi, hz0, hz1, hz2⟩ := info_parts info_int
 clear hL hT hl hb0
 by_cases hm : most < (l.length : Int)
 · have HE := Lib.hid (show portsL P most l = newV 2 t_ports by unfold portsL newV; rw [if_pos hm, if_neg (by decide)])
   have HA := Lib.hid (show portsLAfter P most l = P by unfold portsLAfter; rw [if_pos hm])
   go_enter Tryz.func198, Tryz.ntmps198
   go_wp2_with fail
   refine (new_says 2 t_ports w.heap.size 1 _ (by decide) (by simp [t_ports])).mono ?_
   rintro e w1 ⟨E, rfl, hE, hb⟩; have HX := Lib.hid (tells_off (HT.out.keep ((Below.refl _ w).alloc (Nat.le_refl _) _)) ((Below.refl _ w).alloc (Nat.le_refl _) _) hlt ⟨E, rfl, hE, hb⟩); clear hE hb; go_wp2_with fail
   go_ret
   rw [HE.out, HA.out]
   exact HX.out
 · have HE := Lib.hid (show portsL P most l = portsN P 0 l by unfold portsL; rw [if_neg hm])
   have HA := Lib.hid (show portsLAfter P most l = portsAfter P l by unfold portsLAfter; rw [if_neg hm])
   go_enter Tryz.func198, Tryz.ntmps198
   go_wp2_with fail
   go_loopw [19] (fun i wr => ∃ (k : Nat) (Q : List Int), k ≤ l.length ∧ i = .int .i64 k ∧ Q.length ≤ P.length + k ∧ Hid (Tk wr g N Q) ∧ Hid (Av g w wr) ∧ Hid (portsN P 0 l = portsN Q k (l.drop k)) ∧ Hid (portsAfter P l = portsAfter Q (l.drop k))) (fun i _ => l.length - (RowKit.intOf i).toNat)
   case atStart => exact ⟨0, P, Nat.zero_le _, rfl, by omega, HT.out, Av.refl _ _, by unfold Hid; rw [List.drop_zero], by unfold Hid; rw [List.drop_zero]⟩
   case round =>
    obtain ⟨k, Q, hk, rfl, hQ, HTk, HAv, H1, H2⟩ := hrel
    by_cases hkl : k < l.length
    · have hkn : (k : Int) < (l.length : Int) := by omega
      have HBr := Lib.hid (HAv.out.base HB.out hg0)
      obtain ⟨hwf, a, rfl, ha, hc⟩ := (Nums.below HN.out HBr.out).at hkl
      have HD := Lib.hid (List.drop_eq_getElem_cons hkl); obtain ⟨z, hz⟩ : ∃ z, l[k] = z := ⟨_, rfl⟩
      rw [hz] at hc hwf
      have HZ := Lib.hid hz
      clear hz; go_wp2_with fail
      refine (member_any t_ports k (by decide) (by omega) wr (HL.out.below HBr.out).tab).mono ?_
      rintro e w1 ⟨rfl, hb1⟩
      have hasz : (atB t_ports k).size ≤ 100 := Nat.le_trans (SpecRef.atB_size t_ports k (by omega)) (by decide)
      obtain ⟨u, hu⟩ : ∃ u, atB t_ports k = u := ⟨_, rfl⟩
      rw [hu] at hasz ⊢
      have HU := Lib.hid hu
      have HT1 := Lib.hid (HTk.out.keep hb1); have HA1 := Lib.hid (HAv.out.trans (Av.of_below hb1 HTk.out.lt)); clear hu hc hb1; go_wp2_with fail
      refine (within_any z 1 65535 u (by omega) w1).mono ?_
      by_cases hr : z < 1 ∨ 65535 < z
      · have HV : Hid (withinV z 1 65535 u = (1, u)) := by unfold Hid withinV; rw [if_pos hr]
        have HF := Lib.hid (show portsN P 0 l = (1, u) by rw [H1.out, HD.out, HZ.out, portsN, if_pos hr, HU.out]); have HG := Lib.hid (show portsAfter P l = Q by rw [H2.out, HD.out, HZ.out, portsAfter, if_pos hr]); rw [HV.out]; rintro e w2 ⟨E, rfl, hE, hb2⟩; have HX := Lib.hid (tells_on HT1.out HA1.out ⟨E, rfl, hE, hb2⟩)
        obtain ⟨uu, xx, rfl⟩ : ∃ uu xx, E = .iface uu xx := by
         rcases hE.form with h | h
         · have := hE.nil_iff.1 h
           simp at this
         · exact h
        clear hE hb2 hr; go_wp2
        go_ret
        rw [HE.out, HA.out, HF.out, HG.out]
        exact HX.out
      · have HV : Hid (withinV z 1 65535 u = fine) := by unfold Hid withinV; rw [if_neg hr]
        rw [HV.out]; rintro e w2 ⟨E, rfl, hE, hb2⟩
        obtain rfl : E = .nilIface := hE.nil_iff.2 rfl
        have HT2 := Lib.hid (HT1.out.keep hb2); have HA2 := Lib.hid (HA1.out.trans (Av.of_below hb2 HT1.out.lt))
        obtain ⟨A, c, B, d, hV⟩ := HT2.out
        have HV2 := Lib.hid hV
        obtain ⟨c0, c1, f0, f1⟩ := two_cells hV.box
        have hg2 := hV.lt
        have HNU := Lib.hid (nums_of_own hV.ports)
        have HR := Lib.hid hr
        clear hE hb2 hV hr; go_wp2_with fail
        refine (contains_nums z B d Q (by omega) _ HNU.out).mono ?_
        cases hin : Q.contains z with
        | true =>
         have HF := Lib.hid (show portsN P 0 l = newV 150 u by rw [H1.out, HD.out, HZ.out, portsN, if_neg HR.out, if_pos hin, HU.out]; rfl); have HG := Lib.hid (show portsAfter P l = Q by rw [H2.out, HD.out, HZ.out, portsAfter, if_neg HR.out, if_pos hin]); clear hin; rintro e w3 ⟨rfl, rfl⟩; go_wp2_with fail
         refine (new_says 150 u w2.heap.size 1 _ (by omega) (by simp)).mono ?_
         rintro e w3 ⟨E, rfl, hE, hb3⟩
         have hal : Below w2.heap.size w2 (w2.alloc (.cells #[.string u] 9)) := (Below.refl _ _).alloc (Nat.le_refl _) _
         have HX := Lib.hid (tells_on (HT2.out.keep hal) (HA2.out.trans (Av.of_below hal hg2)) ⟨E, rfl, hE, hb3⟩); clear hE hb3 hal c0 c1 f0 f1; go_wp2_with fail
         go_ret
         rw [HE.out, HA.out, HF.out, HG.out]
         exact HX.out
        | false =>
         have HF := Lib.hid (show portsN P 0 l = portsN (Q ++ [z]) (k + 1) (l.drop (k + 1)) by rw [H1.out, HD.out, HZ.out, portsN, if_neg HR.out, if_neg (by rw [hin]; simp)]); have HG := Lib.hid (show portsAfter P l = portsAfter (Q ++ [z]) (l.drop (k + 1)) by rw [H2.out, HD.out, HZ.out, portsAfter, if_neg HR.out, if_neg (by rw [hin]; simp)]); clear hin; rintro e w3 ⟨rfl, rfl⟩
         go_wp2_with (at_builtin; refine wpList_append_own_at _ rfl _ _ 40 rfl (g + 1) 3 i0 (.int .i64 0) 1 8 Tryz.underlying40 hi hz0 hz1 hz2 rfl (by decide) _ _ _ rfl (HV2.out.ports.alloc _) ⟨w2.heap.size, 0, none⟩ 1 1 [.int .i64 z] rfl rfl (cell_one_new _ _ _) (by intro u hu; simp at hu; subst hu; rfl) (by unfold maxLen; omega) (by omega) (by simp; omega) ?_)
         intro v' w7 hown' hgrow hnil hloc
         obtain ⟨A', c', rfl⟩ := own_form hown'
         have HP := Lib.hid (HV2.out.push_port (.cells #[.int .i64 z] 3) z _ hown' hgrow hloc)
         have hsame : w7.heap[g]? = w2.heap[g]? := by
          have h1 := hgrow.block g (by simp; omega) (fun e => by have := (HV2.out.ports.lt g e.symm).1; omega)
          rw [h1]
          exact ((Below.refl w2.heap.size w2).alloc (Nat.le_refl _) _).block g hg2
         have hcell : w7.cell? ⟨g, 1, none⟩ = some (.slice B Q.length d) := (World.cell?_of_block (w := w2) (a := ⟨g, 1, none⟩) hsame).trans c1
         have hfz : w7.frozen? ⟨g, 1, none⟩ = false := (World.frozen?_of_block (w := w2) (a := ⟨g, 1, none⟩) hsame).trans f1
         clear hown' hgrow hnil hloc hsame c0 c1 f0 f1; go_wp2
         go_roundw
         case rel => exact ⟨k + 1, Q ++ [z], by omega, by go_num, by simp; omega, HP.out.1, HA2.out.trans HP.out.2, HF.out, HG.out⟩
         case measure => simp [RowKit.intOf]; omega
    · have HF := Lib.hid (show portsN P 0 l = fine by rw [H1.out, List.drop_eq_nil_of_le (by omega)]; rfl)
      have HG := Lib.hid (show portsAfter P l = Q by rw [H2.out, List.drop_eq_nil_of_le (by omega)]; rfl); go_wp2
      go_ret
      rw [HE.out, HA.out, HF.out, HG.out]
      exact ⟨_, rfl, .inl ⟨rfl, rfl⟩, HAv.out, HTk.out⟩
end SpecOwn
end Go.Proofs.YtljbpelogjmciaaGreatDoor
