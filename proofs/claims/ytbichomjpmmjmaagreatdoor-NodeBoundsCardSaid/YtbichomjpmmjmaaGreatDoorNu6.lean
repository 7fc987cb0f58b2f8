/-
  Tables of ports as lists: who owns a port, a port laid in, all of a call's ports taken, freed, held; the same whatever the order in which they are laid. No condition.
-/
import Derived.Test.YtbichomjpmmjmaaGreatDoorNu5
import Derived.Test.YtbichomjpmmjmaaGreatDoorChecked
import Derived.Test.YtbichomjpmmjmaaGreatDoorNu0
import Derived.WalkKit
import Derived.ProofKit
import Derived.OwnWalk
import Derived.Lib.Hide
import Derived.Laws.Rows
import Derived.Laws.AppendOwn
import Derived.Maps.AppendAt
import Derived.Deep.MidRow
import Derived.Deep.LoopGhost
import Derived.Shelf.Abstract
set_option linter.unusedVariables false
set_option linter.unusedSimpArgs false
namespace Go.Proofs.YtbichomjpmmjmaaGreatDoor
namespace Pt
abbrev Tab := List (Int × Int)
def ownerL : Tab → Int → Int
  | [], _ => 0
  | x :: l, p => if x.1 = p then x.2 else ownerL l p
/-- how many stand ahead of port p -/
def lo (p : Int) : Tab → Nat
  | [] => 0
  | x :: l => if x.1 < p then lo p l + 1 else 0
def insL (o p : Int) (l : Tab) : Tab := l.take (lo p l) ++ (p, o) :: l.drop (lo p l)
def refL (o : Int) : List Int → Tab → Option Tab
  | [], out => some out
  | p :: ps, out => if ownerL out p = 0 then refL o ps (insL o p out) else none
def inR (p : Int) : Bool := decide (1 ≤ p ∧ p ≤ 65535)
def fineB (o : Int) (ps : List Int) : Bool := decide (1 ≤ o) && ps.all inR
def takeC (l : Tab) (o : Int) (ps : List Int) : Nat := if fineB o ps = true then (match refL o ps l with | some _ => 0 | none => 150) else 1
def takeL (l : Tab) (o : Int) (ps : List Int) : Tab := if fineB o ps = true then (match refL o ps l with | some r => r | none => l) else l
def freeL (l : Tab) (o : Int) : Tab := l.filter fun x => !decide (x.2 = o)
def I64 (z : Int) : Prop := -9223372036854775808 ≤ z ∧ z ≤ 9223372036854775807
/-- a table: its ports rise, are ports, and have owners -/
structure Ok (l : Tab) : Prop where
  up : l.Pairwise fun a b => a.1 < b.1
  one : ∀ x ∈ l, 1 ≤ x.1 ∧ x.1 ≤ 65535 ∧ 1 ≤ x.2 ∧ x.2 ≤ 9223372036854775807
theorem Ok.nil : Ok [] := ⟨.nil, fun _ h => by simp at h⟩
theorem lo_le (p : Int) : ∀ l, lo p l ≤ l.length
  | [] => Nat.le_refl _
  | x :: l => by unfold lo; split <;> simp <;> exact lo_le p l
theorem lo_below (p : Int) : ∀ (l : Tab) (k : Nat) (x : Int × Int), k < lo p l → l[k]? = some x → x.1 < p
  | [], k, x, h, _ => by simp [lo] at h
  | y :: l, 0, x, h, hx => by
    simp at hx; subst hx
    unfold lo at h; split at h
    · assumption
    · omega
  | y :: l, k + 1, x, h, hx => by
    unfold lo at h; split at h
    · exact lo_below p l k x (by omega) (by simpa using hx)
    · omega
theorem lo_at (p : Int) : ∀ (l : Tab) (x : Int × Int), l[lo p l]? = some x → p ≤ x.1
  | [], x, h => by simp at h
  | y :: l, x, h => by
    unfold lo at h; split at h
    · exact lo_at p l x (by simpa using h)
    · simp at h; subst h; omega
/-- where a search ends -/
theorem lo_eq {l : Tab} (hu : l.Pairwise fun a b => a.1 < b.1) {p : Int} {i : Nat} (hi : i ≤ l.length) (h1 : ∀ k x, k < i → l[k]? = some x → x.1 < p) (h2 : ∀ k x, i ≤ k → l[k]? = some x → p ≤ x.1) : lo p l = i := by
  rcases Nat.lt_trichotomy (lo p l) i with h | h | h
  · have hx := h1 (lo p l) l[lo p l] h (List.getElem?_eq_getElem (by omega))
    have := lo_at p l _ (List.getElem?_eq_getElem (by omega))
    omega
  · exact h
  · have hl := lo_le p l
    have := lo_below p l i l[i] h (List.getElem?_eq_getElem (by omega))
    have := h2 i l[i] (Nat.le_refl _) (List.getElem?_eq_getElem (by omega))
    omega
theorem owner_none : ∀ (l : Tab) (p : Int), (∀ x ∈ l, x.1 ≠ p) → ownerL l p = 0
  | [], p, _ => rfl
  | x :: l, p, h => by
    unfold ownerL
    rw [if_neg (h x (by simp)), owner_none l p (fun y hy => h y (by simp [hy]))]
theorem owner_some {l : Tab} (h : Ok l) {x : Int × Int} (hx : x ∈ l) : ownerL l x.1 = x.2 := by
  obtain ⟨hu, h1⟩ := h
  induction l with
  | nil => simp at hx
  | cons y l ih =>
    unfold ownerL
    rw [List.pairwise_cons] at hu
    rcases List.mem_cons.1 hx with rfl | hx
    · rw [if_pos rfl]
    · have := hu.1 x hx
      rw [if_neg (by omega)]
      exact ih hx hu.2 (fun z hz => h1 z (by simp [hz]))
theorem owner_zero {l : Tab} (h : Ok l) (p : Int) : ownerL l p = 0 ↔ ∀ x ∈ l, x.1 ≠ p := by
  refine ⟨fun h0 x hx e => ?_, owner_none l p⟩
  subst e
  rw [owner_some h hx] at h0
  have := (h.one x hx).2.2.1
  omega
/-- the owner, by the place -/
theorem owner_lo {l : Tab} (h : Ok l) (p : Int) : ownerL l p = match l[lo p l]? with | some x => if x.1 = p then x.2 else 0 | none => 0 := by
  have key : ∀ x ∈ l, x.1 = p → l[lo p l]? = some x := fun x hx e => by
    obtain ⟨k, hk, rfl⟩ := List.getElem_of_mem hx
    have : lo p l = k := lo_eq h.up (Nat.le_of_lt hk) (fun j y hj hy => by
        obtain ⟨hj2, rfl⟩ := List.getElem?_eq_some_iff.1 hy
        have := List.pairwise_iff_getElem.1 h.up j k hj2 hk hj
        omega) (fun j y hj hy => by
        obtain ⟨hj2, rfl⟩ := List.getElem?_eq_some_iff.1 hy
        rcases Nat.eq_or_lt_of_le hj with rfl | hj
        · omega
        · have := List.pairwise_iff_getElem.1 h.up k j hk hj2 hj
          omega)
    rw [this]; exact List.getElem?_eq_getElem hk
  cases hl : l[lo p l]? with
  | none =>
    simp only
    exact owner_none l p (fun x hx e => by rw [key x hx e] at hl; cases hl)
  | some x =>
    simp only
    have hx : x ∈ l := List.mem_of_getElem? hl
    split
    · rename_i e; rw [← e]; exact owner_some h hx
    · rename_i ne
      exact owner_none l p (fun y hy e => by rw [key y hy e] at hl; injection hl with hl; subst hl; exact ne e)
theorem owner_ins (o p : Int) (l : Tab) (q : Int) : ownerL (insL o p l) q = if q = p then o else ownerL l q := by
  have aux : ∀ (a b : Tab), (∀ x ∈ a, x.1 < p) → ownerL (a ++ (p, o) :: b) q = if q = p then o else ownerL (a ++ b) q := by
    intro a
    induction a with
    | nil =>
      intro b _
      simp only [List.nil_append, ownerL]
      by_cases h : q = p
      · subst h; simp
      · rw [if_neg (fun e => h e.symm), if_neg h]
    | cons x a ih =>
      intro b hx
      have h0 := hx x (by simp)
      simp only [List.cons_append, ownerL]
      rw [ih b (fun y hy => hx y (by simp [hy]))]
      by_cases h : q = p
      · subst h; rw [if_neg (by omega), if_pos rfl, if_pos rfl]
      · rw [if_neg h, if_neg h]
  unfold insL
  rw [aux _ _ (fun x hx => by
    obtain ⟨k, hk, rfl⟩ := List.getElem_of_mem hx
    rw [List.length_take] at hk
    rw [List.getElem_take]
    exact lo_below p l k _ (by omega) (List.getElem?_eq_getElem (by omega))), List.take_append_drop]
theorem ins_perm (o p : Int) (l : Tab) : (insL o p l).Perm ((p, o) :: l) := by
  unfold insL
  refine List.perm_middle.trans ?_
  rw [List.take_append_drop]
theorem ins_length (o p : Int) (l : Tab) : (insL o p l).length = l.length + 1 := by
  rw [(ins_perm o p l).length_eq]; simp
theorem Ok.ins {l : Tab} (h : Ok l) {o p : Int} (ho : 1 ≤ o ∧ o ≤ 9223372036854775807) (hp : inR p = true) (h0 : ownerL l p = 0) : Ok (insL o p l) := by
  unfold inR at hp
  have hp := of_decide_eq_true hp
  have hne := (owner_zero h p).1 h0
  constructor
  · unfold insL
    have hu := h.up
    rw [← List.take_append_drop (lo p l) l, List.pairwise_append] at hu
    have hlow : ∀ x ∈ l.take (lo p l), x.1 < p := fun x hx => by
      obtain ⟨k, hk, rfl⟩ := List.getElem_of_mem hx
      rw [List.length_take] at hk
      rw [List.getElem_take]
      exact lo_below p l k _ (by omega) (List.getElem?_eq_getElem (by omega))
    have hhigh : ∀ x ∈ l.drop (lo p l), p < x.1 := fun x hx => by
      have hm := hne x (List.mem_of_mem_drop hx)
      obtain ⟨k, hk, rfl⟩ := List.getElem_of_mem hx
      rw [List.length_drop] at hk
      rw [List.getElem_drop] at hm ⊢
      have h1 := lo_at p l l[lo p l] (List.getElem?_eq_getElem (by omega))
      rcases Nat.eq_zero_or_pos k with rfl | hk0
      · simp only [Nat.add_zero] at hm ⊢; omega
      · have := List.pairwise_iff_getElem.1 h.up (lo p l) (lo p l + k) (by omega) (by omega) (by omega)
        omega
    rw [List.pairwise_append, List.pairwise_cons]
    refine ⟨hu.1, ⟨hhigh, hu.2.1⟩, fun a ha b hb => ?_⟩
    rcases List.mem_cons.1 hb with rfl | hb
    · exact hlow a ha
    · exact hu.2.2 a ha b hb
  · intro x hx
    rcases List.mem_cons.1 ((ins_perm o p l).subset hx) with rfl | hx
    · exact ⟨hp.1, hp.2, ho.1, ho.2⟩
    · exact h.one x hx
/-- two tables of the same ports are the same -/
theorem Ok.eq {a b : Tab} (ha : Ok a) (hb : Ok b) (hp : a.Perm b) : a = b :=
  List.Perm.eq_of_pairwise (le := fun x y => x.1 < y.1) (fun x y _ _ h1 h2 => by omega) ha.up hb.up hp
def layL (o : Int) (ps : List Int) (l : Tab) : Tab := ps.foldl (fun l p => insL o p l) l
theorem lay_perm (o : Int) : ∀ (ps : List Int) (l : Tab), (layL o ps l).Perm (ps.map (fun p => (p, o)) ++ l)
  | [], l => List.Perm.refl _
  | p :: ps, l => by
    refine (lay_perm o ps (insL o p l)).trans ?_
    rw [List.map_cons, List.cons_append]
    exact ((ins_perm o p l).append_left _).trans List.perm_middle
/-- what may be laid -/
def Free (l : Tab) (ps : List Int) : Prop := (∀ p ∈ ps, ownerL l p = 0) ∧ ps.Nodup
theorem free_tail {l : Tab} {p : Int} {ps : List Int} (o : Int) (h : Free l (p :: ps)) : Free (insL o p l) ps := by
  obtain ⟨h1, h2⟩ := h
  rw [List.nodup_cons] at h2
  refine ⟨fun q hq => ?_, h2.2⟩
  have hne : q ≠ p := fun e => h2.1 (by rw [← e]; exact hq)
  rw [owner_ins, if_neg hne]
  exact h1 q (by simp [hq])
theorem refL_free {o : Int} : ∀ {ps : List Int} {l : Tab}, Free l ps → refL o ps l = some (layL o ps l)
  | [], l, _ => rfl
  | p :: ps, l, h => by
    unfold refL
    rw [if_pos (h.1 p (by simp)), refL_free (free_tail o h)]
    rfl
theorem refL_some {o : Int} (ho : 1 ≤ o) : ∀ {ps : List Int} {l r : Tab}, refL o ps l = some r → Free l ps
  | [], l, r, _ => ⟨fun _ h => by simp at h, List.nodup_nil⟩
  | p :: ps, l, r, h => by
    unfold refL at h
    split at h
    · rename_i h0
      obtain ⟨h1, h2⟩ := refL_some ho h
      refine ⟨fun q hq => ?_, List.nodup_cons.2 ⟨fun hm => ?_, h2⟩⟩
      · rcases List.mem_cons.1 hq with rfl | hq
        · exact h0
        · have := h1 q hq
          rw [owner_ins] at this
          split at this
          · omega
          · exact this
      · have := h1 p hm
        rw [owner_ins, if_pos rfl] at this
        omega
    · cases h
theorem Ok.lay {o : Int} (ho : 1 ≤ o ∧ o ≤ 9223372036854775807) : ∀ {ps : List Int} {l : Tab}, Ok l → Free l ps → (∀ p ∈ ps, inR p = true) → Ok (layL o ps l)
  | [], l, h, _, _ => h
  | p :: ps, l, h, hf, hr => Ok.lay (l := insL o p l) ho (h.ins ho (hr p (by simp)) (hf.1 p (by simp))) (free_tail o hf) (fun q hq => hr q (by simp [hq]))
/-- in whatever order -/
theorem lay_any {o : Int} (ho : 1 ≤ o ∧ o ≤ 9223372036854775807) {ps qs : List Int} {l : Tab} (h : Ok l) (hf : Free l ps) (hr : ∀ p ∈ ps, inR p = true) (hp : qs.Perm ps) : layL o qs l = layL o ps l :=
  (Ok.lay ho h ⟨fun p hq => hf.1 p (hp.subset hq), (hp.nodup_iff).2 hf.2⟩ (fun p hq => hr p (hp.subset hq))).eq (Ok.lay ho h hf hr) ((lay_perm o qs l).trans (((hp.map _).append_right l).trans (lay_perm o ps l).symm))
/-- the program's test at place i of the sorted ports -/
def clashB (l : Tab) (r : List Int) (i : Nat) : Bool := !decide (ownerL l (r[i]?.getD 0) = 0) || (decide (0 < i) && decide (r[i - 1]?.getD 0 = r[i]?.getD 0))
def sortI (ps : List Int) : List Int := ps.mergeSort fun x y => decide (x ≤ y)
theorem sort_perm (ps : List Int) : (sortI ps).Perm ps := List.mergeSort_perm _ _
theorem sort_up (ps : List Int) : (sortI ps).Pairwise fun a b => a ≤ b := by
  have := List.pairwise_mergeSort (le := fun x y : Int => decide (x ≤ y)) (fun a b c h1 h2 => by simp at *; omega) (fun a b => by simp; omega) ps
  exact this.imp (fun {a b} h => by simpa using h)
theorem clash_none {l : Tab} {ps : List Int} (h : ∀ i, i < (sortI ps).length → clashB l (sortI ps) i = false) : Free l ps := by
  have hp := sort_perm ps
  generalize hs : sortI ps = r at h hp
  have hup : r.Pairwise fun a b => a ≤ b := hs ▸ sort_up ps
  have h1 : ∀ p ∈ r, ownerL l p = 0 := fun p hm => by
    obtain ⟨k, hk, rfl⟩ := List.getElem_of_mem hm
    have := h k hk
    unfold clashB at this
    simp [hk] at this
    exact this.1
  have hadj : ∀ i (hi : i + 1 < r.length), r[i] < r[i + 1] := fun i hi => by
    have h2 := h (i + 1) hi
    have h3 := List.pairwise_iff_getElem.1 hup i (i + 1) (by omega) hi (by omega)
    unfold clashB at h2
    simp [hi, show i < r.length by omega] at h2
    omega
  have hnd : r.Nodup := by
    rw [List.Nodup, List.pairwise_iff_getElem]
    intro i j hi hj hij
    have h3 := hadj i (by omega)
    rcases Nat.eq_or_lt_of_le (show i + 1 ≤ j from hij) with rfl | h4
    · omega
    · have := List.pairwise_iff_getElem.1 hup (i + 1) j (by omega) hj h4
      omega
  exact ⟨fun p hm => h1 p (hp.symm.subset hm), hp.nodup_iff.1 hnd⟩
theorem clash_some {l : Tab} {ps : List Int} {i : Nat} (hi : i < (sortI ps).length) (h : clashB l (sortI ps) i = true) : ¬ Free l ps := by
  rintro ⟨h1, h2⟩
  have hp := sort_perm ps
  have hnd := hp.nodup_iff.2 h2
  generalize hs : sortI ps = r at h hp hi hnd
  unfold clashB at h
  have hm : r[i] ∈ ps := hp.subset (List.getElem_mem hi)
  have h3 := h1 _ hm
  simp [hi, h3] at h
  obtain ⟨h4, h5⟩ := h
  rw [List.getElem?_eq_getElem (by omega)] at h5
  simp only [Option.getD_some] at h5
  have := List.pairwise_iff_getElem.1 hnd (i - 1) i (by omega) hi (by omega)
  exact this h5
/-- what the program does is what the document says -/
theorem take_clash {l : Tab} {o : Int} {ps : List Int} (hf : fineB o ps = true) {i : Nat} (hi : i < (sortI ps).length) (h : clashB l (sortI ps) i = true) : takeC l o ps = 150 ∧ takeL l o ps = l := by
  have ho : 1 ≤ o := by unfold fineB at hf; simp at hf; exact hf.1
  unfold takeC takeL
  rw [if_pos hf, if_pos hf]
  cases hr : refL o ps l with
  | none => exact ⟨rfl, rfl⟩
  | some r => exact absurd (refL_some ho hr) (clash_some hi h)
theorem take_free {l : Tab} {o : Int} {ps : List Int} (hl : Ok l) (ho : o ≤ 9223372036854775807) (hf : fineB o ps = true) (h : ∀ i, i < (sortI ps).length → clashB l (sortI ps) i = false) : takeC l o ps = 0 ∧ takeL l o ps = layL o (sortI ps) l := by
  have hf2 := clash_none h
  unfold takeC takeL
  rw [if_pos hf, if_pos hf, refL_free hf2]
  unfold fineB at hf
  simp only [Bool.and_eq_true, decide_eq_true_eq, List.all_eq_true] at hf
  exact ⟨rfl, (lay_any ⟨hf.1, ho⟩ hl hf2 hf.2 (sort_perm ps)).symm⟩
theorem take_range {l : Tab} {o : Int} {ps : List Int} (hf : fineB o ps = false) : takeC l o ps = 1 ∧ takeL l o ps = l := by
  unfold takeC takeL
  simp [hf]
theorem take_ok {l : Tab} (h : Ok l) {o : Int} (ho : o ≤ 9223372036854775807) (ps : List Int) : Ok (takeL l o ps) := by
  unfold takeL
  split
  · rename_i hf
    cases hr : refL o ps l with
    | none => exact h
    | some r =>
      unfold fineB at hf
      simp only [Bool.and_eq_true, decide_eq_true_eq, List.all_eq_true] at hf
      have h1 := refL_some hf.1 hr
      rw [refL_free h1] at hr
      injection hr with hr
      subst hr
      exact Ok.lay ⟨hf.1, ho⟩ h h1 hf.2
  · exact h
theorem lay_length (o : Int) (ps : List Int) (l : Tab) : (layL o ps l).length = l.length + ps.length := by
  rw [(lay_perm o ps l).length_eq]; simp; omega
theorem free_ok {l : Tab} (h : Ok l) (o : Int) : Ok (freeL l o) :=
  ⟨h.up.filter _, fun x hx => h.one x (List.mem_filter.1 hx).1⟩
theorem free_length (l : Tab) (o : Int) : (freeL l o).length ≤ l.length := List.length_filter_le _ _
theorem free_none {l : Tab} {o : Int} (h : ∀ x ∈ l, x.2 ≠ o) : freeL l o = l := by
  unfold freeL
  rw [List.filter_eq_self]
  intro x hx
  simpa using h x hx
end Pt
end Go.Proofs.YtbichomjpmmjmaaGreatDoor

/-
  A node's pods and a table of their ports: the same owners, when a pod comes and when it goes. No condition.
-/
set_option linter.unusedVariables false
set_option linter.unusedSimpArgs false
namespace Go.Proofs.YtbichomjpmmjmaaGreatDoor
namespace Nd
open Re
/-- the table holds the pods' ports -/
structure Same (T : Pt.Tab) (l : Pods) : Prop where
  ok : Pt.Ok T
  own : ∀ p, Pt.ownerL T p = ownR l p
theorem Same.nil : Same [] [] := ⟨Pt.Ok.nil, fun _ => rfl⟩
theorem lay_owner (o : Int) : ∀ (ps : List Int) (T : Pt.Tab) (q : Int), Pt.ownerL (Pt.layL o ps T) q = if q ∈ ps then o else Pt.ownerL T q
  | [], T, q => by simp [Pt.layL]
  | p :: ps, T, q => by
    have e : Pt.layL o (p :: ps) T = Pt.layL o ps (Pt.insL o p T) := rfl
    rw [e, lay_owner o ps, Pt.owner_ins]
    by_cases h : q ∈ ps
    · rw [if_pos h, if_pos (by simp [h])]
    · rw [if_neg h]
      by_cases h2 : q = p
      · rw [if_pos h2, if_pos (by simp [h2])]
      · rw [if_neg h2, if_neg (by simp [h, h2])]
theorem free_owner {T : Pt.Tab} (h : Pt.Ok T) {o : Int} (ho : o ≠ 0) (q : Int) : Pt.ownerL (Pt.freeL T o) q = if Pt.ownerL T q = o then 0 else Pt.ownerL T q := by
  by_cases hq : ∃ x ∈ T, x.1 = q
  · obtain ⟨x, hx, rfl⟩ := hq
    rw [Pt.owner_some h hx]
    split
    · rename_i e
      refine Pt.owner_none _ _ fun y hy e1 => ?_
      obtain ⟨hy1, hy2⟩ := List.mem_filter.1 hy
      have h1 := Pt.owner_some h hy1
      rw [e1, Pt.owner_some h hx] at h1
      rw [← h1, e] at hy2
      simp at hy2
    · rename_i e
      exact Pt.owner_some (Pt.free_ok h o) (List.mem_filter.2 ⟨hx, by simpa using e⟩)
  · have hn : ∀ x ∈ T, x.1 ≠ q := fun x hx e => hq ⟨x, hx, e⟩
    rw [Pt.owner_none _ _ hn, if_neg (Ne.symm ho)]
    exact Pt.owner_none _ _ fun y hy => hn y (List.mem_filter.1 hy).1
theorem fine_of {u : Int} {q : Ask} (hu : 1 ≤ u) (hq : q.Ok) : Pt.fineB u q.ports = true := by
  unfold Pt.fineB
  simp only [Bool.and_eq_true, decide_eq_true_eq, List.all_eq_true]
  exact ⟨hu, fun p hp => decide_eq_true (hq.ps p hp)⟩
theorem any_free {T : Pt.Tab} {l : Pods} (h : Same T l) {q : Ask} (hq : q.Ok) : anyOwn l q.ports = false ↔ Pt.Free T q.ports := by
  unfold anyOwn
  rw [List.any_eq_false]
  refine ⟨fun ha => ⟨fun p hp => ?_, hq.nd⟩, fun hf p hp => ?_⟩
  · rw [h.own]; simpa using ha p hp
  · have := hf.1 p hp
    rw [h.own] at this
    simpa using this
theorem Same.take {T : Pt.Tab} {l : Pods} {has : Rx} (h : Same T l) (hk : Ok has l) {u : Int} (hu : 1 ≤ u ∧ u ≤ 9223372036854775807) {q : Ask} (hq : q.Ok) (ha : anyOwn l q.ports = false) : Pt.takeC T u q.ports = 0 ∧ Same (Pt.takeL T u q.ports) (insP ⟨u, q.ask, q.ports⟩ l) := by
  have hf := fine_of hu.1 hq
  have hfr := (any_free h hq).1 ha
  have hr := Pt.refL_free (o := u) hfr
  have hl : Pt.takeL T u q.ports = Pt.layL u q.ports T := by unfold Pt.takeL; rw [if_pos hf, hr]
  refine ⟨by unfold Pt.takeC; rw [if_pos hf, hr], Pt.take_ok h.ok hu.2 _, fun p => ?_⟩
  rw [hl, lay_owner, own_ins (free_of hk ha)]
  split
  · rfl
  · exact h.own p
/-- a pod goes -/
theorem Same.free {T : Pt.Tab} {l : Pods} {has : Rx} (h : Same T l) (hk : Ok has l) {u : Int} (hu : u ≠ 0) : Same (Pt.freeL T u) (cut u l) :=
  ⟨Pt.free_ok h.ok u, fun p => by rw [free_owner h.ok hu, own_cut hu hk.up hk.nd, h.own]⟩
end Nd
end Go.Proofs.YtbichomjpmmjmaaGreatDoor

/-
  What follows for nodes, as plain data: the sum of what the admitted pods ask for, told one by one; each port its pod's own; as it was, when a pod came and went. No condition.
-/
set_option linter.unusedVariables false
set_option linter.unusedSimpArgs false
namespace Go.Proofs.YtbichomjpmmjmaaGreatDoor
open NumMath
namespace Nd
open Re
theorem usedF_append (a b : Pods) (s : Rx) : usedF s (a ++ b) = usedF (usedF s a) b := by simp [usedF]
/-- one pod more: the sum can be made -/
theorem Ok.next {has : Rx} {l : Pods} (h : Ok has l) {k : Nat} {x : Pod} (hx : l[k]? = some x) : addR (usedR (l.take k)) x.ask = (usedR (l.take (k + 1)), true) := by
  have e : l.take (k + 1) = l.take k ++ [x] := by
    rw [List.take_succ_eq_append_getElem (List.getElem?_eq_some_iff.1 hx).1, (List.getElem?_eq_some_iff.1 hx).2]
  have sp : l = l.take k ++ (x :: l.drop (k + 1)) := by
    rw [← List.take_append_drop k l]
    congr 1
    · rw [List.take_append_drop]
    · rw [List.take_append_drop, List.drop_eq_getElem_cons (List.getElem?_eq_some_iff.1 hx).1, (List.getElem?_eq_some_iff.1 hx).2]
  have hask : ∀ y ∈ l, 0 ≤ y.ask.c ∧ 0 ≤ y.ask.m ∧ 0 ≤ y.ask.p := fun y hy => ⟨(h.one y hy).2.1, (h.one y hy).2.2.1, (h.one y hy).2.2.2.1⟩
  have hx1 := hask x (List.mem_of_getElem? hx)
  have ht : ∀ y ∈ l.take k, 0 ≤ y.ask.c ∧ 0 ≤ y.ask.m ∧ 0 ≤ y.ask.p := fun y hy => hask y (List.mem_of_mem_take hy)
  have hd : ∀ y ∈ l.drop (k + 1), 0 ≤ y.ask.c ∧ 0 ≤ y.ask.m ∧ 0 ≤ y.ask.p := fun y hy => hask y (List.mem_of_mem_drop hy)
  have c1 := h.tc; have c2 := h.tm; have c3 := h.tp
  have b1 := h.hc; have b2 := h.hm; have b3 := h.hp
  have split : ∀ f : Rx → Int, tot f (l.map Pod.ask) = tot f ((l.take k).map Pod.ask) + (f x.ask + tot f ((l.drop (k + 1)).map Pod.ask)) := fun f => by
    conv => lhs; rw [sp]
    rw [List.map_append, tot_append, List.map_cons, tot_cons]
  rw [split] at c1 c2 c3
  have n1 := tot_nn (f := Rx.c) (l := (l.take k).map Pod.ask) fun y hy => by obtain ⟨z, hz, rfl⟩ := List.mem_map.1 hy; exact (ht z hz).1
  have n2 := tot_nn (f := Rx.m) (l := (l.take k).map Pod.ask) fun y hy => by obtain ⟨z, hz, rfl⟩ := List.mem_map.1 hy; exact (ht z hz).2.1
  have n3 := tot_nn (f := Rx.p) (l := (l.take k).map Pod.ask) fun y hy => by obtain ⟨z, hz, rfl⟩ := List.mem_map.1 hy; exact (ht z hz).2.2
  have m1 := tot_nn (f := Rx.c) (l := (l.drop (k + 1)).map Pod.ask) fun y hy => by obtain ⟨z, hz, rfl⟩ := List.mem_map.1 hy; exact (hd z hz).1
  have m2 := tot_nn (f := Rx.m) (l := (l.drop (k + 1)).map Pod.ask) fun y hy => by obtain ⟨z, hz, rfl⟩ := List.mem_map.1 hy; exact (hd z hz).2.1
  have m3 := tot_nn (f := Rx.p) (l := (l.drop (k + 1)).map Pod.ask) fun y hy => by obtain ⟨z, hz, rfl⟩ := List.mem_map.1 hy; exact (hd z hz).2.2
  have u : usedR (l.take k) = ⟨tot Rx.c ((l.take k).map Pod.ask), tot Rx.m ((l.take k).map Pod.ask), tot Rx.p ((l.take k).map Pod.ask)⟩ := by
    unfold usedR
    rw [used_run (l.take k) ht (Int.le_refl _) (Int.le_refl _) (Int.le_refl _) (by show 0 + _ ≤ _; omega) (by show 0 + _ ≤ _; omega) (by show 0 + _ ≤ _; omega)]
    simp [z3]
  have a : addR (usedR (l.take k)) x.ask = (⟨(usedR (l.take k)).c + x.ask.c, (usedR (l.take k)).m + x.ask.m, (usedR (l.take k)).p + x.ask.p⟩, true) := by
    rw [u]
    exact add_in ⟨n1, hx1.1, by show tot Rx.c ((l.take k).map Pod.ask) + _ ≤ _; omega⟩ ⟨n2, hx1.2.1, by show tot Rx.m ((l.take k).map Pod.ask) + _ ≤ _; omega⟩ ⟨n3, hx1.2.2, by show tot Rx.p ((l.take k).map Pod.ask) + _ ≤ _; omega⟩
  have r : usedR (l.take (k + 1)) = (addR (usedR (l.take k)) x.ask).1 := by
    rw [e]; unfold usedR; rw [usedF_append]; rfl
  rw [r, a]
/-- what was admitted: of each pod that is there, its ports -/
def There (l : Pods) (th : List (Int × List Int)) : Prop := ∀ x ∈ l, ∀ a ∈ th, a.1 = x.uid → a.2 = x.ports
def without (th : List (Int × List Int)) (u : Int) : List (Int × List Int) := th.filter fun a => !decide (a.1 = u)
theorem There.nil (th : List (Int × List Int)) : There [] th := fun x hx => by cases hx
theorem There.ins {l : Pods} {th : List (Int × List Int)} (h : There l th) {u : Int} (hi : isIn u l = false) (a : Rx) (ps : List Int) : There (insP ⟨u, a, ps⟩ l) (without th u ++ [(u, ps)]) := fun x hx b hb e => by
  rcases mem_ins.1 hx with rfl | hx
  · rcases List.mem_append.1 hb with hb | hb
    · have := (List.mem_filter.1 hb).2
      simp [e] at this
    · simp at hb; rw [hb]
  · rcases List.mem_append.1 hb with hb | hb
    · exact h x hx b (List.mem_filter.1 hb).1 e
    · simp at hb; rw [hb] at e; exact absurd e.symm (notIn hi x hx)
theorem There.cut {l : Pods} {th : List (Int × List Int)} (h : There l th) (u : Int) : There (cut u l) th := fun x hx => h x (mem_cut hx)
theorem There.own {has : Rx} {l : Pods} {th : List (Int × List Int)} (h : There l th) (hk : Ok has l) {x : Pod} (hx : x ∈ l) {a : Int × List Int} (ha : a ∈ th) (e : a.1 = x.uid) : ∀ p ∈ a.2, ownR l p = a.1 := fun p hp => by
  rw [h x hx a ha e] at hp
  rw [own_mem hk.nd hx hp, e]
end Nd
end Go.Proofs.YtbichomjpmmjmaaGreatDoor

/-
  The program's node, as plain data: room told by what is left; the table's length; its pods as a map's pairs. No condition.
-/
set_option linter.unusedVariables false
set_option linter.unusedSimpArgs false
namespace Go.Proofs.YtbichomjpmmjmaaGreatDoor
open NumMath
namespace Nn
open Re Nd
/-- room, told by what is left -/
theorem room_left {has : Rx} {l : Pods} (h : Nd.Ok has l) {q : Nd.Ask} (hq : q.Ok) : Nd.room has l q = fitsR q.ask (subR has (usedR l)).1 := by
  obtain ⟨h1, h2, h3⟩ := h.within
  have h4 := h.hc; have h5 := h.hm; have h6 := h.hp
  have c := hq.c; have m := hq.m; have p := hq.p
  rw [h.left]
  rw [Bool.eq_iff_iff]
  constructor
  · intro hr
    have := h.room hq hr
    exact fitsR_iff.2 (by dsimp only; omega)
  · intro hf
    have hf := fitsR_iff.1 hf
    dsimp only at hf
    unfold Nd.room
    rw [add_in ⟨h1.1, c, by omega⟩ ⟨h2.1, m, by omega⟩ ⟨h3.1, p, by omega⟩]
    rw [Bool.true_and]
    exact fitsR_iff.2 (by dsimp only; omega)
theorem rise_len : ∀ (l : Pt.Tab) (lo hi : Int), l.Pairwise (fun a b => a.1 < b.1) → (∀ x ∈ l, lo ≤ x.1 ∧ x.1 ≤ hi) → lo ≤ hi + 1 → (l.length : Int) ≤ hi - lo + 1
  | [], lo, hi, _, _, h => by simp only [List.length_nil]; omega
  | x :: l, lo, hi, hp, hr, h => by
    rw [List.pairwise_cons] at hp
    have hx := hr x (by simp)
    have := rise_len l (x.1 + 1) hi hp.2 (fun y hy => ⟨by have := hp.1 y hy; omega, (hr y (by simp [hy])).2⟩) (by omega)
    rw [List.length_cons]
    omega
theorem tab_len {T : Pt.Tab} (h : Pt.Ok T) : T.length ≤ 65535 := by
  have := rise_len T 1 65535 h.up (fun x hx => ⟨(h.one x hx).1, (h.one x hx).2.1⟩) (by decide)
  omega
/-- what stays used when a pod comes -/
theorem used_ins {has : Rx} {l : Pods} (h : Nd.Ok has l) {u : Int} (hu : 1 ≤ u ∧ u ≤ 9223372036854775807) (hi : isIn u l = false) {q : Nd.Ask} (hq : q.Ok) (hr : Nd.room has l q = true) (ha : anyOwn l q.ports = false) : addR (usedR l) q.ask = (usedR (insP ⟨u, q.ask, q.ports⟩ l), true) := by
  have hk := h.ins hu hi hq hr ha
  have hp := (ins_perm ⟨u, q.ask, q.ports⟩ l).map Pod.ask
  have e := hk.used
  rw [tot_perm _ hp, tot_perm _ hp, tot_perm _ hp] at e
  simp only [List.map_cons, tot_cons] at e
  have f := h.used
  obtain ⟨r1, r2, r3⟩ := h.room hq hr
  obtain ⟨h1, h2, h3⟩ := h.within
  have h4 := h.hc; have h5 := h.hm; have h6 := h.hp
  rw [add_in ⟨h1.1, hq.c, by omega⟩ ⟨h2.1, hq.m, by omega⟩ ⟨h3.1, hq.p, by omega⟩, e, f]
  dsimp only
  rw [Int.add_comm, Int.add_comm (tot Rx.m _), Int.add_comm (tot Rx.p _)]
/-- what stays used when a pod goes -/
theorem used_cut {has : Rx} {l : Pods} (h : Nd.Ok has l) {u : Int} {x : Pod} (hx : l[idx u l]? = some x) : subR (usedR l) x.ask = (usedR (cut u l), true) := by
  have hk := h.cut u
  have hp := (cut_perm hx).map Pod.ask
  have e := h.used
  rw [tot_perm _ hp, tot_perm _ hp, tot_perm _ hp] at e
  simp only [List.map_cons, tot_cons] at e
  have f := hk.used
  obtain ⟨g1, g2, g3⟩ := hk.within
  obtain ⟨h1, h2, h3⟩ := h.within
  have h4 := h.hc; have h5 := h.hm; have h6 := h.hp
  have hx1 := (h.one x (List.mem_of_getElem? hx)).2
  rw [f] at g1 g2 g3
  dsimp only at g1 g2 g3
  rw [e] at h1 h2 h3
  dsimp only at h1 h2 h3
  rw [e, sub_in ⟨hx1.1, by dsimp only; omega, by dsimp only; omega⟩ ⟨hx1.2.1, by dsimp only; omega, by dsimp only; omega⟩ ⟨hx1.2.2.1, by dsimp only; omega, by dsimp only; omega⟩, f]
  dsimp only
  rw [show x.ask.c + tot Rx.c ((cut u l).map Pod.ask) - x.ask.c = tot Rx.c ((cut u l).map Pod.ask) by omega, show x.ask.m + tot Rx.m ((cut u l).map Pod.ask) - x.ask.m = tot Rx.m ((cut u l).map Pod.ask) by omega, show x.ask.p + tot Rx.p ((cut u l).map Pod.ask) - x.ask.p = tot Rx.p ((cut u l).map Pod.ask) by omega]
/-- what a pod asks for; zero, if it isn't there -/
def ofU (l : Pods) (u : Int) : Rx := match l[idx u l]? with
  | some x => x.ask
  | none => z3
theorem ofU_in {l : Pods} {u : Int} {x : Pod} (h : l[idx u l]? = some x) : ofU l u = x.ask := by unfold ofU; rw [h]
theorem ofU_out {l : Pods} {u : Int} (h : isIn u l = false) : ofU l u = z3 := by
  unfold ofU
  unfold isIn at h
  rw [List.getElem?_eq_none (by simpa using h)]
theorem anyOwn_iff {l : Pods} {ps : List Int} : anyOwn l ps = true ↔ ∃ p ∈ ps, ownR l p ≠ 0 := by
  unfold anyOwn
  rw [List.any_eq_true]
  simp
end Nn
end Go.Proofs.YtbichomjpmmjmaaGreatDoor

/-
  A table of ports in memory: its box, the row of its ports and owners; what a call keeps. No condition.
-/
set_option linter.unusedVariables false
set_option linter.unusedSimpArgs false
namespace Go.Proofs.YtbichomjpmmjmaaGreatDoor
open Go.ChangeShapes Go.WideShapes Go.ChangeAt Go.RowKit Go.Lib
namespace Pt
theorem lt_of_block {w : World} {g : Nat} {o : Obj} (h : w.heap[g]? = some o) : g < w.heap.size := by
  rcases Nat.lt_or_ge g w.heap.size with hl | hl
  · exact hl
  · rw [Array.getElem?_eq_none hl] at h; cases h
theorem owns_of {w w' : World} {base : Nat} {e : TypeId} {size n : Nat} {v : Value} {xs : List Value} (h : w.ownsRow base e size v n xs) (hk : ∀ r, v.ownBlock = some r → w'.heap[r]? = w.heap[r]?) : w'.ownsRow base e size v n xs := by
  refine ⟨h.1, ?_⟩
  rcases h.2 with h0 | ⟨g, cap, cur, rfl, h1, h2, h3⟩
  · exact .inl h0
  · exact .inr ⟨g, cap, cur, rfl, h1, (hk g rfl).trans h2, h3⟩
theorem owns_at {w : World} {base : Nat} {e : TypeId} {size n : Nat} {v : Value} {xs : List Value} (h : w.ownsRow base e size v n xs) {r : Nat} (hr : v.ownBlock = some r) : base ≤ r ∧ ∃ cur, w.heap[r]? = some (.cells cur e (0, 0)) := by
  rcases h.2 with ⟨rfl, _⟩ | ⟨g, cap, cur, rfl, h1, h2, h3⟩
  · cases hr
  · injection hr with hr; subst hr; exact ⟨h1, cur, h2⟩
theorem owns_below {w w' : World} {base : Nat} {e : TypeId} {size n : Nat} {v : Value} {xs : List Value} (h : w.ownsRow base e size v n xs) (hb : Below w.heap.size w w') : w'.ownsRow base e size v n xs :=
  owns_of h fun r hr => by obtain ⟨_, cur, hc⟩ := owns_at h hr; exact hb.block r (lt_of_block hc)
theorem owns_base {w : World} {base b2 : Nat} {e : TypeId} {size n : Nat} {v : Value} {xs : List Value} (h : w.ownsRow base e size v n xs) (hb : b2 ≤ base) : w.ownsRow b2 e size v n xs := by
  refine ⟨h.1, ?_⟩
  rcases h.2 with h0 | ⟨g, cap, cur, rfl, h1, h2, h3⟩
  · exact .inl h0
  · exact .inr ⟨g, cap, cur, rfl, Nat.le_trans hb h1, h2, h3⟩
theorem own_form {w : World} {base : Nat} {t : TypeId} {size n : Nat} {v : Value} {xs : List Value} (h : w.ownsRow base t size v n xs) : ∃ A c, v = .slice A n c := by
  rcases h.2 with ⟨e1, e2⟩ | ⟨g, cap, cur, e1, _⟩
  · exact ⟨none, 0, by rw [e1, e2]⟩
  · exact ⟨_, _, e1⟩
theorem own_cap {w : World} {base : Nat} {t : TypeId} {size n : Nat} {A : Option Addr} {c : Nat} {xs : List Value} (h : w.ownsRow base t size (.slice A n c) n xs) : n ≤ c ∧ c ≤ 9223372036854775807 := by
  rcases h.2 with ⟨e1, e2⟩ | ⟨g, cap, cur, e1, _, _, h1, h2, _⟩
  · injection e1 with e1 e3 e4; subst e4 e3; exact ⟨Nat.le_refl _, by omega⟩
  · injection e1 with e1 e3 e4; subst e4; exact ⟨h1, by unfold maxLen at h2; exact h2⟩
/-- a row is nil, or lies in a block of its own -/
theorem own_addr {w : World} {base : Nat} {t : TypeId} {size n : Nat} {A : Option Addr} {c : Nat} {xs : List Value} (h : w.ownsRow base t size (.slice A n c) n xs) : (A = none ∧ n = 0 ∧ c = 0) ∨ ∃ r, A = some ⟨r, 0, none⟩ ∧ base ≤ r ∧ r < w.heap.size := by
  rcases h.2 with ⟨e1, e2⟩ | ⟨g, cap, cur, e1, h1, h2, _⟩
  · injection e1 with e1 e3 e4; exact .inl ⟨e1, e3, e4⟩
  · injection e1 with e1 e3 e4; exact .inr ⟨g, e1, h1, lt_of_block h2⟩
theorem box_cell {w : World} {g : Nat} {A : Array Value} {t : TypeId} (h : w.heap[g]? = some (.cells A t (0, 0))) (k : Nat) {v : Value} (hv : A[k]? = some v) : w.cell? ⟨g, k, none⟩ = some v := by
  simp [World.cell?, h, hv]
theorem box_free {w : World} {g : Nat} {A : Array Value} {t : TypeId} (h : w.heap[g]? = some (.cells A t (0, 0))) (k : Nat) : w.frozen? ⟨g, k, none⟩ = false := by
  simp [World.frozen?, h]
theorem box_set {w : World} {g : Nat} {A : Array Value} {t : TypeId} (h : w.heap[g]? = some (.cells A t (0, 0))) (k : Nat) (v : Value) {B : Array Value} (hB : A.setIfInBounds k v = B) : (w.setCell ⟨g, k, none⟩ v).heap[g]? = some (.cells B t (0, 0)) := by
  rw [← hB]; exact heap_setCell_same w g k _ _ v h
/-- the cells of a table's row -/
def flat : Tab → List Value
  | [] => []
  | x :: l => .int .i64 x.1 :: .int .i64 x.2 :: flat l
theorem flat_length : ∀ l : Tab, (flat l).length = l.length * 2
  | [] => rfl
  | x :: l => by simp only [flat, List.length_cons, flat_length l]; omega
theorem flat_cat : ∀ (a b : Tab), flat (a ++ b) = flat a ++ flat b
  | [], b => rfl
  | x :: a, b => by simp only [List.cons_append, flat, flat_cat a b]
theorem flat_drop : ∀ (l : Tab) (k : Nat), (flat l).drop (k * 2) = flat (l.drop k)
  | l, 0 => by simp
  | [], k + 1 => by simp [flat]
  | x :: l, k + 1 => by
    rw [flat, show (k + 1) * 2 = k * 2 + 1 + 1 by omega, List.drop_succ_cons, List.drop_succ_cons, flat_drop l k, List.drop_succ_cons]
theorem flat_take : ∀ (l : Tab) (k : Nat), (flat l).take (k * 2) = flat (l.take k)
  | l, 0 => by simp [flat]
  | [], k + 1 => by simp [flat]
  | x :: l, k + 1 => by
    rw [flat, show (k + 1) * 2 = k * 2 + 1 + 1 by omega, List.take_succ_cons, List.take_succ_cons, flat_take l k, List.take_succ_cons, flat]
theorem flat_at {l : Tab} {k : Nat} {x : Int × Int} (h : l[k]? = some x) : (flat l)[k * 2]? = some (.int .i64 x.1) ∧ (flat l)[k * 2 + 1]? = some (.int .i64 x.2) := by
  have hk := (List.getElem?_eq_some_iff.1 h).1
  have e := flat_drop l k
  rw [List.drop_eq_getElem_cons hk, (List.getElem?_eq_some_iff.1 h).2, flat] at e
  constructor
  · rw [← Nat.add_zero (k * 2), ← List.getElem?_drop, e]; rfl
  · rw [← List.getElem?_drop, e]; rfl
theorem flat_one : ∀ (l : Tab), ∀ u ∈ flat l, u.oneCell' = true
  | [], u, hu => by simp [flat] at hu
  | x :: l, u, hu => by
    simp only [flat, List.mem_cons] at hu
    rcases hu with rfl | rfl | hu
    · rfl
    · rfl
    · exact flat_one l u hu
/-- entry k of a row -/
theorem row_at {w : World} {base : Nat} {e : TypeId} {A : Option Addr} {c : Nat} {l : Tab} (h : w.ownsRow base e 2 (.slice A l.length c) l.length (flat l)) {k : Nat} {x : Int × Int} (hx : l[k]? = some x) :
    ∃ r, A = some ⟨r, 0, none⟩ ∧ r < w.heap.size ∧ w.cell? ⟨r, k * 2, none⟩ = some (.int .i64 x.1) ∧ w.cell? ⟨r, k * 2 + 1, none⟩ = some (.int .i64 x.2) := by
  have hk := (List.getElem?_eq_some_iff.1 hx).1
  rcases own_addr h with ⟨_, h2, _⟩ | ⟨r, rfl, _, hr⟩
  · omega
  · obtain ⟨h1, h2⟩ := flat_at hx
    exact ⟨r, rfl, hr, by rw [h.cellAt (k * 2) (by omega), h1], by rw [h.cellAt (k * 2 + 1) (by omega), h2]⟩
/-- a block that holds table entries -/
def IsT (w : World) (k : Nat) : Prop := ∃ cur, w.heap[k]? = some (.cells cur 110 (0, 0))
/-- what a call at the table g keeps: all below B, and all that is neither g nor a row of a table's -/
structure Kt (B g : Nat) (w w' : World) : Prop where
  os : w'.os = w.os
  tape : w'.tape = w.tape
  output : w'.output = w.output
  size : w.heap.size ≤ w'.heap.size
  block : ∀ k, k < w.heap.size → k ≠ g → (k < B ∨ ¬ IsT w k) → w'.heap[k]? = w.heap[k]?
theorem Kt.refl (B g : Nat) (w : World) : Kt B g w w := ⟨rfl, rfl, rfl, Nat.le_refl _, fun _ _ _ _ => rfl⟩
theorem Kt.trans {B g : Nat} {a b c : World} (h : Kt B g a b) (k : Kt B g b c) : Kt B g a c :=
  ⟨k.os.trans h.os, k.tape.trans h.tape, k.output.trans h.output, Nat.le_trans h.size k.size, fun i hi hg hd => by
    have e := h.block i hi hg hd
    refine (k.block i (Nat.lt_of_lt_of_le hi h.size) hg ?_).trans e
    rcases hd with hd | hd
    · exact .inl hd
    · exact .inr (fun ⟨cur, hc⟩ => hd ⟨cur, e ▸ hc⟩)⟩
theorem Kt.of_below {B g : Nat} {a b : World} (h : Below a.heap.size a b) : Kt B g a b := ⟨h.os, h.tape, h.output, h.size, fun k hk _ _ => h.block k hk⟩
/-- the table at block g has the ports l -/
structure TbAt (B : Nat) (w : World) (g : Nat) (l : Tab) (A : Option Addr) (c : Nat) : Prop where
  hB : B ≤ g
  box : w.heap[g]? = some (.cells #[.slice A l.length c] 100 (0, 0))
  row : w.ownsRow B 110 2 (.slice A l.length c) l.length (flat l)
def Tb (B : Nat) (w : World) (g : Nat) (l : Tab) : Prop := ∃ A c, TbAt B w g l A c
theorem TbAt.lt {B : Nat} {w : World} {g : Nat} {l : Tab} {A : Option Addr} {c : Nat} (h : TbAt B w g l A c) : g < w.heap.size := lt_of_block h.box
theorem TbAt.cell {B : Nat} {w : World} {g : Nat} {l : Tab} {A : Option Addr} {c : Nat} (h : TbAt B w g l A c) : w.cell? ⟨g, 0, none⟩ = some (.slice A l.length c) := box_cell h.box 0 rfl
theorem TbAt.keep {B : Nat} {w w' : World} {g : Nat} {l : Tab} {A : Option Addr} {c : Nat} (h : TbAt B w g l A c) (hk : ∀ k, k < w.heap.size → (k = g ∨ IsT w k) → w'.heap[k]? = w.heap[k]?) : TbAt B w' g l A c :=
  ⟨h.hB, (hk g h.lt (.inl rfl)).trans h.box, owns_of h.row fun r hr => by obtain ⟨_, cur, hc⟩ := owns_at h.row hr; exact hk r (lt_of_block hc) (.inr ⟨cur, hc⟩)⟩
theorem TbAt.below {B : Nat} {w w' : World} {g : Nat} {l : Tab} {A : Option Addr} {c : Nat} (h : TbAt B w g l A c) (hb : Below w.heap.size w w') : TbAt B w' g l A c := h.keep fun k hk _ => hb.block k hk
theorem Tb.below {B : Nat} {w w' : World} {g : Nat} {l : Tab} (h : Tb B w g l) (hb : Below w.heap.size w w') : Tb B w' g l := by
  obtain ⟨A, c, h⟩ := h
  exact ⟨A, c, h.below hb⟩
theorem new_any (w : World) : Calls Tryz.prog 29 #[] w fun e w' => e = .returned (.pointer (some ⟨w.heap.size, 0, none⟩)) ∧ (∀ B, B ≤ w.heap.size → Tb B w' w.heap.size []) ∧ Below w.heap.size w w' := by
  go_enter Tryz.func29, Tryz.ntmps29
  go_wp2_with fail
  go_ret
  refine ⟨rfl, fun B hB => ⟨none, 0, hB, ?_, World.ownsRow_nil _ _ _ _⟩, (Below.refl _ _).alloc (Nat.le_refl _) _⟩
  exact heap_alloc_new w (.cells #[.slice none 0 0] 100)
theorem len_any {B : Nat} {g : Nat} {l : Tab} (w : World) (h : Tb B w g l) : Calls Tryz.prog 69 #[.pointer (some ⟨g, 0, none⟩)] w fun e w' => e = .returned (.int .i64 (l.length : Int)) ∧ w' = w := by
  obtain ⟨A, c, h⟩ := h
  have c0 := h.cell
  clear h
  go_enter Tryz.func69, Tryz.ntmps69
  go_wp2
  go_ret
  exact ⟨rfl, rfl⟩
end Pt
end Go.Proofs.YtbichomjpmmjmaaGreatDoor

/-
  The place of a port in a table by binary search, its owner. What was there is left as it was. Condition: the table is one (Tb), its ports rise.
-/
set_option linter.unusedVariables false
set_option linter.unusedSimpArgs false
namespace Go.Proofs.YtbichomjpmmjmaaGreatDoor
open Go.ChangeShapes Go.WideShapes Go.ChangeAt Go.RowKit Go.Lib
namespace Pt
def cmpI (a b : Int) : Int := if a < b then -1 else if b < a then 1 else 0
theorem cmp_any (a b : Int) (w : World) : Calls Tryz.prog 86 #[.int .i64 a, .int .i64 b] w fun e w' => e = .returned (.int .i64 (cmpI a b)) ∧ w' = w := by
  obtain ⟨z, hz⟩ : ∃ z, cmpI a b = z := ⟨_, rfl⟩
  rw [hz]
  have HZ := Lib.hid hz
  clear hz
  go_enter Tryz.func86, Tryz.ntmps86
  go_wp2
  all_goals (go_ret; refine ⟨?_, rfl⟩; rw [← HZ.out]; unfold cmpI; simp_all)
  all_goals omega
theorem close_any (a o p : Int) (w : World) : Calls Tryz.prog 85 #[.agg #[.int .i64 a, .int .i64 o], .int .i64 p] w fun e w' => e = .returned (.int .i64 (cmpI a p)) ∧ Below w.heap.size w w' := by
  go_enter Tryz.func85, Tryz.ntmps85
  go_wp2_with (go_at_call 86; refine (cmp_any _ _ _).mono ?_; rintro e w' ⟨rfl, rfl⟩)
  go_ret
  exact ⟨rfl, (Below.refl _ _).alloc (Nat.le_refl _) _⟩
def hasP (l : Tab) (p : Int) : Bool := match l[lo p l]? with | some x => decide (x.1 = p) | none => false
set_option maxRecDepth 100000 in
set_option maxHeartbeats 1000000 in
theorem search_any {B : Nat} {l : Tab} {A : Option Addr} {c : Nat} (p : Int) (w : World) (h : w.ownsRow B 110 2 (.slice A l.length c) l.length (flat l)) (hu : l.Pairwise fun a b => a.1 < b.1) (hn : l.length ≤ 100000) :
    Calls Tryz.prog 84 #[.slice A l.length c, .int .i64 p, .func (.func 85) #[] #[]] w fun e w' => e = .returned (.tuple #[.int .i64 (lo p l : Int), .bool (hasP l p)]) ∧ Below w.heap.size w w' := by
  have H := Lib.hid h
  have HU := Lib.hid hu
  obtain ⟨n, hln⟩ : ∃ n, l.length = n := ⟨_, rfl⟩
  have HLN := Lib.hid hln
  rw [hln] at hn ⊢
  have eg := enters_of Tryz.func85 (by kernel_rfl) rfl
  clear h hu hln
  go_enter Tryz.func84, Tryz.ntmps84
  go_wp2
  go_loopg [9, 10] n (fun kx s9 s10 wr => ∃ lw hi : Nat, s9 = .int .i64 lw ∧ s10 = .int .i64 hi ∧ lw ≤ hi ∧ hi ≤ n ∧ hi - lw ≤ kx ∧ Hid (Below w.heap.size w wr) ∧
    Hid ((∀ t x, t < lw → l[t]? = some x → x.1 < p) ∧ (∀ t x, hi ≤ t → l[t]? = some x → p ≤ x.1)))
  case atStart => exact ⟨0, n, rfl, rfl, Nat.zero_le _, Nat.le_refl _, by omega, Below.refl _ _, (⟨fun t x ht => absurd ht (Nat.not_lt_zero _), fun t x h1 h2 => by have := (List.getElem?_eq_some_iff.1 h2).1; have := HLN.out; omega⟩ : (∀ t x, t < 0 → l[t]? = some x → x.1 < p) ∧ (∀ t x, n ≤ t → l[t]? = some x → p ≤ x.1))⟩
  case round =>
    obtain ⟨lw, hi, rfl, rfl, hlh, hin, hg, HW, I⟩ := hrel
    by_cases hlt : lw < hi
    · obtain ⟨y, hy⟩ : ∃ y, l[(lw + hi) / 2]? = some y := ⟨_, List.getElem?_eq_getElem (by have := HLN.out; omega)⟩
      obtain ⟨r, rfl, hr, k1, k2⟩ := row_at (owns_below H.out HW.out) hy
      have HY := Lib.hid hy
      clear hy
      have hc := close_any y.1 y.2 p wr
      by_cases hyx : y.1 < p
      · have ez : cmpI y.1 p = -1 := by unfold cmpI; rw [if_pos hyx]
        rw [ez] at hc
        go_wp2_with (go_at_call 85; refine hc.mono ?_; rintro e w' ⟨rfl, hb⟩; have HBB := Lib.hid hb; clear hb)
        go_roundg (hi - ((lw + hi) / 2 + 1))
        case measure => omega
        case rel =>
          exact ⟨(lw + hi) / 2 + 1, hi, by rw [show ((lw : Int) + (hi : Int)) / 2 + 1 = (((lw + hi) / 2 + 1 : Nat) : Int) by omega], rfl, by omega, hin, Nat.le_refl _, HW.out.trans (HBB.out.mono HW.out.size), (⟨fun t x ht hx => by
            rcases Nat.lt_or_ge t ((lw + hi) / 2) with h1 | h1
            · have h2 := (List.getElem?_eq_some_iff.1 hx)
              have h3 := (List.getElem?_eq_some_iff.1 HY.out)
              obtain ⟨h2, rfl⟩ := h2
              obtain ⟨h3, rfl⟩ := h3
              have := List.pairwise_iff_getElem.1 HU.out t _ h2 h3 h1
              omega
            · rw [show t = (lw + hi) / 2 by omega, HY.out] at hx
              injection hx with hx; subst hx; exact hyx, I.out.2⟩ : (∀ t x, t < (lw + hi) / 2 + 1 → l[t]? = some x → x.1 < p) ∧ (∀ t x, hi ≤ t → l[t]? = some x → p ≤ x.1))⟩
      · obtain ⟨z, ez, hz⟩ : ∃ z, cmpI y.1 p = z ∧ ¬ z < 0 := ⟨_, rfl, by unfold cmpI; rw [if_neg hyx]; split <;> omega⟩
        rw [ez] at hc
        have EZ := Lib.hid ez
        clear ez
        go_wp2_with (go_at_call 85; refine hc.mono ?_; rintro e w' ⟨rfl, hb⟩; have HBB := Lib.hid hb; clear hb)
        go_roundg ((lw + hi) / 2 - lw)
        case measure => omega
        case rel =>
          exact ⟨lw, (lw + hi) / 2, rfl, by rw [show ((lw : Int) + (hi : Int)) / 2 = (((lw + hi) / 2 : Nat) : Int) by omega], by omega, by omega, Nat.le_refl _, HW.out.trans (HBB.out.mono HW.out.size), (⟨I.out.1, fun t x ht hx => by
            rcases Nat.eq_or_lt_of_le ht with h1 | h1
            · rw [← h1, HY.out] at hx
              injection hx with hx; subst hx; omega
            · obtain ⟨h2, rfl⟩ := (List.getElem?_eq_some_iff.1 hx)
              obtain ⟨h3, rfl⟩ := (List.getElem?_eq_some_iff.1 HY.out)
              have := List.pairwise_iff_getElem.1 HU.out _ t h3 h2 h1
              omega⟩ : (∀ t x, t < lw → l[t]? = some x → x.1 < p) ∧ (∀ t x, (lw + hi) / 2 ≤ t → l[t]? = some x → p ≤ x.1))⟩
    · obtain rfl : hi = lw := by omega
      have hlo : lo p l = hi := lo_eq HU.out (by rw [HLN.out]; exact hin) I.out.1 I.out.2
      by_cases hn2 : hi < n
      · obtain ⟨y, hy⟩ : ∃ y, l[hi]? = some y := ⟨_, List.getElem?_eq_getElem (by have := HLN.out; omega)⟩
        obtain ⟨r, rfl, hr, k1, k2⟩ := row_at (owns_below H.out HW.out) hy
        have hc := close_any y.1 y.2 p wr
        have HHAS := Lib.hid (show hasP l p = decide (y.1 = p) by unfold hasP; rw [hlo, hy])
        have HLO := Lib.hid hlo
        have HGE := Lib.hid (I.out.2 hi y (Nat.le_refl _) hy)
        clear hy hlo
        by_cases hyx : y.1 = p
        · have ez : cmpI y.1 p = 0 := by unfold cmpI; rw [if_neg (by omega), if_neg (by omega)]
          rw [ez] at hc
          have HYX := Lib.hid hyx
          clear hyx
          go_wp2_with (go_at_call 85; refine hc.mono ?_; rintro e w' ⟨rfl, hb⟩; have HBB := Lib.hid hb; clear hb)
          go_ret2
          exact ⟨by rw [HLO.out, HHAS.out, HYX.out]; simp, HW.out.trans (HBB.out.mono HW.out.size)⟩
        · have ez : cmpI y.1 p = 1 := by unfold cmpI; have := HGE.out; rw [if_neg (by omega), if_pos (by omega)]
          rw [ez] at hc
          have HYX := Lib.hid hyx
          clear hyx
          go_wp2_with (go_at_call 85; refine hc.mono ?_; rintro e w' ⟨rfl, hb⟩; have HBB := Lib.hid hb; clear hb)
          go_ret2
          exact ⟨by rw [HLO.out, HHAS.out, decide_eq_false HYX.out]; rfl, HW.out.trans (HBB.out.mono HW.out.size)⟩
      · have HHAS := Lib.hid (show hasP l p = false by unfold hasP; rw [hlo, List.getElem?_eq_none (by have := HLN.out; omega)])
        have HLO := Lib.hid hlo
        clear hlo
        go_wp2
        go_ret2
        exact ⟨by rw [HLO.out, HHAS.out]; rfl, HW.out⟩
theorem find_any {B g : Nat} {l : Tab} (p : Int) (w : World) (h : Tb B w g l) (hu : l.Pairwise fun a b => a.1 < b.1) (hn : l.length ≤ 100000) :
    Calls Tryz.prog 63 #[.pointer (some ⟨g, 0, none⟩), .int .i64 p] w fun e w' => e = .returned (.tuple #[.int .i64 (lo p l : Int), .bool (hasP l p)]) ∧ Below w.heap.size w w' := by
  obtain ⟨A, c, h⟩ := h
  have c0 := h.cell
  have hs := search_any p w h.row hu hn
  clear h
  generalize l.length = n at *
  generalize lo p l = k at *
  generalize hasP l p = b at *
  go_enter Tryz.func63, Tryz.ntmps63
  go_wp2_with (go_at_call 84; refine hs.mono ?_; rintro e w' ⟨rfl, hb⟩)
  go_ret2
  exact ⟨rfl, hb⟩
set_option maxRecDepth 100000 in
theorem owner_any {B g : Nat} {l : Tab} (p : Int) (w : World) (h : Tb B w g l) (ho : Ok l) (hn : l.length ≤ 100000) :
    Calls Tryz.prog 39 #[.pointer (some ⟨g, 0, none⟩), .int .i64 p] w fun e w' => e = .returned (.int .i64 (ownerL l p)) ∧ Below w.heap.size w w' := by
  have hf := find_any p w h ho.up hn
  have H := Lib.hid h
  have HO := Lib.hid (owner_lo ho p)
  have HLE := Lib.hid (lo_le p l)
  have e1 : hasP l p = match l[lo p l]? with | some x => decide (x.1 = p) | none => false := rfl
  clear h ho
  cases hl : l[lo p l]? with
  | none =>
    rw [hl] at e1
    have HO2 := Lib.hid (show ownerL l p = 0 by rw [HO.out, hl])
    rw [e1] at hf
    clear e1 hl
    generalize lo p l = k at *
    go_enter Tryz.func39, Tryz.ntmps39
    go_wp2_with (go_at_call 63; refine hf.mono ?_; rintro e w' ⟨rfl, hb⟩)
    go_ret
    exact ⟨by rw [HO2.out]; rfl, hb⟩
  | some x =>
    rw [hl] at e1
    by_cases hx : x.1 = p
    · have HO2 := Lib.hid (show ownerL l p = x.2 by rw [HO.out, hl]; simp only; rw [if_pos hx])
      simp only [hx, decide_true] at e1
      rw [e1] at hf
      have HL := Lib.hid hl
      have hk := (List.getElem?_eq_some_iff.1 hl).1
      clear e1 hl
      generalize lo p l = k at *
      have hk' : (k : Int) < (l.length : Int) := by omega
      go_enter Tryz.func39, Tryz.ntmps39
      go_wp2_with (first | (go_at_call 63; refine hf.mono ?_; rintro e w' ⟨rfl, hb⟩; obtain ⟨A, c, hA⟩ := H.out.below hb; have c0 := hA.cell; obtain ⟨r, rfl, hr, k1, k2⟩ := row_at hA.row HL.out; have HBB := Lib.hid hb; clear hA hb))
      go_ret
      exact ⟨by rw [HO2.out]; rfl, HBB.out⟩
    · have HO2 := Lib.hid (show ownerL l p = 0 by rw [HO.out, hl]; simp only; rw [if_neg hx])
      simp only [hx, decide_false] at e1
      rw [e1] at hf
      clear e1 hl
      generalize lo p l = k at *
      go_enter Tryz.func39, Tryz.ntmps39
      go_wp2_with (go_at_call 63; refine hf.mono ?_; rintro e w' ⟨rfl, hb⟩)
      go_ret
      exact ⟨by rw [HO2.out]; rfl, hb⟩
end Pt
end Go.Proofs.YtbichomjpmmjmaaGreatDoor
