/-
  Tables of ports as lists: who owns a port, a port laid in, all of a call's ports taken, freed, held; the same whatever the order in which they are laid. No condition.
-/
import Derived.WalkKit
set_option linter.unusedVariables false
set_option linter.unusedSimpArgs false
namespace Go.Proofs.Ytgnfpcacpcnanaa
namespace Pt

abbrev Tab := List (Int × Int)
def ownerL : Tab → Int → Int
  | [], _ => 0
  | x :: l, p => if x.1 = p then x.2 else ownerL l p
/-- how many stand ahead of port p -/
def lo (p : Int) : Tab → Nat
  | [] => 0
  | x :: l => if x.1 < p then lo p l + 1 else 0
def insL (o p : Int) (l : Tab) : Tab := l.take (lo p l) ++ (p, o) :: l.drop (lo p l)
def refL (o : Int) : List Int → Tab → Option Tab
  | [], out => some out
  | p :: ps, out => if ownerL out p = 0 then refL o ps (insL o p out) else none
def inR (p : Int) : Bool := decide (1 ≤ p ∧ p ≤ 65535)
def fineB (o : Int) (ps : List Int) : Bool := decide (1 ≤ o) && ps.all inR
def takeC (l : Tab) (o : Int) (ps : List Int) : Nat := if fineB o ps = true then (match refL o ps l with | some _ => 0 | none => 150) else 1
def takeL (l : Tab) (o : Int) (ps : List Int) : Tab := if fineB o ps = true then (match refL o ps l with | some r => r | none => l) else l
def freeL (l : Tab) (o : Int) : Tab := l.filter fun x => !decide (x.2 = o)
def heldL (l : Tab) (o : Int) : List Int := (l.filter fun x => decide (x.2 = o)).map Prod.fst

def I64 (z : Int) : Prop := -9223372036854775808 ≤ z ∧ z ≤ 9223372036854775807
/-- a table: its ports rise, are ports, and have owners -/
structure Ok (l : Tab) : Prop where
  up : l.Pairwise fun a b => a.1 < b.1
  one : ∀ x ∈ l, 1 ≤ x.1 ∧ x.1 ≤ 65535 ∧ 1 ≤ x.2 ∧ x.2 ≤ 9223372036854775807
theorem Ok.nil : Ok [] := ⟨.nil, fun _ h => by simp at h⟩

theorem lo_le (p : Int) : ∀ l, lo p l ≤ l.length
  | [] => Nat.le_refl _
  | x :: l => by unfold lo; split <;> simp <;> exact lo_le p l
theorem lo_below (p : Int) : ∀ (l : Tab) (k : Nat) (x : Int × Int), k < lo p l → l[k]? = some x → x.1 < p
  | [], k, x, h, _ => by simp [lo] at h
  | y :: l, 0, x, h, hx => by
    simp at hx; subst hx
    unfold lo at h; split at h
    · assumption
    · omega
  | y :: l, k + 1, x, h, hx => by
    unfold lo at h; split at h
    · exact lo_below p l k x (by omega) (by simpa using hx)
    · omega
theorem lo_at (p : Int) : ∀ (l : Tab) (x : Int × Int), l[lo p l]? = some x → p ≤ x.1
  | [], x, h => by simp at h
  | y :: l, x, h => by
    unfold lo at h; split at h
    · exact lo_at p l x (by simpa using h)
    · simp at h; subst h; omega
/-- where a search ends -/
theorem lo_eq {l : Tab} (hu : l.Pairwise fun a b => a.1 < b.1) {p : Int} {i : Nat} (hi : i ≤ l.length) (h1 : ∀ k x, k < i → l[k]? = some x → x.1 < p) (h2 : ∀ k x, i ≤ k → l[k]? = some x → p ≤ x.1) : lo p l = i := by
  rcases Nat.lt_trichotomy (lo p l) i with h | h | h
  · have hx := h1 (lo p l) l[lo p l] h (List.getElem?_eq_getElem (by omega))
    have := lo_at p l _ (List.getElem?_eq_getElem (by omega))
    omega
  · exact h
  · have hl := lo_le p l
    have := lo_below p l i l[i] h (List.getElem?_eq_getElem (by omega))
    have := h2 i l[i] (Nat.le_refl _) (List.getElem?_eq_getElem (by omega))
    omega
theorem owner_none : ∀ (l : Tab) (p : Int), (∀ x ∈ l, x.1 ≠ p) → ownerL l p = 0
  | [], p, _ => rfl
  | x :: l, p, h => by
    unfold ownerL
    rw [if_neg (h x (by simp)), owner_none l p (fun y hy => h y (by simp [hy]))]
theorem owner_some {l : Tab} (h : Ok l) {x : Int × Int} (hx : x ∈ l) : ownerL l x.1 = x.2 := by
  obtain ⟨hu, h1⟩ := h
  induction l with
  | nil => simp at hx
  | cons y l ih =>
    unfold ownerL
    rw [List.pairwise_cons] at hu
    rcases List.mem_cons.1 hx with rfl | hx
    · rw [if_pos rfl]
    · have := hu.1 x hx
      rw [if_neg (by omega)]
      exact ih hx hu.2 (fun z hz => h1 z (by simp [hz]))
theorem owner_zero {l : Tab} (h : Ok l) (p : Int) : ownerL l p = 0 ↔ ∀ x ∈ l, x.1 ≠ p := by
  refine ⟨fun h0 x hx e => ?_, owner_none l p⟩
  subst e
  rw [owner_some h hx] at h0
  have := (h.one x hx).2.2.1
  omega
/-- the owner, by the place -/
theorem owner_lo {l : Tab} (h : Ok l) (p : Int) : ownerL l p = match l[lo p l]? with | some x => if x.1 = p then x.2 else 0 | none => 0 := by
  have key : ∀ x ∈ l, x.1 = p → l[lo p l]? = some x := fun x hx e => by
    obtain ⟨k, hk, rfl⟩ := List.getElem_of_mem hx
    have : lo p l = k := lo_eq h.up (Nat.le_of_lt hk) (fun j y hj hy => by
        obtain ⟨hj2, rfl⟩ := List.getElem?_eq_some_iff.1 hy
        have := List.pairwise_iff_getElem.1 h.up j k hj2 hk hj
        omega) (fun j y hj hy => by
        obtain ⟨hj2, rfl⟩ := List.getElem?_eq_some_iff.1 hy
        rcases Nat.eq_or_lt_of_le hj with rfl | hj
        · omega
        · have := List.pairwise_iff_getElem.1 h.up k j hk hj2 hj
          omega)
    rw [this]; exact List.getElem?_eq_getElem hk
  cases hl : l[lo p l]? with
  | none =>
    simp only
    exact owner_none l p (fun x hx e => by rw [key x hx e] at hl; cases hl)
  | some x =>
    simp only
    have hx : x ∈ l := List.mem_of_getElem? hl
    split
    · rename_i e; rw [← e]; exact owner_some h hx
    · rename_i ne
      exact owner_none l p (fun y hy e => by rw [key y hy e] at hl; injection hl with hl; subst hl; exact ne e)
theorem owner_ins (o p : Int) (l : Tab) (q : Int) : ownerL (insL o p l) q = if q = p then o else ownerL l q := by
  have aux : ∀ (a b : Tab), (∀ x ∈ a, x.1 < p) → ownerL (a ++ (p, o) :: b) q = if q = p then o else ownerL (a ++ b) q := by
    intro a
    induction a with
    | nil =>
      intro b _
      simp only [List.nil_append, ownerL]
      by_cases h : q = p
      · subst h; simp
      · rw [if_neg (fun e => h e.symm), if_neg h]
    | cons x a ih =>
      intro b hx
      have h0 := hx x (by simp)
      simp only [List.cons_append, ownerL]
      rw [ih b (fun y hy => hx y (by simp [hy]))]
      by_cases h : q = p
      · subst h; rw [if_neg (by omega), if_pos rfl, if_pos rfl]
      · rw [if_neg h, if_neg h]
  unfold insL
  rw [aux _ _ (fun x hx => by
    obtain ⟨k, hk, rfl⟩ := List.getElem_of_mem hx
    rw [List.length_take] at hk
    rw [List.getElem_take]
    exact lo_below p l k _ (by omega) (List.getElem?_eq_getElem (by omega))), List.take_append_drop]
theorem ins_perm (o p : Int) (l : Tab) : (insL o p l).Perm ((p, o) :: l) := by
  unfold insL
  refine List.perm_middle.trans ?_
  rw [List.take_append_drop]
theorem ins_length (o p : Int) (l : Tab) : (insL o p l).length = l.length + 1 := by
  rw [(ins_perm o p l).length_eq]; simp
theorem Ok.ins {l : Tab} (h : Ok l) {o p : Int} (ho : 1 ≤ o ∧ o ≤ 9223372036854775807) (hp : inR p = true) (h0 : ownerL l p = 0) : Ok (insL o p l) := by
  unfold inR at hp
  have hp := of_decide_eq_true hp
  have hne := (owner_zero h p).1 h0
  constructor
  · unfold insL
    have hu := h.up
    rw [← List.take_append_drop (lo p l) l, List.pairwise_append] at hu
    have hlow : ∀ x ∈ l.take (lo p l), x.1 < p := fun x hx => by
      obtain ⟨k, hk, rfl⟩ := List.getElem_of_mem hx
      rw [List.length_take] at hk
      rw [List.getElem_take]
      exact lo_below p l k _ (by omega) (List.getElem?_eq_getElem (by omega))
    have hhigh : ∀ x ∈ l.drop (lo p l), p < x.1 := fun x hx => by
      have hm := hne x (List.mem_of_mem_drop hx)
      obtain ⟨k, hk, rfl⟩ := List.getElem_of_mem hx
      rw [List.length_drop] at hk
      rw [List.getElem_drop] at hm ⊢
      have h1 := lo_at p l l[lo p l] (List.getElem?_eq_getElem (by omega))
      rcases Nat.eq_zero_or_pos k with rfl | hk0
      · simp only [Nat.add_zero] at hm ⊢; omega
      · have := List.pairwise_iff_getElem.1 h.up (lo p l) (lo p l + k) (by omega) (by omega) (by omega)
        omega
    rw [List.pairwise_append, List.pairwise_cons]
    refine ⟨hu.1, ⟨hhigh, hu.2.1⟩, fun a ha b hb => ?_⟩
    rcases List.mem_cons.1 hb with rfl | hb
    · exact hlow a ha
    · exact hu.2.2 a ha b hb
  · intro x hx
    rcases List.mem_cons.1 ((ins_perm o p l).subset hx) with rfl | hx
    · exact ⟨hp.1, hp.2, ho.1, ho.2⟩
    · exact h.one x hx
/-- two tables of the same ports are the same -/
theorem Ok.eq {a b : Tab} (ha : Ok a) (hb : Ok b) (hp : a.Perm b) : a = b :=
  List.Perm.eq_of_pairwise (le := fun x y => x.1 < y.1) (fun x y _ _ h1 h2 => by omega) ha.up hb.up hp
def layL (o : Int) (ps : List Int) (l : Tab) : Tab := ps.foldl (fun l p => insL o p l) l
theorem lay_perm (o : Int) : ∀ (ps : List Int) (l : Tab), (layL o ps l).Perm (ps.map (fun p => (p, o)) ++ l)
  | [], l => List.Perm.refl _
  | p :: ps, l => by
    refine (lay_perm o ps (insL o p l)).trans ?_
    rw [List.map_cons, List.cons_append]
    exact ((ins_perm o p l).append_left _).trans List.perm_middle
/-- what may be laid -/
def Free (l : Tab) (ps : List Int) : Prop := (∀ p ∈ ps, ownerL l p = 0) ∧ ps.Nodup
theorem free_tail {l : Tab} {p : Int} {ps : List Int} (o : Int) (h : Free l (p :: ps)) : Free (insL o p l) ps := by
  obtain ⟨h1, h2⟩ := h
  rw [List.nodup_cons] at h2
  refine ⟨fun q hq => ?_, h2.2⟩
  have hne : q ≠ p := fun e => h2.1 (by rw [← e]; exact hq)
  rw [owner_ins, if_neg hne]
  exact h1 q (by simp [hq])
theorem refL_free {o : Int} : ∀ {ps : List Int} {l : Tab}, Free l ps → refL o ps l = some (layL o ps l)
  | [], l, _ => rfl
  | p :: ps, l, h => by
    unfold refL
    rw [if_pos (h.1 p (by simp)), refL_free (free_tail o h)]
    rfl
theorem refL_some {o : Int} (ho : 1 ≤ o) : ∀ {ps : List Int} {l r : Tab}, refL o ps l = some r → Free l ps
  | [], l, r, _ => ⟨fun _ h => by simp at h, List.nodup_nil⟩
  | p :: ps, l, r, h => by
    unfold refL at h
    split at h
    · rename_i h0
      obtain ⟨h1, h2⟩ := refL_some ho h
      refine ⟨fun q hq => ?_, List.nodup_cons.2 ⟨fun hm => ?_, h2⟩⟩
      · rcases List.mem_cons.1 hq with rfl | hq
        · exact h0
        · have := h1 q hq
          rw [owner_ins] at this
          split at this
          · omega
          · exact this
      · have := h1 p hm
        rw [owner_ins, if_pos rfl] at this
        omega
    · cases h
theorem Ok.lay {o : Int} (ho : 1 ≤ o ∧ o ≤ 9223372036854775807) : ∀ {ps : List Int} {l : Tab}, Ok l → Free l ps → (∀ p ∈ ps, inR p = true) → Ok (layL o ps l)
  | [], l, h, _, _ => h
  | p :: ps, l, h, hf, hr => Ok.lay (l := insL o p l) ho (h.ins ho (hr p (by simp)) (hf.1 p (by simp))) (free_tail o hf) (fun q hq => hr q (by simp [hq]))
/-- in whatever order -/
theorem lay_any {o : Int} (ho : 1 ≤ o ∧ o ≤ 9223372036854775807) {ps qs : List Int} {l : Tab} (h : Ok l) (hf : Free l ps) (hr : ∀ p ∈ ps, inR p = true) (hp : qs.Perm ps) : layL o qs l = layL o ps l :=
  (Ok.lay ho h ⟨fun p hq => hf.1 p (hp.subset hq), (hp.nodup_iff).2 hf.2⟩ (fun p hq => hr p (hp.subset hq))).eq (Ok.lay ho h hf hr) ((lay_perm o qs l).trans (((hp.map _).append_right l).trans (lay_perm o ps l).symm))
/-- the program's test at place i of the sorted ports -/
def clashB (l : Tab) (r : List Int) (i : Nat) : Bool := !decide (ownerL l (r[i]?.getD 0) = 0) || (decide (0 < i) && decide (r[i - 1]?.getD 0 = r[i]?.getD 0))
def sortI (ps : List Int) : List Int := ps.mergeSort fun x y => decide (x ≤ y)
theorem sort_perm (ps : List Int) : (sortI ps).Perm ps := List.mergeSort_perm _ _
theorem sort_up (ps : List Int) : (sortI ps).Pairwise fun a b => a ≤ b := by
  have := List.pairwise_mergeSort (le := fun x y : Int => decide (x ≤ y)) (fun a b c h1 h2 => by simp at *; omega) (fun a b => by simp; omega) ps
  exact this.imp (fun {a b} h => by simpa using h)
theorem clash_none {l : Tab} {ps : List Int} (h : ∀ i, i < (sortI ps).length → clashB l (sortI ps) i = false) : Free l ps := by
  have hp := sort_perm ps
  generalize hs : sortI ps = r at h hp
  have hup : r.Pairwise fun a b => a ≤ b := hs ▸ sort_up ps
  have h1 : ∀ p ∈ r, ownerL l p = 0 := fun p hm => by
    obtain ⟨k, hk, rfl⟩ := List.getElem_of_mem hm
    have := h k hk
    unfold clashB at this
    simp [hk] at this
    exact this.1
  have hadj : ∀ i (hi : i + 1 < r.length), r[i] < r[i + 1] := fun i hi => by
    have h2 := h (i + 1) hi
    have h3 := List.pairwise_iff_getElem.1 hup i (i + 1) (by omega) hi (by omega)
    unfold clashB at h2
    simp [hi, show i < r.length by omega] at h2
    omega
  have hnd : r.Nodup := by
    rw [List.Nodup, List.pairwise_iff_getElem]
    intro i j hi hj hij
    have h3 := hadj i (by omega)
    rcases Nat.eq_or_lt_of_le (show i + 1 ≤ j from hij) with rfl | h4
    · omega
    · have := List.pairwise_iff_getElem.1 hup (i + 1) j (by omega) hj h4
      omega
  exact ⟨fun p hm => h1 p (hp.symm.subset hm), hp.nodup_iff.1 hnd⟩
theorem clash_some {l : Tab} {ps : List Int} {i : Nat} (hi : i < (sortI ps).length) (h : clashB l (sortI ps) i = true) : ¬ Free l ps := by
  rintro ⟨h1, h2⟩
  have hp := sort_perm ps
  have hnd := hp.nodup_iff.2 h2
  generalize hs : sortI ps = r at h hp hi hnd
  unfold clashB at h
  have hm : r[i] ∈ ps := hp.subset (List.getElem_mem hi)
  have h3 := h1 _ hm
  simp [hi, h3] at h
  obtain ⟨h4, h5⟩ := h
  rw [List.getElem?_eq_getElem (by omega)] at h5
  simp only [Option.getD_some] at h5
  have := List.pairwise_iff_getElem.1 hnd (i - 1) i (by omega) hi (by omega)
  exact this h5
/-- what the program does is what the document says -/
theorem take_clash {l : Tab} {o : Int} {ps : List Int} (hf : fineB o ps = true) {i : Nat} (hi : i < (sortI ps).length) (h : clashB l (sortI ps) i = true) : takeC l o ps = 150 ∧ takeL l o ps = l := by
  have ho : 1 ≤ o := by unfold fineB at hf; simp at hf; exact hf.1
  unfold takeC takeL
  rw [if_pos hf, if_pos hf]
  cases hr : refL o ps l with
  | none => exact ⟨rfl, rfl⟩
  | some r => exact absurd (refL_some ho hr) (clash_some hi h)
theorem take_free {l : Tab} {o : Int} {ps : List Int} (hl : Ok l) (ho : o ≤ 9223372036854775807) (hf : fineB o ps = true) (h : ∀ i, i < (sortI ps).length → clashB l (sortI ps) i = false) : takeC l o ps = 0 ∧ takeL l o ps = layL o (sortI ps) l := by
  have hf2 := clash_none h
  unfold takeC takeL
  rw [if_pos hf, if_pos hf, refL_free hf2]
  unfold fineB at hf
  simp only [Bool.and_eq_true, decide_eq_true_eq, List.all_eq_true] at hf
  exact ⟨rfl, (lay_any ⟨hf.1, ho⟩ hl hf2 hf.2 (sort_perm ps)).symm⟩
theorem take_range {l : Tab} {o : Int} {ps : List Int} (hf : fineB o ps = false) : takeC l o ps = 1 ∧ takeL l o ps = l := by
  unfold takeC takeL
  simp [hf]
theorem take_ok {l : Tab} (h : Ok l) {o : Int} (ho : o ≤ 9223372036854775807) (ps : List Int) : Ok (takeL l o ps) := by
  unfold takeL
  split
  · rename_i hf
    cases hr : refL o ps l with
    | none => exact h
    | some r =>
      unfold fineB at hf
      simp only [Bool.and_eq_true, decide_eq_true_eq, List.all_eq_true] at hf
      have h1 := refL_some hf.1 hr
      rw [refL_free h1] at hr
      injection hr with hr
      subst hr
      exact Ok.lay ⟨hf.1, ho⟩ h h1 hf.2
  · exact h
theorem lay_length (o : Int) (ps : List Int) (l : Tab) : (layL o ps l).length = l.length + ps.length := by
  rw [(lay_perm o ps l).length_eq]; simp; omega
theorem take_length {l : Tab} (o : Int) (ps : List Int) : (takeL l o ps).length ≤ l.length + ps.length := by
  unfold takeL
  split
  · rename_i hf
    cases hr : refL o ps l with
    | none => simp
    | some r =>
      unfold fineB at hf
      simp only [Bool.and_eq_true, decide_eq_true_eq, List.all_eq_true] at hf
      have h1 := refL_some hf.1 hr
      rw [refL_free h1] at hr
      injection hr with hr
      subst hr
      rw [lay_length]; simp
  · simp
theorem free_ok {l : Tab} (h : Ok l) (o : Int) : Ok (freeL l o) :=
  ⟨h.up.filter _, fun x hx => h.one x (List.mem_filter.1 hx).1⟩
theorem free_length (l : Tab) (o : Int) : (freeL l o).length ≤ l.length := List.length_filter_le _ _
theorem free_none {l : Tab} {o : Int} (h : ∀ x ∈ l, x.2 ≠ o) : freeL l o = l := by
  unfold freeL
  rw [List.filter_eq_self]
  intro x hx
  simpa using h x hx
end Pt
end Go.Proofs.Ytgnfpcacpcnanaa
