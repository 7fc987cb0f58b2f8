/-
  Rows of pods and of uses that are read one by one into a row of the call's own; a reply in memory of the call's own. What was there is left as it was.
-/
import Derived.Test.YtaegknpijgjioaaGreatDoorTellPod
import Derived.Maps.AppendAt
set_option linter.unusedVariables false
set_option linter.unusedSimpArgs false
namespace Go.Proofs.YtaegknpijgjioaaGreatDoor
open Go.ChangeShapes Go.WideShapes Go.ChangeAt Go.RowKit Go.Lib
open LebMath WirePure Sd Wire SpecOwn SpecRef Book Pk
namespace Tl
/-- a pod that was read: where its blocks begin, and the world right behind its reading -/
structure HP where
  x : Pd
  LA : Option Addr
  lc : Nat
  IA : Option Addr
  ic : Nat
  MA : Option Addr
  mc : Nat
  RA : Option Addr
  rc : Nat
  s : Nat
  w0 : World
def HP.vals (t : HP) : List Value := t.x.vals t.LA t.lc t.IA t.ic t.MA t.mc t.RA t.rc
def flatP : List HP → List Value
  | [] => []
  | t :: L => t.vals ++ flatP L
theorem flatP_length : ∀ L : List HP, (flatP L).length = L.length * 13
  | [] => rfl
  | t :: L => by rw [flatP, List.length_append, flatP_length L, show (t.vals).length = 13 from rfl, List.length_cons]; omega
theorem flatP_snoc : ∀ (L : List HP) (t : HP), flatP (L ++ [t]) = flatP L ++ t.vals
  | [], t => by simp [flatP]
  | u :: L, t => by rw [List.cons_append, flatP, flatP_snoc L t, flatP, List.append_assoc]
theorem flatP_at : ∀ {L : List HP} {k : Nat} {t : HP}, L[k]? = some t → ∀ j, j < 13 → (flatP L)[k * 13 + j]? = (t.vals)[j]?
  | [], _, _, h, _, _ => by simp at h
  | u :: L, 0, t, h, j, hj => by
    simp only [List.getElem?_cons_zero, Option.some.injEq] at h
    subst h
    rw [flatP, Nat.zero_mul, Nat.zero_add, List.getElem?_append_left (by rw [show (u.vals).length = 13 from rfl]; exact hj)]
  | u :: L, k + 1, t, h, j, hj => by
    rw [flatP, List.getElem?_append_right (by rw [show (u.vals).length = 13 from rfl]; omega), show (u.vals).length = 13 from rfl, show (k + 1) * 13 + j - 13 = k * 13 + j by omega]
    exact flatP_at (by simpa using h) j hj
def flatU : List (Int × Int × Int) → List Value
  | [] => []
  | t :: L => useVals t ++ flatU L
theorem flatU_length : ∀ L : List (Int × Int × Int), (flatU L).length = L.length * 3
  | [] => rfl
  | t :: L => by rw [flatU, List.length_append, flatU_length L, show (useVals t).length = 3 from rfl, List.length_cons]; omega
theorem flatU_snoc : ∀ (L : List (Int × Int × Int)) (t : (Int × Int × Int)), flatU (L ++ [t]) = flatU L ++ useVals t
  | [], t => by simp [flatU]
  | u :: L, t => by rw [List.cons_append, flatU, flatU_snoc L t, flatU, List.append_assoc]
theorem flatU_at : ∀ {L : List (Int × Int × Int)} {k : Nat} {t : (Int × Int × Int)}, L[k]? = some t → ∀ j, j < 3 → (flatU L)[k * 3 + j]? = (useVals t)[j]?
  | [], _, _, h, _, _ => by simp at h
  | u :: L, 0, t, h, j, hj => by
    simp only [List.getElem?_cons_zero, Option.some.injEq] at h
    subst h
    rw [flatU, Nat.zero_mul, Nat.zero_add, List.getElem?_append_left (by rw [show (useVals u).length = 3 from rfl]; exact hj)]
  | u :: L, k + 1, t, h, j, hj => by
    rw [flatU, List.getElem?_append_right (by rw [show (useVals u).length = 3 from rfl]; omega), show (useVals u).length = 3 from rfl, show (k + 1) * 3 + j - 3 = k * 3 + j by omega]
    exact flatU_at (by simpa using h) j hj
theorem cells_13 {w : World} {g k : Nat} {v : Value} {vs : List Value} (hn : (v :: vs).length = 13) (hc : ∀ j, j < 13 → w.cell? ⟨g, k * 13 + j, none⟩ = (v :: vs)[j]?) : CellsAt w ((⟨g, 0, none⟩ : Addr).add (k * 13)) (v :: vs) := by
  have e0 : (⟨g, 0, none⟩ : Addr).add (k * 13) = ⟨g, k * 13, none⟩ := by unfold Addr.add; split <;> simp_all
  rw [e0]
  refine ⟨hc 0 (by decide), fun i x hx => ?_⟩
  have hi : i < vs.length := (List.getElem?_eq_some_iff.1 hx).1
  rw [List.length_cons] at hn
  rw [← hx]
  exact hc (i + 1) (by omega)
theorem cells_3 {w : World} {g k : Nat} {v : Value} {vs : List Value} (hn : (v :: vs).length = 3) (hc : ∀ j, j < 3 → w.cell? ⟨g, k * 3 + j, none⟩ = (v :: vs)[j]?) : CellsAt w ((⟨g, 0, none⟩ : Addr).add (k * 3)) (v :: vs) := by
  have e0 : (⟨g, 0, none⟩ : Addr).add (k * 3) = ⟨g, k * 3, none⟩ := by unfold Addr.add; split <;> simp_all
  rw [e0]
  refine ⟨hc 0 (by decide), fun i x hx => ?_⟩
  have hi : i < vs.length := (List.getElem?_eq_some_iff.1 hx).1
  rw [List.length_cons] at hn
  rw [← hx]
  exact hc (i + 1) (by omega)
theorem PodUp.move {B : Nat} {p : Pd} {w v : World} {LA IA MA RA : Option Addr} (h : PodUp B p w LA IA MA RA) (hs : w.heap.size ≤ v.heap.size) (hb : ∀ i, B ≤ i → i < w.heap.size → v.heap[i]? = w.heap[i]?) : PodUp B p v LA IA MA RA :=
  ⟨⟨lbls_move h.spec.labels hs (fun a ha hl => hb _ (h.spec.lfrom a ha) hl), h.spec.lfrom, h.spec.init.move hs hb, h.spec.main.move hs hb, h.spec.nums⟩, nums_move h.rs hs (fun a ha _ hl => hb _ (h.rfrom a ha) hl), h.rfrom, h.nr, h.rev⟩
/-- what a row of pods under way holds -/
def GatP (B : Nat) (w : World) (v : Value) (L : List HP) : Prop := ∀ t ∈ L, B ≤ t.s ∧ PodUp t.s t.x t.w0 t.LA t.IA t.MA t.RA ∧ t.w0.heap.size ≤ w.heap.size ∧ (∀ i, t.s ≤ i → i < t.w0.heap.size → w.heap[i]? = t.w0.heap[i]?) ∧ ∀ r, v.ownBlock = some r → r < t.s ∨ t.w0.heap.size ≤ r
theorem GatP.nil (B : Nat) (w : World) (v : Value) : GatP B w v [] := fun t ht => (by cases ht)
theorem GatP.move {B : Nat} {w w' : World} {v : Value} {L : List HP} (h : GatP B w v L) (hs : w.heap.size ≤ w'.heap.size) (hb : ∀ i, B ≤ i → i < w.heap.size → (∀ r, v.ownBlock = some r → i ≠ r) → w'.heap[i]? = w.heap[i]?) : GatP B w' v L := fun t ht => by
  obtain ⟨h1, h2, h3, h4, h5⟩ := h t ht
  refine ⟨h1, h2, Nat.le_trans h3 hs, fun i hi hj => ?_, h5⟩
  rw [hb i (by omega) (by omega) (fun r hr e => by have := h5 r hr; omega)]
  exact h4 i hi hj
theorem GatP.row {B : Nat} {w : World} {v v' : Value} {L : List HP} (h : GatP B w v L) (hv : v'.ownBlock = v.ownBlock ∨ ∃ r, v'.ownBlock = some r ∧ w.heap.size ≤ r) : GatP B w v' L := fun t ht => by
  obtain ⟨h1, h2, h3, h4, h5⟩ := h t ht
  refine ⟨h1, h2, h3, h4, fun r hr => ?_⟩
  rcases hv with e | ⟨r', e, hr'⟩
  · exact h5 r (by rw [← e]; exact hr)
  · rw [e] at hr
    injection hr with hr
    omega
theorem GatP.snoc {B : Nat} {w : World} {v : Value} {L : List HP} (h : GatP B w v L) (t : HP) (h1 : B ≤ t.s) (h2 : PodUp t.s t.x t.w0 t.LA t.IA t.MA t.RA) (h3 : t.w0.heap.size ≤ w.heap.size) (h4 : ∀ i, t.s ≤ i → i < t.w0.heap.size → w.heap[i]? = t.w0.heap[i]?) (h5 : ∀ r, v.ownBlock = some r → r < t.s ∨ t.w0.heap.size ≤ r) : GatP B w v (L ++ [t]) := fun u hu => by
  rcases List.mem_append.1 hu with hu | hu
  · exact h u hu
  · rw [List.mem_singleton.1 hu]
    exact ⟨h1, h2, h3, h4, h5⟩
/-- a list of pods in blocks from B on -/
def PodsUp (B : Nat) (w : World) (A : Option Addr) (l : List Pd) : Prop := ∀ (k : Nat) (p : Pd), l[k]? = some p → ∃ a LA lc IA ic MA mc RA rc, A = some a ∧ B ≤ a.block ∧ a.block < w.heap.size ∧ CellsAt w (a.add (k * 13)) (p.vals LA lc IA ic MA mc RA rc) ∧ PodUp B p w LA IA MA RA
theorem PodsUp.pds {B : Nat} {w : World} {A : Option Addr} {l : List Pd} (h : PodsUp B w A l) : Pds w A l := fun k p hk => by
  obtain ⟨a, LA, lc, IA, ic, MA, mc, RA, rc, h1, h2, h3, h4, h5⟩ := h k p hk
  exact ⟨a, LA, lc, IA, ic, MA, mc, RA, rc, h1, h3, h4, h5.in⟩
theorem PodsUp.move {B : Nat} {w v : World} {A : Option Addr} {l : List Pd} (h : PodsUp B w A l) (hs : w.heap.size ≤ v.heap.size) (hb : ∀ i, B ≤ i → i < w.heap.size → v.heap[i]? = w.heap[i]?) : PodsUp B v A l := fun k p hk => by
  obtain ⟨a, LA, lc, IA, ic, MA, mc, RA, rc, h1, h2, h3, h4, h5⟩ := h k p hk
  exact ⟨a, LA, lc, IA, ic, MA, mc, RA, rc, h1, h2, Nat.lt_of_lt_of_le h3 hs, h4.keep (by rw [Lists.add_block]; exact hb _ h2 h3), h5.move hs hb⟩
theorem PodsUp.nil (B : Nat) (w : World) (A : Option Addr) : PodsUp B w A [] := fun k p hk => (by simp at hk)
theorem GatP.up {B : Nat} {w : World} {A : Option Addr} {n cap : Nat} {L : List HP} (h : GatP B w (.slice A n cap) L) (ho : w.ownsRow B 33 13 (.slice A n cap) n (flatP L)) : PodsUp B w A (L.map (·.x)) := by
  intro k x hk
  rw [List.getElem?_map, Option.map_eq_some_iff] at hk
  obtain ⟨t, ht, rfl⟩ := hk
  obtain ⟨h1, h2, h3, h4, h5⟩ := h t (List.mem_of_getElem? ht)
  have hkl : k < L.length := (List.getElem?_eq_some_iff.1 ht).1
  have hln := ho.1
  rw [flatP_length] at hln
  rcases ho.2 with ⟨e1, h0⟩ | ⟨g, cap', cur, e1, e2, e3, e4⟩
  · omega
  · injection e1 with e1 e5 e6
    subst e1
    have hc : ∀ j, j < 13 → w.cell? ⟨g, k * 13 + j, none⟩ = t.vals[j]? := fun j hj => by
      rw [ho.cellAt (k * 13 + j) (by omega), flatP_at ht j hj]
    exact ⟨_, t.LA, t.lc, t.IA, t.ic, t.MA, t.mc, t.RA, t.rc, rfl, e2, lt_of_block e3, cells_13 rfl hc, (h2.move h3 h4).less h1⟩
/-- a list of uses in blocks from B on -/
def UsesUp (B : Nat) (w : World) (A : Option Addr) (l : List (Int × Int × Int)) : Prop := ∀ (k : Nat) (u : Int × Int × Int), l[k]? = some u → ∃ a, A = some a ∧ B ≤ a.block ∧ a.block < w.heap.size ∧ CellsAt w (a.add (k * 3)) (useVals u)
theorem UsesUp.uses {B : Nat} {w : World} {A : Option Addr} {l : List (Int × Int × Int)} (h : UsesUp B w A l) : Uses w A l := fun k u hk => by
  obtain ⟨a, h1, h2, h3, h4⟩ := h k u hk
  exact ⟨a, h1, h3, h4⟩
theorem UsesUp.move {B : Nat} {w v : World} {A : Option Addr} {l : List (Int × Int × Int)} (h : UsesUp B w A l) (hs : w.heap.size ≤ v.heap.size) (hb : ∀ i, B ≤ i → i < w.heap.size → v.heap[i]? = w.heap[i]?) : UsesUp B v A l := fun k u hk => by
  obtain ⟨a, h1, h2, h3, h4⟩ := h k u hk
  exact ⟨a, h1, h2, Nat.lt_of_lt_of_le h3 hs, h4.keep (by rw [Lists.add_block]; exact hb _ h2 h3)⟩
theorem UsesUp.nil (B : Nat) (w : World) (A : Option Addr) : UsesUp B w A [] := fun k u hk => (by simp at hk)
theorem uses_up {B : Nat} {w : World} {A : Option Addr} {n cap : Nat} {L : List (Int × Int × Int)} (ho : w.ownsRow B 72 3 (.slice A n cap) n (flatU L)) : UsesUp B w A L := by
  intro k t ht
  have hkl : k < L.length := (List.getElem?_eq_some_iff.1 ht).1
  have hln := ho.1
  rw [flatU_length] at hln
  rcases ho.2 with ⟨e1, h0⟩ | ⟨g, cap', cur, e1, e2, e3, e4⟩
  · omega
  · injection e1 with e1 e5 e6
    subst e1
    have hc : ∀ j, j < 3 → w.cell? ⟨g, k * 3 + j, none⟩ = (useVals t)[j]? := fun j hj => by
      rw [ho.cellAt (k * 3 + j) (by omega), flatU_at ht j hj]
    exact ⟨_, rfl, e2, lt_of_block e3, cells_3 rfl hc⟩
/-- a reply in blocks from B on -/
structure RpUp (B : Nat) (y : Rp) (w : World) (PA UA : Option Addr) : Prop where
  pods : PodsUp B w PA y.pods
  use : UsesUp B w UA y.use
  np : y.pods.length ≤ 9223372036854775807
  nu : y.use.length ≤ 9223372036854775807
  rev : y.rev < 18446744073709551616
theorem RpUp.in {B : Nat} {y : Rp} {w : World} {PA UA : Option Addr} (h : RpUp B y w PA UA) : y.In w PA UA := ⟨h.pods.pds, h.use.uses, h.np, h.nu, h.rev⟩
theorem RpUp.move {B : Nat} {y : Rp} {w v : World} {PA UA : Option Addr} (h : RpUp B y w PA UA) (hs : w.heap.size ≤ v.heap.size) (hb : ∀ i, B ≤ i → i < w.heap.size → v.heap[i]? = w.heap[i]?) : RpUp B y v PA UA := ⟨h.pods.move hs hb, h.use.move hs hb, h.np, h.nu, h.rev⟩
/-- append, as a step of a region that draws its order: where the row lies afterwards is told, too -/
theorem step_append_lay {P : Program} {w : World} {ops : Array Oper} {o : Oper} {a : Act} {K : Act → World → Prop} {Q : Exit → Act → World → Prop} {E : Prop} (hgd : o.guard = none) (s x : Operand) (t : TypeId)
    (ho : o.op = .call { callee := .builtin .append, args := #[s, x], argTypes := #[t, t] })
    (base : Nat) (e : TypeId) (i : TypeInfo) (z : Value) (size bytes : Nat) (ht : P.underlying t = some (.slice e)) (hi : P.info? e = some i) (hz : i.zero = some z)
    (hsize : i.size = size) (hby : i.bytes = bytes) (hzs : z.cells.size = size) (hsz : 0 < size)
    (v : Value) (n : Nat) (xs : List Value) (hs : a.eval s = v) (hown : w.ownsRow base e size v n xs)
    (ad : Addr) (m c : Nat) (news : List Value) (hx : a.eval x = .slice (some ad) m c) (hl : news.length = m * size)
    (hnews : ∀ j u, news[j]? = some u → w.cell? (ad.add j) = some u) (h1 : ∀ u ∈ news, u.oneCell' = true)
    (h63 : n + m ≤ maxLen) (hbytes : (n + m) * bytes ≤ 140737488355328) (hbase : base ≤ w.heap.size)
    (h : ∀ A' c' w', w'.ownsRow base e size (.slice A' (n + m) c') (n + m) (xs ++ news) → w.grownBy w' v.ownBlock → ((Value.slice A' (n + m) c').ownBlock = v.ownBlock ∨ (Value.slice A' (n + m) c').ownBlock = some w.heap.size) → K (a.put o.dst (.slice A' (n + m) c')) w') :
    if Region.wanted o (yielded ops a.tmps) = true then Oper.wp P o a w K Q else E := by
  have hw : Region.wanted o (yielded ops a.tmps) = true := by simp [Region.wanted, hgd]
  rw [if_pos hw]
  obtain ⟨v', w', hr, h2, h3, h4, h5⟩ := run_append_own_at (P := P) w base t o.type e i z size bytes ht hi hz hsize hby hzs hsz v n xs hown ad m c news hl hnews h1 h63 hbytes hbase
  have hf : ∃ A' c', v' = .slice A' (n + m) c' := own_form h2
  obtain ⟨A', c', rfl⟩ := hf
  unfold Oper.wp execOp
  simp only [ho, resolve, invoke, builtin, Sem.run_bind, Sem.run_pure, Result.andThen_ok, List.map_toArray, List.map_cons, List.map_nil, hs, hx, hr]
  exact h A' c' w' h2 h3 h5
end Tl
end Go.Proofs.YtaegknpijgjioaaGreatDoor
