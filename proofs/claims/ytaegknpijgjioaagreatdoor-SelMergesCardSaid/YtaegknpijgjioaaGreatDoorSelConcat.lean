/-
  slices.SortFunc at labels by sel.order, slices.Grow of none, and slices.Concat of two lists of labels: rows of the caller's own. Conditions: the lists are not too long.
-/
import Derived.Test.YtaegknpijgjioaaGreatDoorSelSort
import Derived.Test.YtaegknpijgjioaaGreatDoorSpecPorts
set_option linter.unusedVariables false
set_option linter.unusedSimpArgs false
namespace Go.Proofs.YtaegknpijgjioaaGreatDoor
open Go.ChangeShapes Go.WideShapes Go.ChangeAt Go.RowKit Go.Lib
open Sd Lists SpecOwn Book Go.Sort
open Grown
namespace Sl

instance : Inhabited Lbl := ⟨⟨⟨#[]⟩, ⟨#[]⟩⟩⟩
def encL (x : Lbl) : List Value := [.string x.key, .string x.val]
theorem flatK_L (l : List Lbl) : flatK encL 2 l.toArray = (flatL l).toArray := by
  refine ext_get! (by simp [flatL_length]) fun t ht => ?_
  have ht2 : t < l.length * 2 := by simpa using ht
  rw [get_flatK _ _ _ _ (by simpa using ht2)]
  obtain ⟨k, hk⟩ : ∃ k, t / 2 = k := ⟨_, rfl⟩
  have hkl : k < l.length := by omega
  obtain ⟨f0, f1⟩ := flatL_at (List.getElem?_eq_getElem hkl)
  have hx : l.toArray[k]! = l[k] := by rw [getElem!_pos l.toArray k (by simpa using hkl)]; simp
  rw [hk, hx]
  have hlen : t < (flatL l).toArray.size := by rw [List.size_toArray, flatL_length]; exact ht2
  rw [getElem!_pos (flatL l).toArray t hlen, List.getElem_toArray]
  rcases (show t = k * 2 ∨ t = k * 2 + 1 by omega) with h | h
  · subst h
    rw [show k * 2 % 2 = 0 by omega]
    have := (List.getElem?_eq_some_iff.1 f0).2
    rw [this]; rfl
  · subst h
    rw [show (k * 2 + 1) % 2 = 1 by omega]
    have := (List.getElem?_eq_some_iff.1 f1).2
    rw [this]; rfl
theorem heap_sortedL {w : World} {g n : Nat} {os : Array Obj} {cur : Array Value} {e : TypeId} {fr : Nat × Nat} (d : Array Value) (hb : w.heap[g]? = some (.cells cur e fr)) :
    (grow (putRow id (Sort.ahead w n) g 0 d) os).heap[g]? = some (.cells (putCells id 0 d cur) e fr) := by
  have hg : g < w.heap.size := (Array.getElem?_eq_some_iff.1 hb).1
  rw [heap_grow_old _ _ (by simpa using hg)]
  simp [putRow, mapBlock, Sort.ahead, Array.getElem?_modify, hb, onCells]
theorem grownBy_sortedL {w : World} {g n : Nat} {os : Array Obj} (d : Array Value) : w.grownBy (grow (putRow id (Sort.ahead w n) g 0 d) os) (some g) := by
  refine ⟨rfl, rfl, rfl, by simp, fun k hk hne => ?_⟩
  rw [heap_grow_old _ _ (by simpa using hk)]
  have : g ≠ k := fun e => hne (by rw [e])
  simp [putRow, mapBlock, Sort.ahead, Array.getElem?_modify, this]
theorem take_putCellsL (cur : Array Value) (ts : List Value) (h : ts.length ≤ cur.size) : (putCells id 0 ts.toArray cur).toList.take ts.length = ts := by
  apply List.ext_getElem?
  intro j
  by_cases hj : j < ts.length
  · rw [List.getElem?_take_of_lt hj, Array.getElem?_toList]
    simp [putCells, hj, show j < cur.size by omega]
  · rw [List.getElem?_take_eq_none (by omega), List.getElem?_eq_none (by omega)]
theorem holdsL {w : World} {base g cap : Nat} {l : List Lbl} (h : w.ownsRow base 49 2 (.slice (some ⟨g, 0, none⟩) l.length cap) l.length (flatL l)) : HoldsK encL 2 w g 0 l.toArray := by
  unfold HoldsK
  rw [flatK_L]
  intro j hj
  have hj' : j < (flatL l).length := by simpa using hj
  refine ⟨?_, by rw [Nat.zero_add]; exact h.frozenAt j⟩
  rw [Nat.zero_add, h.cellAt j (by rw [flatL_length] at hj'; exact hj'), List.getElem?_eq_getElem hj', getElem!_pos (flatL l).toArray j hj, List.getElem_toArray]
  rfl
theorem own_sortedL {w : World} {base g cap n : Nat} {os : Array Obj} {l ts : List Lbl} (h : w.ownsRow base 49 2 (.slice (some ⟨g, 0, none⟩) l.length cap) l.length (flatL l)) (hl : ts.length = l.length) :
    (sortWorldK encL 2 w g 0 n ts.toArray os).ownsRow base 49 2 (.slice (some ⟨g, 0, none⟩) l.length cap) l.length (flatL ts) := by
  rcases h.2 with ⟨e1, _⟩ | ⟨g', cap', cur, e1, hb, hg, h1, h2, h3, h4⟩
  · cases e1
  · injection e1 with e1 e2 e3
    injection e1 with e1
    injection e1 with e1 _ _
    subst e1 e3
    unfold sortWorldK putRowK
    rw [flatK_L]
    refine ⟨by rw [flatL_length, hl], .inr ⟨g, cap, _, rfl, hb, heap_sortedL _ hg, h1, h2, by simp [putCells, h3], ?_⟩⟩
    have hq : (flatL ts).length = l.length * 2 := by rw [flatL_length, hl]
    rw [← hq]
    exact take_putCellsL cur _ (by rw [hq, h3]; omega)
theorem swoL : SWO (ltOf cfL) where
  irrefl x := ltL_irrefl x
  trans _ _ _ h1 h2 := ltL_trans h1 h2
  ntrans _ _ _ h1 h2 := ltL_ntrans h1 h2
theorem sortL_length (l : List Lbl) : (sortL l).length = l.length := (List.mergeSort_perm l _).length_eq
set_option maxRecDepth 100000 in
theorem sort_some (base g cap : Nat) (l : List Lbl) (hl : l.length ≤ 1000000) (w : World) (h : w.ownsRow base 49 2 (.slice (some ⟨g, 0, none⟩) l.length cap) l.length (flatL l)) (hg : g < w.heap.size) :
    Calls Tryz.prog 29 #[.slice (some ⟨g, 0, none⟩) l.length cap, .func (.func 30) #[] #[]] w fun e w' => e = .returned (.tuple #[]) ∧ w'.ownsRow base 49 2 (.slice (some ⟨g, 0, none⟩) l.length cap) l.length (flatL (sortL l)) ∧ w.grownBy w' (some g) := by
  have eg : ∀ args w, (callFunc 30 args).run Tryz.prog w = .ok (.enter 30 args) w := enters_of Tryz.func30 (by kernel_rfl) rfl
  have hcmp : CmpLays Tryz.prog 30 #[] encL 2 cfL g 0 l.toArray.size w := fun m os dk _ x y => order_any x y _
  have hcon := AnyQ.slices_SortFunc_total Tryz.sortL 2 Tryz.isAgg49 Tryz.sizeOf49 encL (fun _ => rfl) (fun x v hv => by simp [encL] at hv; rcases hv with rfl | rfl <;> rfl) cfL swoL 30 #[] g 0 cap l.toArray w eg hcmp (holdsL h) hg (by rw [List.size_toArray]; omega) (fun x y h1 h2 => ltL_total h1 h2)
  change Calls Tryz.prog 29 #[.slice (some ⟨g, 0, none⟩) l.length cap, .func (.func 30) #[] #[]] w _ at hcon
  refine hcon.mono ?_
  rintro e w' ⟨rfl, n, os, rfl⟩
  refine ⟨rfl, own_sortedL (ts := sortL l) h (sortL_length l), ?_⟩
  unfold sortWorldK putRowK
  exact grownBy_sortedL _
theorem sort_none (cap : Nat) (w : World) :
    Calls Tryz.prog 29 #[.slice none 0 cap, .func (.func 30) #[] #[]] w fun e w' => e = .returned (.tuple #[]) ∧ w = w' := by
  refine (AnyF.slices_SortFunc_none Tryz.sortL none cap (.func (.func 30) #[] #[]) w).mono ?_
  rintro e w' ⟨rfl, rfl⟩
  exact ⟨rfl, rfl⟩
end Sl
end Go.Proofs.YtaegknpijgjioaaGreatDoor
