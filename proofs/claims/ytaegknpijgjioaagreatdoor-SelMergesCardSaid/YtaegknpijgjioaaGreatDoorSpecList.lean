/-
  The contract of (*taken).list: what is said of the containers of a pod, and what is taken behind. All that was there is left as it was, but what is taken. Conditions: as SpecTake.
-/
import Derived.Test.YtaegknpijgjioaaGreatDoorSpecBox
namespace Go.Proofs.YtaegknpijgjioaaGreatDoor
open Go.ChangeShapes Go.WideShapes Go.ChangeAt Go.RowKit Go.Lib
open Sd Lists
namespace SpecOwn

theorem firstV_size {n : Nat} : ∀ {l : List Say}, (∀ y ∈ l, y.2.size ≤ n) → (firstV l).2.size ≤ n
  | [], _ => by show (0 : Nat) ≤ n; omega
  | y :: l, h => by
    rw [firstV_cons]
    split
    · exact firstV_size fun z hz => h z (by simp [hz])
    · exact h y (by simp)
theorem withinV_size (n l m : Int) (s : ByteArray) (k : Nat) (h : s.size ≤ k) : (withinV n l m s).2.size ≤ k := by
  unfold withinV
  split
  · exact h
  · show (0 : Nat) ≤ k; omega
theorem limitV_size (n l : Int) (s : ByteArray) (k : Nat) (h : s.size ≤ k) : (limitV n l s).2.size ≤ k := by
  unfold limitV
  split
  · show (0 : Nat) ≤ k; omega
  · exact withinV_size _ _ _ _ _ h
theorem portsN_size : ∀ (l : List Int) (P : List Int) (k : Nat), k + l.length ≤ 1000 → (portsN P k l).2.size ≤ 40
  | [], _, _, _ => by show (0 : Nat) ≤ 40; omega
  | z :: zs, P, k, h => by
    have ha : (atB t_ports k).size ≤ 40 := Nat.le_trans (SpecRef.atB_size t_ports k (by simp at h; omega)) (by decide)
    rw [portsN]
    split
    · exact ha
    · split
      · exact ha
      · exact portsN_size zs _ (k + 1) (by simp at h; omega)
theorem oneN_size (x : Ctr) (N : List ByteArray) (P : List Int) (mp me : Int) (hp : x.ports.length ≤ 1000) : (oneN x N P mp me).2.size ≤ 40 := by
  unfold oneN
  refine firstV_size fun y hy => ?_
  simp only [List.mem_cons, List.not_mem_nil, or_false] at hy
  rcases hy with rfl | rfl | rfl | rfl | rfl | rfl
  · unfold nameN
    split
    · decide
    · split <;> decide
  · unfold imageN newV
    split <;> (split <;> decide)
  · unfold reqN
    refine firstV_size fun y hy => ?_
    simp only [List.mem_cons, List.not_mem_nil, or_false] at hy
    rcases hy with rfl | rfl | rfl <;> exact withinV_size _ _ _ _ _ (by decide)
  · unfold limN
    refine firstV_size fun y hy => ?_
    simp only [List.mem_cons, List.not_mem_nil, or_false] at hy
    rcases hy with rfl | rfl | rfl <;> exact limitV_size _ _ _ _ (by decide)
  · unfold portsL
    split
    · decide
    · exact portsN_size _ _ _ (by omega)
  · unfold probeN
    refine firstV_size fun y hy => ?_
    simp only [List.mem_cons, List.not_mem_nil, or_false] at hy
    rcases hy with rfl | rfl <;> exact withinV_size _ _ _ _ _ (by decide)
/-- what a list says, from k on -/
def LsHere (name : ByteArray) (mp me : Int) (N : List ByteArray) (P : List Int) (l : List Ctr) (k : Nat) : Prop :=
  listFrom name mp me 0 N P l = listFrom name mp me k (N ++ (l.take k).map (·.name)) (P ++ (l.take k).flatMap (·.ports)) (l.drop k)
theorem ls_zero (name : ByteArray) (mp me : Int) (N : List ByteArray) (P : List Int) (l : List Ctr) : LsHere name mp me N P l 0 := by
  unfold LsHere; simp
theorem ls_at {name : ByteArray} {mp me : Int} {N : List ByteArray} {P : List Int} {l : List Ctr} {k : Nat} (h : LsHere name mp me N P l k) (hk : k < l.length) :
    listFrom name mp me 0 N P l = if (oneN l[k] (N ++ (l.take k).map (·.name)) (P ++ (l.take k).flatMap (·.ports)) mp me).1 = 0 then
      listFrom name mp me (k + 1) (N ++ (l.take k).map (·.name) ++ [l[k].name]) (P ++ (l.take k).flatMap (·.ports) ++ l[k].ports) (l.drop (k + 1)) else inV (atB name k) (oneN l[k] (N ++ (l.take k).map (·.name)) (P ++ (l.take k).flatMap (·.ports)) mp me) := by
  unfold LsHere at h
  rw [h, List.drop_eq_getElem_cons hk, listFrom]
theorem take_next (N : List ByteArray) (P : List Int) (l : List Ctr) {k : Nat} (hk : k < l.length) : N ++ (l.take (k + 1)).map (·.name) = N ++ (l.take k).map (·.name) ++ [l[k].name] ∧ P ++ (l.take (k + 1)).flatMap (·.ports) = P ++ (l.take k).flatMap (·.ports) ++ l[k].ports := by
  rw [List.take_succ_eq_append_getElem hk, List.map_append, List.flatMap_append, ← List.append_assoc, ← List.append_assoc]
  exact ⟨rfl, by simp⟩
theorem ls_next {name : ByteArray} {mp me : Int} {N : List ByteArray} {P : List Int} {l : List Ctr} {k : Nat} (h : LsHere name mp me N P l k) (hk : k < l.length)
    (h0 : (oneN l[k] (N ++ (l.take k).map (·.name)) (P ++ (l.take k).flatMap (·.ports)) mp me).1 = 0) : LsHere name mp me N P l (k + 1) := by
  have := ls_at h hk
  rw [if_pos h0] at this
  unfold LsHere
  rw [this, (take_next N P l hk).1, (take_next N P l hk).2]
theorem ls_end {name : ByteArray} {mp me : Int} {N : List ByteArray} {P : List Int} {l : List Ctr} {k : Nat} (h : LsHere name mp me N P l k) (hk : l.length ≤ k) : listFrom name mp me 0 N P l = fine := by
  unfold LsHere at h
  rw [h, List.drop_eq_nil_of_le hk]; rfl
theorem flat_len (l : List Ctr) (h : ∀ x ∈ l, x.ports.length ≤ 10) : (l.flatMap (·.ports)).length ≤ 10 * l.length := by
  induction l with
  | nil => simp
  | cons x l ih =>
    have h1 := h x (by simp)
    have h2 := ih fun y hy => h y (by simp [hy])
    simp only [List.flatMap_cons, List.length_append, List.length_cons]
    omega
end SpecOwn
end Go.Proofs.YtaegknpijgjioaaGreatDoor
