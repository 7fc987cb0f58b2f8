/-
 Plain facts on numbers as bytes of seven bits each, the lowest first: the bytes of a number (leb), the number of bytes (lebVal), and what a text begins with (takeV). No condition. And what follows of it, part by part, each with its conditions.
-/
import Derived.Test.YtljbpelogjmciaaGreatDoorChecked
import Derived.WalkKit
import Derived.ProofKit
import Derived.Lib.Hide
import Derived.Laws.BytesArg
import Derived.OpenShut
import Derived.Lib.ItoaNum
import Derived.Lib.AtoiAll
set_option maxRecDepth 100000
namespace Go.Proofs.YtljbpelogjmciaaGreatDoor.LebMath
def leb (n : Nat) : List UInt8 := if n < 128 then [UInt8.ofNat n] else UInt8.ofNat (n % 128 + 128) :: leb (n / 128)
 termination_by n
 decreasing_by omega
theorem leb_small {n : Nat} (h : n < 128) : leb n = [UInt8.ofNat n] := by rw [leb, if_pos h]
theorem leb_big {n : Nat} (h : 128 ≤ n) : leb n = UInt8.ofNat (n % 128 + 128) :: leb (n / 128) := by rw [leb, if_neg (by omega)]
theorem leb_pos (n : Nat) : 1 ≤ (leb n).length := by
 by_cases h : n < 128
 · rw [leb_small h]; simp
 · rw [leb_big (by omega)]; simp
theorem leb_le (k : Nat) : ∀ n : Nat, n < 128 ^ (k + 1) → (leb n).length ≤ k + 1 := by
 induction k with
 | zero => intro n h; rw [leb_small (by simpa using h)]; simp
 | succ k ih =>
  intro n h
  by_cases h1 : n < 128
  · rw [leb_small h1]; simp
  · rw [leb_big (by omega)]
    have : n / 128 < 128 ^ (k + 1) := by
     rw [Nat.div_lt_iff_lt_mul (by omega)]
     rw [Nat.pow_succ] at h; exact h
    have := ih _ this
    simp; omega
theorem leb_le_ten {n : Nat} (h : n < 18446744073709551616) : (leb n).length ≤ 10 :=
 leb_le 9 n (Nat.lt_of_lt_of_le h (by decide))
def lebVal : List UInt8 → Nat
 | [] => 0
 | b :: r => b.toNat % 128 + 128 * lebVal r
def isLeb : List UInt8 → Bool
 | [] => false
 | [b] => decide (b.toNat < 128)
 | b :: c :: r => decide (128 ≤ b.toNat) && isLeb (c :: r) && !(decide (r = []) && decide (c.toNat = 0))
theorem toNat_ofNat {n : Nat} (h : n < 256) : (UInt8.ofNat n).toNat = n := by
 simp [UInt8.toNat_ofNat']; omega
theorem lebVal_leb (n : Nat) : lebVal (leb n) = n := by
 induction n using Nat.strongRecOn with
 | _ n ih =>
  by_cases h : n < 128
  · rw [leb_small h]; simp only [lebVal]; rw [toNat_ofNat (by omega)]; omega
  · rw [leb_big (by omega)]; simp only [lebVal]; rw [toNat_ofNat (by omega), ih (n / 128) (by omega)]; omega
theorem isLeb_leb (n : Nat) : isLeb (leb n) = true := by
 induction n using Nat.strongRecOn with
 | _ n ih =>
  by_cases h : n < 128
  · rw [leb_small h]; simp only [isLeb]; rw [toNat_ofNat (by omega)]; exact decide_eq_true h
  · rw [leb_big (by omega)]
    have hi := ih (n / 128) (by omega)
    have hv := lebVal_leb (n / 128)
    cases hl : leb (n / 128) with
    | nil => have := leb_pos (n / 128); rw [hl] at this; simp at this
    | cons c r =>
     rw [hl] at hi hv
     simp only [isLeb]; rw [toNat_ofNat (by omega), hi]; simp only [Bool.and_true, Bool.and_eq_true, decide_eq_true_eq, Bool.not_eq_true', Bool.and_eq_false_iff, decide_eq_false_iff_not]
     refine ⟨by omega, ?_⟩
     by_cases hr : r = []
     · right
       subst hr
       simp only [lebVal] at hv
       intro hc
       rw [hc] at hv
       omega
     · left; exact hr
theorem leb_lebVal : ∀ l : List UInt8, isLeb l = true → leb (lebVal l) = l := by
 intro l
 induction l with
 | nil => intro h; simp [isLeb] at h
 | cons b r ih =>
  intro h
  cases r with
  | nil =>
   simp only [isLeb, decide_eq_true_eq] at h
   simp only [lebVal]; rw [leb_small (by omega)]
   have : b.toNat % 128 + 128 * 0 = b.toNat := by omega
   rw [this]
   simp
  | cons c r =>
   simp only [isLeb, Bool.and_eq_true, decide_eq_true_eq, Bool.not_eq_true', Bool.and_eq_false_iff, decide_eq_false_iff_not] at h
   obtain ⟨⟨h1, h2⟩, h3⟩ := h
   have hi := ih h2
   have hpos : 1 ≤ lebVal (c :: r) := by
    rcases Nat.eq_zero_or_pos (lebVal (c :: r)) with h0 | h0
    · rw [h0] at hi
      rw [leb_small (by omega)] at hi
      injection hi with hc hr
      rcases h3 with h3 | h3
      · exact absurd hr.symm h3
      · exfalso; apply h3; rw [← hc]; rfl
    · exact h0
   have hb := b.toNat_lt
   have e : lebVal (b :: c :: r) = b.toNat % 128 + 128 * lebVal (c :: r) := rfl
   rw [e, leb_big (by omega)]
   have e1 : (b.toNat % 128 + 128 * lebVal (c :: r)) % 128 + 128 = b.toNat := by omega
   have e2 : (b.toNat % 128 + 128 * lebVal (c :: r)) / 128 = lebVal (c :: r) := by omega
   rw [e1, e2, hi]
   simp
theorem lebVal_append : ∀ (a b : List UInt8), lebVal (a ++ b) = lebVal a + 128 ^ a.length * lebVal b := by
 intro a b
 induction a with
 | nil => simp [lebVal]
 | cons x a ih => simp only [List.cons_append, lebVal, ih, List.length_cons, Nat.pow_succ]; rw [Nat.mul_add, ← Nat.mul_assoc, Nat.mul_comm 128 (128 ^ a.length)]; omega
theorem lebVal_lt (l : List UInt8) : lebVal l < 128 ^ l.length := by
 induction l with
 | nil => simp [lebVal]
 | cons x l ih =>
  simp only [lebVal, List.length_cons, Nat.pow_succ]
  have := Nat.mul_le_mul_left 128 (Nat.succ_le_of_lt ih)
  have h128 := Nat.mod_lt x.toNat (show 0 < 128 by omega)
  rw [Nat.mul_comm (128 ^ l.length)]
  omega
def lead : List UInt8 → Nat
 | [] => 0
 | b :: r => if 128 ≤ b.toNat then lead r + 1 else 0
def takeV (l : List UInt8) : Nat × Nat :=
 if isLeb (l.take (lead l + 1)) = true ∧ lebVal (l.take (lead l + 1)) < 18446744073709551616 then (lebVal (l.take (lead l + 1)), lead l + 1) else (0, 0)
theorem lead_le (l : List UInt8) : lead l ≤ l.length := by
 induction l with
 | nil => simp [lead]
 | cons b r ih => simp only [lead]; split <;> simp <;> omega
theorem lead_of {l : List UInt8} : ∀ {k : Nat}, (∀ j, j < k → 128 ≤ (l.getD j 0).toNat) → (k < l.length → (l.getD k 0).toNat < 128) → k ≤ l.length → lead l = k := by
 induction l with
 | nil => intro k _ _ h; simp [lead] at *; omega
 | cons b r ih =>
  intro k h1 h2 h3
  cases k with
  | zero => have := h2 (by simp); simp at this; simp only [lead]; rw [if_neg (by omega)]
  | succ k =>
   have := h1 0 (by omega)
   simp at this
   simp only [lead]; rw [if_pos this, ih (k := k) (fun j hj => by have := h1 (j + 1) (by omega); simpa using this) (fun hk => by have := h2 (by simp; omega); simpa using this) (by simp at h3; omega)]
theorem isLeb_lead : ∀ {l : List UInt8}, isLeb l = true → lead l + 1 = l.length := by
 intro l
 induction l with
 | nil => intro h; simp [isLeb] at h
 | cons b r ih =>
  intro h
  cases r with
  | nil => simp only [isLeb, decide_eq_true_eq] at h; simp only [lead]; rw [if_neg (by omega)]; simp
  | cons c r =>
   simp only [isLeb, Bool.and_eq_true, decide_eq_true_eq] at h
   have := ih h.1.2
   simp only [lead] at this ⊢
   rw [if_pos h.1.1]
   simp only [List.length_cons] at this ⊢
   omega
theorem lead_append {l : List UInt8} (h : isLeb l = true) (r : List UInt8) : lead (l ++ r) + 1 = l.length := by
 induction l with
 | nil => simp [isLeb] at h
 | cons b t ih =>
  cases t with
  | nil => simp only [isLeb, decide_eq_true_eq] at h; simp only [List.cons_append, lead]; rw [if_neg (by omega)]; simp
  | cons c t =>
   simp only [isLeb, Bool.and_eq_true, decide_eq_true_eq] at h
   have := ih h.1.2
   simp only [List.cons_append, lead] at this ⊢
   rw [if_pos h.1.1]
   simp only [List.length_cons] at this ⊢
   omega
theorem takeV_leb {n : Nat} (h : n < 18446744073709551616) (r : List UInt8) : takeV (leb n ++ r) = (n, (leb n).length) := by
 have hl := lead_append (isLeb_leb n) r
 unfold takeV
 rw [hl, List.take_left' rfl, lebVal_leb, if_pos ⟨isLeb_leb n, h⟩]
theorem takeV_some {l : List UInt8} (h : (takeV l).2 ≠ 0) :
 (takeV l).2 ≤ l.length ∧ (takeV l).2 ≤ 10 ∧ (takeV l).1 < 18446744073709551616 ∧ leb (takeV l).1 = l.take (takeV l).2 := by
 unfold takeV at h ⊢
 split at h
 · rename_i hc
   rw [if_pos hc]
   have h1 := leb_lebVal _ hc.1
   have h2 := leb_le_ten hc.2
   have h3 := isLeb_lead hc.1
   rw [h1] at h2
   have h4 : (l.take (lead l + 1)).length ≤ l.length := List.length_take_le' _ _
   have h5 := lead_le l
   refine ⟨?_, ?_, hc.2, h1⟩
   · by_cases hl : lead l + 1 ≤ l.length
     · exact hl
     · exfalso
       have : l.take (lead l + 1) = l := List.take_of_length_le (by omega)
       rw [this] at h3
       omega
   · by_cases hl : lead l + 1 ≤ l.length
     · rw [List.length_take_of_le hl] at h2; exact h2
     · exfalso
       have : l.take (lead l + 1) = l := List.take_of_length_le (by omega)
       rw [this] at h3
       omega
 · simp at h
theorem takeV_none {l : List UInt8} (h : (takeV l).2 = 0) : (takeV l).1 = 0 := by
 unfold takeV at h ⊢
 split at h
 · simp at h
 · rename_i hc; rw [if_neg hc]
theorem takeV_lt (l : List UInt8) : (takeV l).1 < 18446744073709551616 := by
 by_cases h : (takeV l).2 = 0
 · rw [takeV_none h]; omega
 · exact (takeV_some h).2.2.1
theorem takeV_le (l : List UInt8) : (takeV l).2 ≤ 10 := by
 by_cases h : (takeV l).2 = 0
 · omega
 · exact (takeV_some h).2.1
theorem isLeb_snoc : ∀ (pre : List UInt8) (b : UInt8), (∀ x ∈ pre, 128 ≤ x.toNat) → b.toNat < 128 → isLeb (pre ++ [b]) = decide (pre = [] ∨ b.toNat ≠ 0) := by
 intro pre b h hb
 induction pre with
 | nil => simp [isLeb, hb]
 | cons x pre ih =>
  have hx := h x (by simp)
  have ih' := ih (fun y hy => h y (by simp [hy]))
  cases pre with
  | nil =>
   simp only [List.cons_append, List.nil_append, isLeb]
   simp [hx, hb]
  | cons y pre =>
   simp only [List.cons_append] at ih' ⊢
   rw [isLeb, ih']
   simp [hx]
theorem mem_take_lead {l : List UInt8} {k : Nat} (h : ∀ j, j < k → 128 ≤ (l.getD j 0).toNat) (hk : k ≤ l.length) : ∀ x ∈ l.take k, 128 ≤ x.toNat := by
 intro x hx
 obtain ⟨j, hj, rfl⟩ := List.mem_iff_getElem.1 hx
 have hj' : j < k := by rw [List.length_take] at hj; omega
 have := h j hj'
 rw [List.getElem_take]
 rw [List.getD_eq_getElem?_getD, List.getElem?_eq_getElem (by omega)] at this
 exact this
theorem take_succ_getD {l : List UInt8} {k : Nat} (h : k < l.length) : l.take (k + 1) = l.take k ++ [l.getD k 0] := by
 rw [List.take_succ_eq_append_getElem h, List.getD_eq_getElem?_getD, List.getElem?_eq_getElem h]; rfl
theorem takeV_all {l : List UInt8} (h : ∀ j, j < l.length → 128 ≤ (l.getD j 0).toNat) : takeV l = (0, 0) := by
 have hl : lead l = l.length := lead_of h (fun h => by omega) (Nat.le_refl _)
 unfold takeV
 rw [if_neg]
 intro hc
 have := isLeb_lead hc.1
 rw [List.take_of_length_le (by omega)] at this
 omega
theorem takeV_at {l : List UInt8} {k : Nat} (hk : k < l.length) (h : ∀ j, j < k → 128 ≤ (l.getD j 0).toNat) (hb : (l.getD k 0).toNat < 128) :
 takeV l = if (k = 0 ∨ (l.getD k 0).toNat ≠ 0) ∧ lebVal (l.take (k + 1)) < 18446744073709551616 then (lebVal (l.take (k + 1)), k + 1) else (0, 0) := by
 have hl : lead l = k := lead_of h (fun _ => hb) (by omega)
 unfold takeV
 rw [hl]
 have e : (isLeb (l.take (k + 1)) = true) = (k = 0 ∨ (l.getD k 0).toNat ≠ 0) := by
  rw [take_succ_getD hk, isLeb_snoc _ _ (mem_take_lead h (by omega)) hb, decide_eq_true_eq]
  have : (l.take k = []) = (k = 0) := by
   rw [List.take_eq_nil_iff]
   apply propext
   constructor
   · intro h; rcases h with h | h
     · exact h
     · rw [h] at hk; simp at hk
   · intro h; exact .inl h
  rw [this]
 simp only [e]
theorem lebVal_take_succ {l : List UInt8} {k : Nat} (hk : k < l.length) : lebVal (l.take (k + 1)) = lebVal (l.take k) + 128 ^ k * ((l.getD k 0).toNat % 128) := by
 rw [take_succ_getD hk, lebVal_append, List.length_take_of_le (by omega)]
 simp [lebVal]
theorem lebVal_take_lt {l : List UInt8} {k : Nat} (hk : k ≤ l.length) : lebVal (l.take k) < 128 ^ k := by
 have := lebVal_lt (l.take k)
 rw [List.length_take_of_le hk] at this; exact this
theorem takeV_ten {l : List UInt8} (h : ∀ j, j < 10 → 128 ≤ (l.getD j 0).toNat) : takeV l = (0, 0) := by
 unfold takeV
 rw [if_neg]
 intro hc
 have h1 := isLeb_lead hc.1
 have h2 := leb_le_ten hc.2
 rw [leb_lebVal _ hc.1] at h2
 have h3 := lead_le l
 by_cases hle : lead l + 1 ≤ l.length
 · rw [List.length_take_of_le hle] at h2
   have h4 : lead l < 10 := by omega
   have h5 := h (lead l) h4
   have key : ∀ (l : List UInt8), lead l < l.length → (l.getD (lead l) 0).toNat < 128 := by
    intro l
    induction l with
    | nil => intro h; simp at h
    | cons b r ih =>
     intro h
     simp only [lead] at h ⊢
     split
     · rename_i hb
       rw [if_pos hb] at h
       have := ih (by simp at h; omega)
       simpa using this
     · simp; omega
   have := key l (by omega)
   omega
 · rw [List.take_of_length_le (by omega)] at h1
   omega
theorem takeV_tenth {l : List UInt8} (hl : 9 < l.length) (h : ∀ j, j < 9 → 128 ≤ (l.getD j 0).toNat) (hb : 1 < (l.getD 9 0).toNat) : takeV l = (0, 0) := by
 by_cases hb' : (l.getD 9 0).toNat < 128
 · rw [takeV_at hl h hb', if_neg]
   intro hc
   have h1 := lebVal_take_succ hl
   have h2 := hc.2
   rw [h1] at h2
   have : 128 ^ 9 * 2 ≤ 128 ^ 9 * ((l.getD 9 0).toNat % 128) := Nat.mul_le_mul_left _ (by omega)
   have e : (128 : Nat) ^ 9 * 2 = 18446744073709551616 := by decide
   omega
 · refine takeV_ten (fun j hj => ?_)
   by_cases hj9 : j = 9
   · subst hj9; omega
   · exact h j (by omega)
theorem lebVal_fits {l : List UInt8} {k : Nat} (hk : k < l.length) (h10 : k < 10) (hb : k = 9 → (l.getD k 0).toNat ≤ 1) : lebVal (l.take (k + 1)) < 18446744073709551616 := by
 by_cases h9 : k = 9
 · subst h9
   have h1 := lebVal_take_succ hk
   have h2 := lebVal_take_lt (l := l) (k := 9) (by omega)
   have h3 := hb rfl
   have : 128 ^ 9 * ((l.getD 9 0).toNat % 128) ≤ 128 ^ 9 * 1 := Nat.mul_le_mul_left _ (by omega)
   have e : (128 : Nat) ^ 9 * 1 = 9223372036854775808 := by decide
   have e' : (128 : Nat) ^ 9 = 9223372036854775808 := by decide
   omega
 · have h2 := lebVal_take_lt (l := l) (k := k + 1) (by omega)
   have h3 : 128 ^ (k + 1) ≤ (128 : Nat) ^ 9 := Nat.pow_le_pow_right (by omega) (by omega)
   have e' : (128 : Nat) ^ 9 = 9223372036854775808 := by decide
   omega
end Go.Proofs.YtljbpelogjmciaaGreatDoor.LebMath
namespace Go.Proofs.YtljbpelogjmciaaGreatDoor
open Go.ChangeShapes Go.WideShapes Go.ChangeAt Go.RowKit
open LebMath
namespace NumPut
def arrOf (bs : List UInt8) : Array Value := (bs.map (fun b => Value.int .u8 (b.toNat : Int)) ++ List.replicate (10 - bs.length) (Value.int .u8 0)).toArray
theorem arrOf_next {bs : List UInt8} (h : bs.length < 10) : (arrOf bs)[bs.length]? = some (.int .u8 0) := by
 unfold arrOf
 simp only [List.getElem?_toArray]
 rw [List.getElem?_append_right (by simp)]
 obtain ⟨k, hk⟩ : ∃ k, 10 - bs.length = k + 1 := ⟨9 - bs.length, by omega⟩
 rw [hk, List.replicate_succ]
 simp
theorem arrOf_set {bs : List UInt8} (h : bs.length < 10) (c : UInt8) (v : Int) (hv : v = c.toNat) : (arrOf bs).setIfInBounds bs.length (.int .u8 v) = arrOf (bs ++ [c]) := by
 subst hv
 unfold arrOf
 simp only [List.setIfInBounds_toArray]
 congr 1
 rw [List.set_append_right _ _ (by simp)]
 obtain ⟨k, hk⟩ : ∃ k, 10 - bs.length = k + 1 := ⟨9 - bs.length, by omega⟩
 rw [hk, List.replicate_succ]
 simp
 omega
theorem arrOf_at {bs : List UInt8} {i : Nat} (h : i < bs.length) : (arrOf bs)[i]? = some (.int .u8 ((bs.map (fun b => (b.toNat : Int))).getD i 0)) := by
 unfold arrOf
 simp only [List.getElem?_toArray]
 rw [List.getElem?_append_left (by simpa using h)]
 simp [List.getElem?_eq_getElem h]
theorem run_text (bs : List UInt8) (w : World) (n : Nat) (hn : n = bs.length) (c : Nat) :
 (convert 159 9 (.slice (some ⟨w.heap.size, 0, none⟩) n c)).run Tryz.prog (w.alloc (.cells (arrOf bs) 240)) = .ok (.string ⟨bs.toArray⟩) (w.alloc (.cells (arrOf bs) 240)) := by
 subst hn
 have := run_convert_bytes_arg (P := Tryz.prog) (w.alloc (.cells (arrOf bs) 240)) 159 5 Tryz.underlying159 Tryz.underlying5 w.heap.size 0 bs.length c (bs.map (fun b => (b.toNat : Int))) (by simp)
  (fun i hi => by rw [World.cell?_alloc_at _ _ _ _ rfl, Nat.zero_add, arrOf_at hi]) 9 Tryz.underlying9
 rw [this]
 congr 3
 unfold strOfNums
 have e : ((fun n : Int => UInt8.ofNat n.toNat) ∘ fun b : UInt8 => (b.toNat : Int)) = id := by funext b; simp
 rw [List.map_map, e, List.map_id]
theorem ret_str {l l' : List UInt8} (h : l' = l) : Ending.returned (.string ⟨l.toArray⟩) = .returned (.string ⟨l'.toArray⟩) := by rw [h]
theorem run_cut (W : World) (a : Addr) (n : Nat) (h : n < 10) :
 (Instr.sliceAt 240 (.pointer (some a)) none (some (.int .i64 ((n : Int) + 1))) none).run Tryz.prog W = .ok (.slice (some a) (n + 1) 10) W := by
 have hal : Tryz.prog.arrayLen 240 = 10 := by kernel_rfl
 rw [run_sliceAt_array_h W 240 a (by kernel_rfl) .i64 _ (by omega) (by rw [hal]; omega), hal]
 have hs : (sizeOf (Tryz.prog.elem 240)).run Tryz.prog W = .ok 1 W := by kernel_rfl
 rw [hs]
 simp only [Result.andThen, slicedAt]
 rw [show ((n : Int) + 1).toNat = n + 1 by omega]
 simp [Addr.add]
set_option maxRecDepth 20000 in
set_option maxHeartbeats 1000000 in
theorem put_any (n : Nat) (w : World) (hn : n < 18446744073709551616) :
 Calls Tryz.prog 158 #[.int .u64 n] w fun e w' => e = .returned (.string ⟨(leb n).toArray⟩) ∧ Below w.heap.size w w' := by
 have h10 := leb_le_ten hn
 go_enter Tryz.func158, Tryz.ntmps158
 go_wp2
 go_loopw [0, 4] (fun x i wr => ∃ (bs : List UInt8) (m : Nat), i = .int .i64 (bs.length : Nat) ∧ x = .int .u64 (m : Nat) ∧ Hid (leb n = bs ++ leb m) ∧ Hid (m < 18446744073709551616) ∧ Hid (wr = w.alloc (.cells (arrOf bs) 240))) (fun x _ _ => (intOf x).toNat)
 case atStart => exact ⟨[], n, rfl, rfl, rfl, hn, rfl⟩
 case round =>
  obtain ⟨bs, m, rfl, rfl, HL, HM, HW⟩ := hrel
  have hw := HW.out
  subst hw; clear HW
  have hlen : (leb n).length = bs.length + (leb m).length := by rw [HL.out]; simp
  have hm := HM.out
  by_cases hbig : 128 ≤ m
  · have hm1 : (leb m).length = (leb (m / 128)).length + 1 := by rw [leb_big hbig]; rfl
    have hm2 := leb_pos (m / 128)
    have hb : bs.length ≤ 8 := by omega
    have HN := Lib.hid (arrOf_next (bs := bs) (by omega))
    have hnext := HN.out
    clear hlen hm1 hm2 h10
    have hbi : (bs.length : Int) < 10 := by omega
    obtain ⟨c, hc⟩ : ∃ c : UInt8, c = UInt8.ofNat (m % 128 + 128) := ⟨_, rfl⟩
    have hset := arrOf_set (bs := bs) (by omega) c ((m : Int) % 128 + 128) (by rw [hc, toNat_ofNat (by omega)]; push_cast; rfl)
    have HF : Hid (leb n = (bs ++ [c]) ++ leb (m / 128)) := by show _ = _; rw [HL.out, leb_big hbig, hc]; simp
    clear hc; go_wp2
    go_roundw
    case rel => exact ⟨_, m / 128, by simp, rfl, HF, (show m / 128 < _ by omega), rfl⟩
    case measure => simp [intOf]; omega
  · have hm1 : (leb m).length = 1 := by rw [leb_small (by omega)]; rfl
    have hb : bs.length ≤ 9 := by omega
    have HN := Lib.hid (arrOf_next (bs := bs) (by omega))
    have hnext := HN.out
    clear hlen hm1 h10
    have hbi : (bs.length : Int) < 10 := by omega
    have hset := arrOf_set (bs := bs) (by omega) (UInt8.ofNat m) (m : Int) (by rw [toNat_ofNat (by omega)])
    have hcut := fun W => run_cut W ⟨w.heap.size, 0, none⟩ bs.length (by omega)
    have htext := run_text (bs ++ [UInt8.ofNat m]) w (bs.length + 1) (by simp) 10
    have HF : Hid (leb n = bs ++ [UInt8.ofNat m]) := by show _ = _; rw [HL.out, leb_small (by omega)]
    go_wp2
    go_ret
    exact ⟨ret_str HF.out, (Below.refl _ _).alloc (Nat.le_refl _) _⟩
end NumPut
end Go.Proofs.YtljbpelogjmciaaGreatDoor
namespace Go.Proofs.YtljbpelogjmciaaGreatDoor
open Go.ChangeShapes Go.WideShapes Go.ChangeAt Go.RowKit
open LebMath
namespace NumTake
theorem getD_byte (s : ByteArray) (k : Nat) (h : k < s.size) : s.data.toList.getD k 0 = s[k] := by
 rw [List.getD_eq_getElem?_getD, List.getElem?_eq_getElem (by simpa using h)]; rfl
theorem ret_take {l : List UInt8} {n m : Int} (h1 : n = (takeV l).1) (h2 : m = (takeV l).2) :
 Ending.returned (.tuple #[.int .u64 n, .int .i64 m]) = .returned (.tuple #[.int .u64 (takeV l).1, .int .i64 (takeV l).2]) := by rw [h1, h2]
theorem ret_nought {l : List UInt8} (h : takeV l = (0, 0)) :
 Ending.returned (.tuple #[.int .u64 0, .int .i64 0]) = .returned (.tuple #[.int .u64 (takeV l).1, .int .i64 (takeV l).2]) := by rw [h]; rfl
theorem step_val (s : ByteArray) (k : Nat) (hk : k < s.size) (h10 : k < 10) (hb : k = 9 → s[k].toNat ≤ 1) :
 IntKind.u64.wrap (↑(lebVal (List.take k s.data.toList)) + IntKind.u64.wrap ((s[k].toNat : Int) % 128 * 2 ^ (7 * k))) = ↑(lebVal (List.take (k + 1) s.data.toList)) := by
 have hl : k < s.data.toList.length := by rw [Array.length_toList]; exact hk
 have hd := getD_byte s k hk
 have h1 := lebVal_take_succ hl
 have h2 := lebVal_fits hl h10 (fun h => by rw [hd]; exact hb h)
 rw [hd] at h1
 have e : ((s[k].toNat : Int) % 128 * 2 ^ (7 * k)) = ((128 ^ k * (s[k].toNat % 128) : Nat) : Int) := by
  have : (128 : Nat) ^ k = 2 ^ (7 * k) := by rw [Nat.pow_mul]
  rw [this, Nat.mul_comm (2 ^ (7 * k))]
  push_cast
  rfl
 rw [e]
 generalize 128 ^ k * (s[k].toNat % 128) = x at *
 rw [IntWalk.u64_in (x : Int) (by omega), IntWalk.u64_in _ (by omega), h1]
 push_cast
 rfl
theorem step_val_nought (s : ByteArray) (k : Nat) (hk : k < s.size) (h10 : k < 10) (hz : s[k].toNat = 0) :
 IntKind.u64.wrap (↑(lebVal (List.take k s.data.toList)) + IntKind.u64.wrap 0) = ↑(lebVal (List.take (k + 1) s.data.toList)) := by
 have h := step_val s k hk h10 (fun _ => by omega)
 rw [hz] at h
 simpa using h
set_option maxRecDepth 20000 in
set_option maxHeartbeats 2000000 in
theorem take_lim (s : ByteArray) (w : World) (hs : s.size ≤ maxLen) : Calls Tryz.prog 145 #[.string s] w fun e w' => e = .returned (.tuple #[.int .u64 (takeV s.data.toList).1, .int .i64 (takeV s.data.toList).2]) ∧ w = w' := by
 unfold maxLen at hs
 have hlen : s.data.toList.length = s.size := by rw [Array.length_toList]; rfl
 have HL := Lib.hid hlen
 clear hlen
 have hlim : ∃ lim : Nat, lim ≤ s.size ∧ lim ≤ 10 ∧ ((s.size ≤ 10 ∧ lim = s.size) ∨ (10 < s.size ∧ lim = 10)) := by
  by_cases h : s.size ≤ 10
  · exact ⟨s.size, by omega, by omega, .inl ⟨h, rfl⟩⟩
  · exact ⟨10, by omega, by omega, .inr ⟨by omega, rfl⟩⟩
 obtain ⟨lim, hl1, hl2, hlor⟩ := hlim
 have HO := Lib.hid hlor
 rcases hlor with ⟨hten, hq⟩ | ⟨hten, hq⟩
 all_goals
  have HQ := Lib.hid hq
  clear hq
  go_enter Tryz.func145, Tryz.ntmps145
  go_wp2
  go_loop [2, 9] (fun n i => ∃ k : Nat, k ≤ lim ∧ i = .int .i64 k ∧ Hid (∀ j, j < k → 128 ≤ (s.data.toList.getD j 0).toNat) ∧ n = .int .u64 (lebVal (s.data.toList.take k) : Nat)) (fun _ i => lim - (intOf i).toNat)
  case atStart => exact ⟨0, Nat.zero_le _, rfl, (fun j h => by omega), rfl⟩
  case round =>
   obtain ⟨k, hk, rfl, HA, rfl⟩ := hrel
   by_cases hlt : k < lim
   · have hlt1 : k < s.size := by omega
     have hlt2 : k < 10 := by omega
     have HD := Lib.hid (getD_byte s k hlt1)
     have hb : (s[k].toNat : Int) < 256 := by have := s[k].toNat_lt; omega
     have HL' : Hid (k < s.data.toList.length) := by show _ < _; rw [HL.out]; omega
     by_cases hbad : k = 9 ∧ 1 < (s[k].toNat : Int)
     · obtain ⟨h9, hb1⟩ := hbad
       have e9 : ((k : Int) == 9) = true := beq_iff_eq.2 (by omega)
       have HT : Hid (takeV s.data.toList = (0, 0)) := by
        subst h9
        exact takeV_tenth HL'.out HA.out (by rw [HD.out]; omega)
       clear h9; go_wp2
       go_ret2
       exact ⟨ret_nought HT.out, rfl⟩
     · have hk9 : k = 9 → s[k].toNat ≤ 1 := fun h => by omega
       have HV := Lib.hid (step_val s k hlt1 hlt2 hk9)
       by_cases hbig : 128 ≤ (s[k].toNat : Int)
       · have e9 : ((k : Int) == 9) = false := beq_eq_false_iff_ne.2 (by omega)
         clear hbad hk9; go_wp2
         go_round
         case rel =>
          refine ⟨k + 1, by omega, by go_num, ?_, congrArg (Value.int .u64) HV.out⟩
          intro j hj
          by_cases hjk : j = k
          · subst hjk; rw [HD.out]; omega
          · exact HA.out j (by omega)
         case measure => simp [intOf]; omega
       · have HT := Lib.hid (takeV_at HL'.out HA.out (by rw [HD.out]; omega))
         have HF := Lib.hid (lebVal_fits HL'.out hlt2 (fun h => by rw [HD.out]; exact hk9 h))
         by_cases hz : s[k].toNat = 0 ∧ 0 < k
         · have e9 : ((k : Int) == 9) = true ∨ ((k : Int) == 9) = false := by cases ((k : Int) == 9) <;> simp
           have e0 : ((s[k].toNat : Int) == 0) = true := beq_iff_eq.2 (by omega)
           have hb1 : (s[k].toNat : Int) ≤ 1 := by omega
           have hk0 := hz.2
           have HZ := Lib.hid hz
           clear hbad hk9 hz
           rcases e9 with e9 | e9
           all_goals
            go_wp2
            all_goals first
             | (exfalso; have hzz := HZ.out; omega)
             | (go_ret2
                refine ⟨ret_nought ?_, rfl⟩
                rw [HT.out, if_neg]; rintro ⟨h1, h2⟩
                rw [HD.out] at h1
                have := HZ.out
                omega)
         · have HZ : Hid (takeV s.data.toList = (lebVal (List.take (k + 1) s.data.toList), k + 1)) := by
            show _ = _
            rw [HT.out, if_pos]
            refine ⟨?_, HF.out⟩
            rw [HD.out]
            omega
           have e9 : (((k : Int) == 9) = true ∧ (s[k].toNat : Int) ≤ 1) ∨ ((k : Int) == 9) = false := by
            by_cases h : k = 9
            · exact .inl ⟨beq_iff_eq.2 (by omega), by omega⟩
            · exact .inr (beq_eq_false_iff_ne.2 (by omega))
           have e0 : ((s[k].toNat : Int) == 0) = false ∨ (((s[k].toNat : Int) == 0) = true ∧ k = 0) := by
            by_cases h : s[k].toNat = 0
            · exact .inr ⟨beq_iff_eq.2 (by omega), by omega⟩
            · exact .inl (beq_eq_false_iff_ne.2 (by omega))
           have HN := Lib.hid hz
           clear hbad hk9 hz
           rcases e9 with ⟨e9, hb1⟩ | e9 <;> rcases e0 with e0 | ⟨e0, hk0⟩
           all_goals
            try (have hk0' : ¬ (0 : Int) < (k : Int) := by omega)
            try clear hk0
            go_wp2
            all_goals first
             | (exfalso; have hzz := HN.out; have hzy := beq_eq_false_iff_ne.1 e0; omega)
             | (exfalso; have hzz := HN.out; omega)
             | (go_ret2
                refine ⟨ret_take ?_ ?_, rfl⟩
                · rw [HZ.out]; first | exact HV.out | exact step_val_nought s k hlt1 hlt2 (by assumption)
                · rw [HZ.out]; push_cast; rfl)
   · have hkl : k = lim := by omega
     have HT : Hid (takeV s.data.toList = (0, 0)) := by
      subst hkl
      rcases HO.out with ⟨_, h⟩ | ⟨_, h⟩
      · exact takeV_all (fun j hj => HA.out j (by rw [HL.out] at hj; omega))
      · exact takeV_ten (fun j hj => HA.out j (by omega))
     first
      | have hn : s.size ≤ k := by have := HQ.out; omega
      | have hn : 10 ≤ k := by have := HQ.out; omega
     clear hkl; go_wp2
     go_ret2
     exact ⟨ret_nought HT.out, rfl⟩
end NumTake
end Go.Proofs.YtljbpelogjmciaaGreatDoor
namespace Go.Proofs.YtljbpelogjmciaaGreatDoor.WirePure
open LebMath
def fst (c d : Int) : Int := if c = 0 then d else c
theorem fst_no (d : Int) : fst 0 d = d := by simp [fst]
theorem fst_yes {c : Int} (h : c ≠ 0) (d : Int) : fst c d = c := by simp [fst, h]
theorem fst_ne {c d : Int} (h : d ≠ 0) : fst c d ≠ 0 := by unfold fst; split <;> assumption
def why (l : List UInt8) : Int := if 10 ≤ l.length then 3 else if l.any (fun b => decide (b.toNat < 128)) = true then 3 else 40
theorem why_ne (l : List UInt8) : why l ≠ 0 := by unfold why; split; · decide
                                                  split <;> decide
def numE (m : Nat) (c : Int) (l : List UInt8) : Int := if (takeV l).2 = 0 then fst c (why l) else if m < (takeV l).1 then fst c 2 else c
def numV (m : Nat) (c : Int) (l : List UInt8) : Nat := if numE m c l = 0 then (takeV l).1 else 0
def numL (m : Nat) (c : Int) (l : List UInt8) : List UInt8 := if numE m c l = 0 then l.drop (takeV l).2 else l
def takeE (n : Nat) (c : Int) (l : List UInt8) : Int := if l.length < n then fst c 40 else c
def takeS (n : Nat) (c : Int) (l : List UInt8) : List UInt8 := if takeE n c l = 0 then l.take n else []
def takeL (n : Nat) (c : Int) (l : List UInt8) : List UInt8 := if takeE n c l = 0 then l.drop n else l
def textE (m : Nat) (c : Int) (l : List UInt8) : Int := takeE (numV m c l) (numE m c l) (numL m c l)
def textS (m : Nat) (c : Int) (l : List UInt8) : List UInt8 := takeS (numV m c l) (numE m c l) (numL m c l)
def textL (m : Nat) (c : Int) (l : List UInt8) : List UInt8 := takeL (numV m c l) (numE m c l) (numL m c l)
def endE (c : Int) (l : List UInt8) : Int := if l = [] then c else fst c 3
theorem numL_len (m : Nat) (c : Int) (l : List UInt8) : (numL m c l).length ≤ l.length := by unfold numL; split <;> simp
theorem takeL_len (n : Nat) (c : Int) (l : List UInt8) : (takeL n c l).length ≤ l.length := by unfold takeL; split <;> simp
theorem takeS_len (n : Nat) (c : Int) (l : List UInt8) : (takeS n c l).length ≤ l.length := by unfold takeS; split <;> simp <;> omega
theorem textL_len (m : Nat) (c : Int) (l : List UInt8) : (textL m c l).length ≤ l.length := Nat.le_trans (takeL_len _ _ _) (numL_len _ _ _)
theorem numV_le (m : Nat) (c : Int) (l : List UInt8) : numV m c l ≤ m := by
 unfold numV
 split
 · rename_i h
   unfold numE at h
   split at h
   · rename_i h2
     rw [takeV_none h2]; omega
   · split at h
     · exact absurd h (fst_ne (by decide))
     · omega
 · omega
theorem numE_err {c : Int} (h : c ≠ 0) (m : Nat) (l : List UInt8) : numE m c l = c := by
 unfold numE; split
 · exact fst_yes h _
 · split
   · exact fst_yes h _
   · rfl
theorem numV_err {c : Int} (h : c ≠ 0) (m : Nat) (l : List UInt8) : numV m c l = 0 := by unfold numV; rw [numE_err h, if_neg h]
theorem numL_err {c : Int} (h : c ≠ 0) (m : Nat) (l : List UInt8) : numL m c l = l := by unfold numL; rw [numE_err h, if_neg h]
theorem takeE_err {c : Int} (h : c ≠ 0) (n : Nat) (l : List UInt8) : takeE n c l = c := by
 unfold takeE; split
 · exact fst_yes h _
 · rfl
theorem takeS_err {c : Int} (h : c ≠ 0) (n : Nat) (l : List UInt8) : takeS n c l = [] := by unfold takeS; rw [takeE_err h, if_neg h]
theorem takeL_err {c : Int} (h : c ≠ 0) (n : Nat) (l : List UInt8) : takeL n c l = l := by unfold takeL; rw [takeE_err h, if_neg h]
theorem textE_err {c : Int} (h : c ≠ 0) (m : Nat) (l : List UInt8) : textE m c l = c := by unfold textE; rw [numE_err h, numV_err h, numL_err h, takeE_err h]
theorem textL_err {c : Int} (h : c ≠ 0) (m : Nat) (l : List UInt8) : textL m c l = l := by unfold textL; rw [numE_err h, numV_err h, numL_err h, takeL_err h]
theorem numE_put {n m : Nat} (h : n < 18446744073709551616) (hm : n ≤ m) (r : List UInt8) : numE m 0 (leb n ++ r) = 0 := by
 unfold numE
 have hp := leb_pos n
 rw [takeV_leb h, if_neg (by omega), if_neg (by omega)]
theorem numV_put {n m : Nat} (h : n < 18446744073709551616) (hm : n ≤ m) (r : List UInt8) : numV m 0 (leb n ++ r) = n := by
 unfold numV; rw [numE_put h hm, if_pos rfl, takeV_leb h]
theorem numL_put {n m : Nat} (h : n < 18446744073709551616) (hm : n ≤ m) (r : List UInt8) : numL m 0 (leb n ++ r) = r := by
 unfold numL; rw [numE_put h hm, if_pos rfl, takeV_leb h]; simp
theorem takeE_put (a r : List UInt8) : takeE a.length 0 (a ++ r) = 0 := by unfold takeE; rw [if_neg (by simp)]
theorem takeS_put (a r : List UInt8) : takeS a.length 0 (a ++ r) = a := by unfold takeS; rw [takeE_put, if_pos rfl]; simp
theorem takeL_put (a r : List UInt8) : takeL a.length 0 (a ++ r) = r := by unfold takeL; rw [takeE_put, if_pos rfl]; simp
theorem text_put {a : List UInt8} {m : Nat} (h : a.length < 18446744073709551616) (hm : a.length ≤ m) (r : List UInt8) :
 textE m 0 (leb a.length ++ (a ++ r)) = 0 ∧ textS m 0 (leb a.length ++ (a ++ r)) = a ∧ textL m 0 (leb a.length ++ (a ++ r)) = r := by
 unfold textE textS textL
 rw [numE_put h hm, numV_put h hm, numL_put h hm]
 exact ⟨takeE_put _ _, takeS_put _ _, takeL_put _ _⟩
theorem num_canon {m : Nat} {l : List UInt8} (h : numE m 0 l = 0) : l = leb (numV m 0 l) ++ numL m 0 l := by
 have h' := h
 unfold numE at h
 split at h
 · exact absurd h (fst_ne (why_ne l))
 · rename_i h2
   have := takeV_some h2
   unfold numV numL
   rw [h', if_pos rfl, if_pos rfl, this.2.2.2, List.take_append_drop]
theorem take_canon {n : Nat} {l : List UInt8} (h : takeE n 0 l = 0) : l = takeS n 0 l ++ takeL n 0 l ∧ (takeS n 0 l).length = n := by
 have h' := h
 unfold takeE at h
 split at h
 · exact absurd h (fst_ne (by decide))
 · unfold takeS takeL
   rw [h', if_pos rfl, if_pos rfl, List.take_append_drop]
   refine ⟨rfl, ?_⟩
   rw [List.length_take]; omega
theorem text_canon {m : Nat} {l : List UInt8} (h : textE m 0 l = 0) : l = leb (textS m 0 l).length ++ (textS m 0 l ++ textL m 0 l) := by
 unfold textE at h
 unfold textS textL
 by_cases h0 : numE m 0 l = 0
 · rw [h0] at h ⊢
   obtain ⟨h1, h2⟩ := take_canon h
   rw [h2, ← h1]
   exact num_canon h0
 · rw [takeE_err h0] at h; exact absurd h h0
end Go.Proofs.YtljbpelogjmciaaGreatDoor.WirePure
namespace Go.Proofs.YtljbpelogjmciaaGreatDoor
open Go.ChangeShapes Go.WideShapes Go.ChangeAt Go.RowKit
namespace OneByte
theorem run_one (v : Int) (c : UInt8) (hv : v = c.toNat) (W : World) (b : Nat) (h : W.cell? ⟨b, 0, none⟩ = some (.int .u8 v)) :
 (convert 159 9 (.slice (some ⟨b, 0, none⟩) 1 1)).run Tryz.prog W = .ok (.string ⟨[c].toArray⟩) W := by
 subst hv
 have := run_convert_bytes_arg (P := Tryz.prog) W 159 5 Tryz.underlying159 Tryz.underlying5 b 0 1 1 [(c.toNat : Int)] (by simp)
  (fun i hi => by
   obtain rfl : i = 0 := by omega
   simpa using h) 9 Tryz.underlying9
 rw [this]
 congr 3
 unfold strOfNums
 simp
theorem ret_cat {c : UInt8} {l m : List UInt8} (h : m = [c] ++ l) : Ending.returned (.string (ByteArray.mk #[c] ++ ByteArray.mk l.toArray)) = .returned (.string ⟨m.toArray⟩) := by
 have e := ByteArray.mk_append_mk [c] l
 rw [h, ← e]
end OneByte
end Go.Proofs.YtljbpelogjmciaaGreatDoor
namespace Go.Proofs.YtljbpelogjmciaaGreatDoor.NumMath
open Go.RowKit (wrap64)
def fits (n : Int) : Bool := decide (-9223372036854775808 ≤ n ∧ n ≤ 9223372036854775807)
theorem fits_yes {n : Int} (h1 : -9223372036854775808 ≤ n) (h2 : n ≤ 9223372036854775807) : fits n = true := by
 unfold fits; exact decide_eq_true ⟨h1, h2⟩
theorem fits_iff {n : Int} : fits n = true ↔ (-9223372036854775808 ≤ n ∧ n ≤ 9223372036854775807) := by
 unfold fits; exact decide_eq_true_iff
end Go.Proofs.YtljbpelogjmciaaGreatDoor.NumMath
namespace Go.Proofs.YtljbpelogjmciaaGreatDoor
open Go.ChangeShapes Go.WideShapes Go.ChangeAt Go.RowKit
open NumMath
namespace NumRefSize
theorem size_any (a : Int) (w : World) (ha : fits a = true) :
 Calls Tryz.prog 122 #[.int .i64 a] w fun e w' => e = .returned (.int .u64 (a.natAbs : Int)) ∧ w = w' := by
 have hA := fits_iff.1 ha
 clear ha
 by_cases hs : a < 0
 · go_enter Tryz.func122, Tryz.ntmps122
   go_wp2
   go_ret
   refine ⟨congrArg (fun n => Ending.returned (.int .u64 n)) ?_, rfl⟩
   rw [IntKind.wrap_u64, IntKind.wrap_u64]
   omega
 · go_enter Tryz.func122, Tryz.ntmps122
   go_wp2
   go_ret
   refine ⟨congrArg (fun n => Ending.returned (.int .u64 n)) ?_, rfl⟩
   omega
end NumRefSize
end Go.Proofs.YtljbpelogjmciaaGreatDoor
namespace Go.Proofs.YtljbpelogjmciaaGreatDoor.TextMath
open Go.Lib
theorem toNat_digit {d : Nat} (h : d < 10) : (UInt8.ofNat (48 + d)).toNat = 48 + d := by
 simp [UInt8.toNat_ofNat']; omega
theorem itoa_pos {n : Int} (h : 0 ≤ n) : itoa n = decDigits n.toNat := by unfold itoa; rw [if_neg (by omega)]
theorem itoa_neg {n : Int} (h : n < 0) : itoa n = 45 :: decDigits n.natAbs := by unfold itoa; rw [if_pos h]
end Go.Proofs.YtljbpelogjmciaaGreatDoor.TextMath
