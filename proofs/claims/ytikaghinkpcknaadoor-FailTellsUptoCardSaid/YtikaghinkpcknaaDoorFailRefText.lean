/-
  The contract of provostref02.Text: the texts of a path, with a point between each two; all that was there is left as it was. Conditions: the list holds the texts; at most 1000000 of them, of at most 2^40 bytes in all.
-/
import Derived.Test.YtikaghinkpcknaaDoorFailRef
namespace Go.Proofs.YtikaghinkpcknaaDoor
open Go.RowKit
namespace Err

theorem refin_opt {w : World} {v : Value} {c : Int} {p : List ByteArray} (h : RefIs w v c p) (h0 : c = 0 → p = []) (s : ByteArray) (hp : p.length ≤ 1000000) :
    Calls Tryd.prog 11 #[v, .string s] w (RefMade c (pathOf c (s :: p)) w) := by
  obtain ⟨A, cap, rfl, hT, hA⟩ := h
  by_cases hc : c = 0
  · subst hc
    obtain rfl := h0 rfl
    refine (refin_zero A _ cap s w).mono ?_
    rintro e w' ⟨rfl, hb⟩
    exact ⟨_, rfl, ⟨A, cap, by unfold pathOf; rw [if_pos rfl], by unfold pathOf; rw [if_pos rfl]; exact hT.below hb, by unfold pathOf; rw [if_pos rfl]; exact hA⟩, hb⟩
  · refine (refin_some c (beq_eq_false_iff_ne.2 hc) A cap p s w hT hA hp).mono ?_
    rintro e w' ⟨v, rfl, hv, hb⟩
    exact ⟨v, rfl, by unfold pathOf; rw [if_neg hc]; exact hv, hb⟩

theorem refnew_opt (c : Int) (A : Option Addr) (cap : Nat) (xs : List ByteArray) (w : World) (hT : Texts w A xs) (hA : (A = none ∧ xs.length = 0 ∧ cap = 0) ∨ ∃ ad, A = some ad) :
    Calls Tryd.prog 9 #[.int .i64 c, .slice A xs.length cap] w (RefMade c (pathOf c xs) w) := by
  by_cases hc : c = 0
  · subst hc
    unfold pathOf
    rw [if_pos rfl]
    exact refnew_zero A _ cap w
  · unfold pathOf
    rw [if_neg hc]
    exact refnew_some c (beq_eq_false_iff_ne.2 hc) A cap xs w hT hA

theorem join_snoc (sep x : List UInt8) : ∀ l : List (List UInt8), l ≠ [] → Lib.join (l ++ [x]) sep = Lib.join l sep ++ sep ++ x := by
  have tail : ∀ r : List (List UInt8), Lib.joinTail sep (r ++ [x]) = Lib.joinTail sep r ++ sep ++ x := by
    intro r
    induction r with
    | nil => simp [Lib.joinTail]
    | cons y r ih => simp [Lib.joinTail, List.append_assoc]
  intro l hl
  cases l with
  | nil => exact absurd rfl hl
  | cons y r =>
    rw [List.cons_append, Lib.join_cons, Lib.join_cons, tail]
    simp

theorem pathText_one (x : ByteArray) : pathText [x] = x.data.toList := by unfold pathText; simp [Lib.join_one]
theorem pathText_snoc (l : List ByteArray) (x : ByteArray) (h : l ≠ []) : pathText (l ++ [x]) = pathText l ++ [46] ++ x.data.toList := by
  unfold pathText
  rw [List.map_append, List.map_cons, List.map_nil, join_snoc _ _ _ (by simpa using h)]

theorem take_snoc (p : List ByteArray) (k : Nat) (h : k < p.length) : p.take (k + 1) = p.take k ++ [p[k]] := List.take_succ_eq_append_getElem h
theorem lens_take (l : List (List UInt8)) (k : Nat) : Lib.lens (l.take k) ≤ Lib.lens l := by
  induction l generalizing k with
  | nil => simp
  | cons x l ih =>
    cases k with
    | zero => simp [Lib.lens]
    | succ k => have := ih k; simp only [List.take_succ_cons, Lib.lens, List.map_cons, List.sum_cons] at this ⊢; omega
theorem pathText_take (p : List ByteArray) (k : Nat) : (pathText (p.take k)).length ≤ (pathText p).length := by
  cases p with
  | nil => simp
  | cons x r =>
    cases k with
    | zero => simp [pathText, Lib.join_nil]
    | succ k =>
      unfold pathText
      simp only [List.take_succ_cons, List.map_cons, Lib.join_length, List.map_take, List.length_take, List.length_map]
      have := lens_take (x.data.toList :: r.map (·.data.toList)) (k + 1)
      simp only [List.take_succ_cons] at this
      have hmin : min k r.length ≤ r.length := Nat.min_le_right _ _
      simp only [List.length_singleton, Nat.one_mul]
      omega
theorem str_eq {a b : ByteArray} (h : a.data.toList = b.data.toList) : Value.string a = .string b := by
  congr 1
  cases a; cases b
  congr 1
  exact Array.toList_inj.1 h

set_option maxRecDepth 100000 in
theorem reftext_any {w : World} {v : Value} {c : Int} {p : List ByteArray} (h : RefIs w v c p) (hp : p.length ≤ 1000000) (hlen : (pathText p).length ≤ 140737488355328) :
    Calls Tryd.prog 16 #[v] w fun e w' => e = .returned (.string ⟨(pathText p).toArray⟩) ∧ Below w.heap.size w w' := by
  obtain ⟨A, cap, rfl, hT, _⟩ := h
  have hb : Below w.heap.size w (w.alloc (.cells #[.int .i64 c, .slice A p.length cap] 30)) := (Below.refl _ _).alloc (Nat.le_refl _) _
  have HT := Lib.hid (hT.below hb)
  have HB := Lib.hid hb
  have HL := Lib.hid hlen
  clear hT hb hlen
  go_enter Tryd.func16, Tryd.ntmps16
  go_wp2
  go_loop [3, 4] (fun s i => ∃ k : Nat, k ≤ p.length ∧ i = .int .i64 k ∧ s = .string ⟨(pathText (p.take k)).toArray⟩) (fun _ i => p.length - (intOf i).toNat)
  case atStart => exact ⟨0, Nat.zero_le _, rfl, rfl⟩
  case round =>
    obtain ⟨k, hk, rfl, rfl⟩ := hrel
    by_cases hlt : k < p.length
    · obtain ⟨a, rfl, hcell⟩ := HT.out k p[k] (List.getElem?_eq_getElem hlt)
      have hj : (k : Int) < (p.length : Int) := by omega
      have hsn := take_snoc p k hlt
      have hle := pathText_take p (k + 1)
      by_cases h0 : k = 0
      · subst h0
        have hsz : p[0].size ≤ 140737488355328 := by
          have h1 := HL.out
          rw [hsn, List.take_zero, List.nil_append, pathText_one] at hle
          rw [Array.length_toList] at hle
          exact Nat.le_trans hle h1
        have hc0 : (w.alloc (.cells #[.int .i64 c, .slice (some a) p.length cap] 30)).cell? a = some (.string p[0]) := by simpa [Addr.add] using hcell
        have HS := Lib.hid hsn
        have e0 : pathText (p.take 0) = [] := rfl
        rw [e0]
        clear hsn hle hcell e0
        go_wp2
        go_round
        case rel => exact ⟨1, by omega, rfl, str_eq (by rw [HS.out, List.take_zero, List.nil_append, pathText_one]; simp)⟩
        case measure => simp [intOf]; omega
      · have hne : p.take k ≠ [] := by
          intro h
          have := congrArg List.length h
          rw [List.length_take, List.length_nil, Nat.min_eq_left (by omega)] at this
          exact h0 this
        have hps := pathText_snoc (p.take k) p[k] hne
        rw [← hsn] at hps
        have hsum : (pathText (p.take k)).length + 1 + p[k].size ≤ 140737488355328 := by
          have h1 := HL.out
          rw [hps] at hle
          simp only [List.length_append, List.length_cons, List.length_nil, Array.length_toList] at hle
          have : p[k].data.size = p[k].size := rfl
          omega
        have HS := Lib.hid hps
        generalize pathText (p.take k) = s at *
        have hpos : (0 : Int) < (k : Int) := by omega
        clear hsn hle hps hne
        go_wp2
        go_round
        case rel => exact ⟨k + 1, by omega, by go_num, str_eq (by rw [HS.out]; simp)⟩
        case measure => simp [intOf]; omega
    · go_wp2
      go_ret
      exact ⟨by rw [List.take_of_length_le (by omega)]; rfl, HB.out⟩
end Err
end Go.Proofs.YtikaghinkpcknaaDoor
