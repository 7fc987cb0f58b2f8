/-
  Rows of resources: what lies in a row of the call's own, append, and small. No condition.
-/
import Derived.Test.YtpllcnpmjnmcfaaDoorResSum
import Derived.Test.YtpllcnpmjnmcfaaDoorAppendAny
import Derived.Laws.OwnMore
set_option linter.unusedVariables false
set_option linter.unusedSimpArgs false
namespace Go.Proofs.YtpllcnpmjnmcfaaDoor
open Go.ChangeShapes Go.WideShapes Go.ChangeAt Go.RowKit Go.Lib
open NumMath
namespace Re
def flatR : List Rx → List Value
  | [] => []
  | x :: l => R3 x ++ flatR l
theorem flatR_cat : ∀ (l m : List Rx), flatR (l ++ m) = flatR l ++ flatR m
  | [], _ => rfl
  | x :: l, m => by rw [List.cons_append, flatR, flatR, flatR_cat l m, List.append_assoc]
theorem flatR_len : ∀ (l : List Rx), (flatR l).length = l.length * 3
  | [] => rfl
  | x :: l => by rw [flatR, List.length_append, flatR_len l, List.length_cons]; simp; omega
theorem flatR_at : ∀ {l : List Rx} {k : Nat} {x : Rx}, l[k]? = some x → ∀ j, j < 3 → (flatR l)[k * 3 + j]? = (R3 x)[j]?
  | [], k, x, h, _, _ => by simp at h
  | y :: l, 0, x, h, j, hj => by
    simp only [List.getElem?_cons_zero, Option.some.injEq] at h
    subst h
    rw [flatR, List.getElem?_append_left (by simp; omega)]
    simp
  | y :: l, k + 1, x, h, j, hj => by
    simp only [List.getElem?_cons_succ] at h
    rw [flatR, List.getElem?_append_right (by simp; omega), ← flatR_at h j hj]
    congr 1
    simp; omega
theorem one_flatR : ∀ (l : List Rx), ∀ u ∈ flatR l, u.oneCell' = true
  | [], u, h => by cases h
  | x :: l, u, h => by
    rw [flatR, List.mem_append] at h
    rcases h with h | h
    · simp only [List.mem_cons, List.not_mem_nil, or_false] at h
      rcases h with rfl | rfl | rfl <;> rfl
    · exact one_flatR l u h
/-- a row of the call's own holds the list -/
theorem ress_own {w : World} {base n c : Nat} {A : Option Addr} {l : List Rx} (h : w.ownsRow base 23 3 (.slice A n c) n (flatR l)) (hn : l.length = n) (hk : ∀ x ∈ l, x.Ok) : Ress w A l := fun k x hx => by
  obtain ⟨h1, h2⟩ := h
  have hkl : k < l.length := (List.getElem?_eq_some_iff.1 hx).1
  rcases h2 with ⟨_, h0⟩ | ⟨g, cap, cur, e, _, hg, _, _, _, ht⟩
  · omega
  · injection e with e1 _ _
    subst e1
    refine ⟨hk x (List.mem_of_getElem? hx), g, 0, rfl, lt_of_at hg, fun j v hv => ?_⟩
    have hj : j < 3 := by have := (List.getElem?_eq_some_iff.1 hv).1; simpa using this
    rw [← flatR_at hx j hj, ← ht, List.getElem?_take_of_lt (by omega)] at hv
    exact cell_of hg _ (by simpa using hv)
theorem res_info : ∃ i, Tryd.prog.info? 23 = some i ∧ i.zero = some (.agg #[.int .i64 0, .int .i64 0, .int .i64 0]) ∧ i.size = 3 ∧ i.bytes = 24 := by
  have h : (Tryd.prog.info? 23).map (fun i => (i.zero, i.size, i.bytes)) = some (some (.agg #[.int .i64 0, .int .i64 0, .int .i64 0]), 3, 24) := by kernel_rfl
  cases hi : Tryd.prog.info? 23 with
  | none => rw [hi] at h; cases h
  | some i =>
    rw [hi] at h
    simp only [Option.map_some, Option.some.injEq, Prod.mk.injEq] at h
    exact ⟨i, rfl, h.1, h.2.1, h.2.2⟩
/-- append of one onto a row of the call's own -/
theorem wpList_append_res {w : World} {ops : Array Oper} {rest : List Oper} {o : Oper} {a : Act} {Q : Exit → Act → World → Prop} (hgd : o.guard = none) (s x : Operand)
    (ho : o.op = .call { callee := .builtin .append, args := #[s, x], argTypes := #[30, 30] })
    (base : Nat) (l : List Rx) (A : Option Addr) (n c : Nat) (hs : a.eval s = .slice A n c) (hown : w.ownsRow base 23 3 (.slice A n c) n (flatR l))
    (b m : Nat) (y : Rx) (hx : a.eval x = .slice (some ⟨b, 0, none⟩) 1 m) (hb : w.rangeAt b 0 (R3 y)) (hn : n ≤ 1000000) (hbase : base ≤ w.heap.size)
    (h : ∀ A' c' w', w'.ownsRow base 23 3 (.slice A' (n + 1) c') (n + 1) (flatR (l ++ [y])) → Below base w w' → wpList Tryd.prog ops Q rest (a.put o.dst (.slice A' (n + 1) c')) w') : wpList Tryd.prog ops Q (o :: rest) a w := by
  obtain ⟨i, hi, hz, hsz, hby⟩ := res_info
  refine AppendAny.wpList_append_want (by simp [Region.wanted, hgd]) s x 30 ho base 23 i (.agg #[.int .i64 0, .int .i64 0, .int .i64 0]) 3 24 Tryd.underlying30 hi hz hsz hby rfl (by decide) (.slice A n c) n (flatR l) hs hown (some ⟨b, 0, none⟩) 1 m (R3 y) hx rfl (.inr ⟨_, rfl, fun j u hu => ?_⟩) ?_ (by unfold maxLen; omega) (by omega) hbase fun v' w' h2 h3 => ?_
  · have := hb j u hu
    rw [Nat.zero_add] at this
    rw [show (⟨b, 0, none⟩ : Addr).add j = ⟨b, j, none⟩ by unfold Addr.add; split <;> simp_all]
    exact this
  · exact fun u hu => one_flatR [y] u (by rw [flatR, flatR, List.append_nil]; exact hu)
  · have : ∃ A' c', v' = .slice A' (n + 1) c' := by
      rcases h2.2 with ⟨e1, e2⟩ | ⟨g, cap, cur, e1, _⟩
      · exact ⟨none, 0, by rw [e1, e2]⟩
      · exact ⟨_, _, e1⟩
    obtain ⟨A', c', rfl⟩ := this
    refine h A' c' w' (by rw [flatR_cat, flatR, flatR, List.append_nil]; exact h2) ((Below.refl base w).grown h3 hbase fun k hk => (hown.lt k hk).1)
/-- numbers from 0 to 2^55 -/
def smallB (a : Rx) : Bool := decide (0 ≤ a.c) && (decide (a.c ≤ 36028797018963968) && (decide (0 ≤ a.m) && (decide (a.m ≤ 36028797018963968) && (decide (0 ≤ a.p) && decide (a.p ≤ 36028797018963968)))))
theorem small_in {a : Rx} (h : smallB a = true) : In 36028797018963968 a := by
  simp only [smallB, Bool.and_eq_true, decide_eq_true_eq] at h
  exact ⟨⟨h.1, h.2.1⟩, ⟨h.2.2.1, h.2.2.2.1⟩, ⟨h.2.2.2.2.1, h.2.2.2.2.2⟩⟩
set_option maxRecDepth 100000 in
theorem small_any (a : Rx) (w : World) : Calls Tryd.prog 22 #[.agg #[.int .i64 a.c, .int .i64 a.m, .int .i64 a.p]] w fun e w' => e = .returned (.bool (smallB a)) ∧ Below w.heap.size w w' := by
  unfold smallB
  refine if h0 : 0 ≤ a.c then if h1 : a.c ≤ 36028797018963968 then if h2 : 0 ≤ a.m then if h3 : a.m ≤ 36028797018963968 then if h4 : 0 ≤ a.p then if h5 : a.p ≤ 36028797018963968 then ?_ else ?_ else ?_ else ?_ else ?_ else ?_ else ?_
  all_goals
    simp only [*, decide_true, decide_false, Bool.and_true, Bool.and_false, Bool.false_and, Bool.true_and]
    go_enter Tryd.func22, Tryd.ntmps22
    go_wp2
    go_ret
    exact ⟨rfl, by go_grown⟩
end Re
end Go.Proofs.YtpllcnpmjnmcfaaDoor
