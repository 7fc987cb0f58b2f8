/-
  A region that draws its order and makes a row out of a pod, whose ports a call tells, and the rest of a row (JA). No condition.
-/
import Derived.Test.YtbichomjpmmjmaaGreatDoorNp22
import Derived.Test.YtbichomjpmmjmaaGreatDoorNp11
set_option linter.unusedVariables false
set_option linter.unusedSimpArgs false
namespace Go.Proofs.YtbichomjpmmjmaaGreatDoor
open Go.ChangeShapes Go.WideShapes Go.ChangeAt Go.RowKit Go.Lib
open NumMath
namespace Nd
open Re Sd
theorem wp_append_any {P : Program} {w : World} {o : Oper} {a : Act} {K : Act → World → Prop} {Q : Exit → Act → World → Prop} (s x : Operand) (t : TypeId)
    (ho : o.op = .call { callee := .builtin .append, args := #[s, x], argTypes := #[t, t] })
    (base : Nat) (e : TypeId) (i : TypeInfo) (z : Value) (size bytes : Nat) (ht : P.underlying t = some (.slice e)) (hi : P.info? e = some i) (hz : i.zero = some z)
    (hsize : i.size = size) (hby : i.bytes = bytes) (hzs : z.cells.size = size) (hsz : 0 < size)
    (v : Value) (n : Nat) (xs : List Value) (hs : a.eval s = v) (hown : w.ownsRow base e size v n xs)
    (A : Option Addr) (m c : Nat) (news : List Value) (hx : a.eval x = .slice A m c) (hl : news.length = m * size)
    (hsrc : (A = none ∧ m = 0 ∧ c = 0) ∨ ∃ ad, A = some ad ∧ ∀ j u, news[j]? = some u → w.cell? (ad.add j) = some u) (h1 : ∀ u ∈ news, u.oneCell' = true)
    (h63 : n + m ≤ maxLen) (hbytes : (n + m) * bytes ≤ 140737488355328) (hbase : base ≤ w.heap.size)
    (h : ∀ A' c' w', w'.ownsRow base e size (.slice A' (n + m) c') (n + m) (xs ++ news) → w.grownBy w' v.ownBlock → K (a.put o.dst (.slice A' (n + m) c')) w') : Oper.wp P o a w K Q := by
  have form : ∀ {v' : Value} {w' : World}, w'.ownsRow base e size v' (n + m) (xs ++ news) → w.grownBy w' v.ownBlock → K (a.put o.dst v') w' := by
    intro v' w' h2 h3
    obtain ⟨A', c', rfl⟩ := own_form h2
    exact h A' c' w' h2 h3
  rcases hsrc with ⟨rfl, rfl, rfl⟩ | ⟨ad, rfl, hc⟩
  · have hrun := run_append_owned_none (P := P) (w := w) base t o.type e i size ht hi v n xs hown
    unfold Oper.wp
    simp [execOp, ho, resolve, invoke, builtin, hs, hx, hrun, Result.andThen]
    have hn : news = [] := List.eq_nil_of_length_eq_zero (by simpa using hl)
    exact form (by rw [hn]; simpa using hown) ⟨rfl, rfl, rfl, Nat.le_refl _, fun _ _ _ => rfl⟩
  · exact wp_append_own w s x t ho base e i z size bytes ht hi hz hsize hby hzs hsz v n xs hs hown ad m c news hx hl hc h1 h63 hbytes hbase fun v' w' h2 h3 _ => form h2 h3
/-- a pod's row, in a region that draws -/
structure JA (v : World) (hd : List Value) (ps : List Int) (rest : List Value) (nr : Nat) (vs : List Value) (s : Nat → Bool) (V : Nat → Value) (u : World) : Prop where
  bel : Below v.heap.size v u
  val : ∀ j, j ≠ 3 → j ≠ 4 → j ≠ 5 → j ≠ 10 → j ≠ 11 → s j = true → V j = vs.getD j undef
  o4 : s 4 = true → s 3 = true
  o5 : s 5 = true → s 4 = true
  o10 : s 10 = true → s 5 = true
  o11 : s 11 = true → s 10 = true
  r : s 3 = true → ∃ PA pc, V 3 = .slice PA ps.length pc ∧ u.ownsRow v.heap.size 3 1 (.slice PA ps.length pc) ps.length (pvals ps) ∧
    (s 4 = true → V 4 = .agg (hd ++ [Value.slice PA ps.length pc]).toArray) ∧
    (s 5 = true → s 10 = false → ∃ rb, V 5 = .slice (some ⟨rb, 0, none⟩) 1 1 ∧ u.ownsRow v.heap.size 51 5 (.slice (some ⟨rb, 0, none⟩) 1 1) 1 (hd ++ [Value.slice PA ps.length pc])) ∧
    (s 10 = true → ∃ A c, V 10 = .slice A (1 + nr) c ∧ u.ownsRow v.heap.size 51 5 (.slice A (1 + nr) c) (1 + nr) ((hd ++ [Value.slice PA ps.length pc]) ++ rest) ∧ (s 11 = true → V 11 = .slice A (1 + nr) c))
section
variable {v u : World} {hd : List Value} {ps : List Int} {rest : List Value} {nr : Nat} {vs : List Value} {s : Nat → Bool} {V : Nat → Value}
theorem JA.start (V : Nat → Value) : JA v hd ps rest nr vs (fun _ => false) V v.drew :=
  ⟨Below.drew (Below.refl _ _), fun _ _ _ _ _ _ h => Bool.noConfusion h, fun h => Bool.noConfusion h, fun h => Bool.noConfusion h, fun h => Bool.noConfusion h, fun h => Bool.noConfusion h, fun h => Bool.noConfusion h⟩
theorem JA.get (h : JA v hd ps rest nr vs s V u) (j : Nat) (h3 : j ≠ 3) (h4 : j ≠ 4) (h5 : j ≠ 5) (h10 : j ≠ 10) (h11 : j ≠ 11) (hs : s j = true) {x : Value} (hx : vs.getD j undef = x) : V j = x := (h.val j h3 h4 h5 h10 h11 hs).trans hx
theorem JA.not (h : JA v hd ps rest nr vs s V u) : (s 3 = false → s 4 = false) ∧ (s 4 = false → s 5 = false) ∧ (s 5 = false → s 10 = false) ∧ (s 10 = false → s 11 = false) := by
  refine ⟨fun hs => ?_, fun hs => ?_, fun hs => ?_, fun hs => ?_⟩
  · cases hk : s 4 with
    | false => rfl
    | true => rw [h.o4 hk] at hs; cases hs
  · cases hk : s 5 with
    | false => rfl
    | true => rw [h.o5 hk] at hs; cases hs
  · cases hk : s 10 with
    | false => rfl
    | true => rw [h.o10 hk] at hs; cases hs
  · cases hk : s 11 with
    | false => rfl
    | true => rw [h.o11 hk] at hs; cases hs
theorem JA.step (h : JA v hd ps rest nr vs s V u) (i : Nat) (h3 : i ≠ 3) (h4 : i ≠ 4) (h5 : i ≠ 5) (h10 : i ≠ 10) (h11 : i ≠ 11) {x : Value} (hx : x = vs.getD i undef) : JA v hd ps rest nr vs (fun j => s j || j == i) (fun j => if j = i then x else V j) u := by
  have e3 : (3 == i) = false := by simp; omega
  have e4 : (4 == i) = false := by simp; omega
  have e5 : (5 == i) = false := by simp; omega
  have e10 : (10 == i) = false := by simp; omega
  have e11 : (11 == i) = false := by simp; omega
  refine ⟨h.bel, fun j g3 g4 g5 g10 g11 hs => ?_, ?_, ?_, ?_, ?_, ?_⟩
  · by_cases hji : j = i
    · subst hji; rw [if_pos rfl]; exact hx
    · rw [if_neg hji]; exact h.val j g3 g4 g5 g10 g11 (by simpa [hji] using hs)
  all_goals simp only [e3, e4, e5, e10, e11, Bool.or_false, if_neg (Ne.symm h3), if_neg (Ne.symm h4), if_neg (Ne.symm h5), if_neg (Ne.symm h10), if_neg (Ne.symm h11)]
  · exact h.o4
  · exact h.o5
  · exact h.o10
  · exact h.o11
  · exact h.r
theorem JA.c3 (h : JA v hd ps rest nr vs s V u) (hs : s 3 = false) {u' : World} (hb : Below u.heap.size u u') {PA : Option Addr} {pc : Nat} (ho : u'.ownsRow u.heap.size 3 1 (.slice PA ps.length pc) ps.length (pvals ps)) : JA v hd ps rest nr vs (fun j => s j || j == 3) (fun j => if j = 3 then .slice PA ps.length pc else V j) u' := by
  obtain ⟨n1, n2, n3, n4⟩ := h.not
  have n4' := n1 hs; have n5 := n2 n4'; have n10 := n3 n5; have n11 := n4 n10
  refine ⟨h.bel.trans (hb.mono h.bel.size), fun j g3 g4 g5 g10 g11 hs => ?_, ?_, ?_, ?_, ?_, ?_⟩
  · rw [if_neg g3]; exact h.val j g3 g4 g5 g10 g11 (by simpa [g3] using hs)
  all_goals simp only [show ((3 : Nat) == 3) = true from rfl, show ((4 : Nat) == 3) = false from rfl, show ((5 : Nat) == 3) = false from rfl, show ((10 : Nat) == 3) = false from rfl, show ((11 : Nat) == 3) = false from rfl, Bool.or_false, Bool.or_true, n4', n5, n10, n11]
  · exact fun h => Bool.noConfusion h
  · exact fun h => Bool.noConfusion h
  · exact fun h => Bool.noConfusion h
  · exact fun h => Bool.noConfusion h
  · exact fun _ => ⟨PA, pc, if_pos trivial, owns_base ho h.bel.size, fun h => Bool.noConfusion h, fun h => Bool.noConfusion h, fun h => Bool.noConfusion h⟩
theorem JA.b4 (h : JA v hd ps rest nr vs s V u) (h3 : s 3 = true) (hs : s 4 = false) {PA : Option Addr} {pc : Nat} (hV : V 3 = .slice PA ps.length pc) : JA v hd ps rest nr vs (fun j => s j || j == 4) (fun j => if j = 4 then .agg (hd ++ [Value.slice PA ps.length pc]).toArray else V j) u := by
  obtain ⟨n1, n2, n3, n4⟩ := h.not
  have n5 := n2 hs; have n10 := n3 n5; have n11 := n4 n10
  refine ⟨h.bel, fun j g3 g4 g5 g10 g11 hs => ?_, ?_, ?_, ?_, ?_, ?_⟩
  · rw [if_neg g4]; exact h.val j g3 g4 g5 g10 g11 (by simpa [g4] using hs)
  all_goals simp only [show ((3 : Nat) == 4) = false from rfl, show ((4 : Nat) == 4) = true from rfl, show ((5 : Nat) == 4) = false from rfl, show ((10 : Nat) == 4) = false from rfl, show ((11 : Nat) == 4) = false from rfl, Bool.or_false, Bool.or_true, n5, n10, n11, if_neg (show ¬ (3 : Nat) = 4 by decide)]
  · exact fun _ => h3
  · exact fun h => Bool.noConfusion h
  · exact fun h => Bool.noConfusion h
  · exact fun h => Bool.noConfusion h
  · intro _
    obtain ⟨PB, pb, e3, ho, _⟩ := h.r h3
    rw [hV] at e3
    injection e3 with e1 _ e2
    subst e1 e2
    exact ⟨PA, pc, hV, ho, fun _ => if_pos trivial, fun h => Bool.noConfusion h, fun h => Bool.noConfusion h⟩
theorem JA.l5 (h : JA v hd ps rest nr vs s V u) (h4 : s 4 = true) (hs : s 5 = false) (hl : hd.length = 4) {PA : Option Addr} {pc : Nat} (hV : V 3 = .slice PA ps.length pc) : JA v hd ps rest nr vs (fun j => s j || j == 5) (fun j => if j = 5 then .slice (some ⟨u.heap.size, 0, none⟩) 1 1 else V j) (u.alloc (.cells (hd ++ [Value.slice PA ps.length pc]).toArray 51 (0, 0))) := by
  obtain ⟨n1, n2, n3, n4⟩ := h.not
  have n10 := n3 hs; have n11 := n4 n10
  have h3 := h.o4 h4
  have hb : Below u.heap.size u (u.alloc (.cells (hd ++ [Value.slice PA ps.length pc]).toArray 51 (0, 0))) := (Below.refl _ _).alloc (Nat.le_refl _) _
  refine ⟨h.bel.trans (hb.mono h.bel.size), fun j g3 g4 g5 g10 g11 hs => ?_, ?_, ?_, ?_, ?_, ?_⟩
  · rw [if_neg g5]; exact h.val j g3 g4 g5 g10 g11 (by simpa [g5] using hs)
  all_goals simp only [show ((3 : Nat) == 5) = false from rfl, show ((4 : Nat) == 5) = false from rfl, show ((5 : Nat) == 5) = true from rfl, show ((10 : Nat) == 5) = false from rfl, show ((11 : Nat) == 5) = false from rfl, Bool.or_false, Bool.or_true, h4, n10, n11, if_neg (show ¬ (3 : Nat) = 5 by decide), if_neg (show ¬ (4 : Nat) = 5 by decide)]
  · exact fun _ => h3
  · exact fun _ => trivial
  · exact fun h => Bool.noConfusion h
  · exact fun h => Bool.noConfusion h
  · intro _
    obtain ⟨PB, pb, e3, ho, hv4, _⟩ := h.r h3
    rw [hV] at e3
    injection e3 with e1 _ e2
    subst e1 e2
    have q := World.ownsRow_lit (base := v.heap.size) (size := 5) (e := 51) u (hd ++ [Value.slice PA ps.length pc]).toArray 1 h.bel.size (by decide) (by simp [hl])
    exact ⟨PA, pc, hV, owns_below ho hb, fun _ => hv4 h4, fun _ _ => ⟨u.heap.size, if_pos trivial, by simpa using q⟩, fun h => Bool.noConfusion h⟩
theorem JA.a10 (h : JA v hd ps rest nr vs s V u) (h5 : s 5 = true) (hs : s 10 = false) {PA : Option Addr} {pc rb : Nat} (hV : V 3 = .slice PA ps.length pc) (hV5 : V 5 = .slice (some ⟨rb, 0, none⟩) 1 1) {u' : World} {A : Option Addr} {c : Nat} (ho : u'.ownsRow v.heap.size 51 5 (.slice A (1 + nr) c) (1 + nr) ((hd ++ [Value.slice PA ps.length pc]) ++ rest)) (hg : u.grownBy u' (some rb)) : JA v hd ps rest nr vs (fun j => s j || j == 10) (fun j => if j = 10 then .slice A (1 + nr) c else V j) u' := by
  obtain ⟨n1, n2, n3, n4⟩ := h.not
  have n11 := n4 hs
  have h4 := h.o5 h5
  have h3 := h.o4 h4
  obtain ⟨PB, pb, e3, hp, hv4, hr5, _⟩ := h.r h3
  rw [hV] at e3
  injection e3 with e1 _ e2
  subst e1 e2
  obtain ⟨rc, e5, hrow⟩ := hr5 h5 hs
  rw [hV5] at e5
  injection e5 with e5 _ _
  injection e5 with e5
  injection e5 with e5
  subst e5
  obtain ⟨hvb, cur, hcur⟩ := owns_at hrow (r := rb) rfl
  have hb : Below v.heap.size v u' := h.bel.grown hg h.bel.size (fun k hk => by injection hk with hk; omega)
  refine ⟨hb, fun j g3 g4 g5 g10 g11 hs => ?_, ?_, ?_, ?_, ?_, ?_⟩
  · rw [if_neg g10]; exact h.val j g3 g4 g5 g10 g11 (by simpa [g10] using hs)
  all_goals simp only [show ((3 : Nat) == 10) = false from rfl, show ((4 : Nat) == 10) = false from rfl, show ((5 : Nat) == 10) = false from rfl, show ((10 : Nat) == 10) = true from rfl, show ((11 : Nat) == 10) = false from rfl, Bool.or_false, Bool.or_true, h4, h5, n11, if_neg (show ¬ (3 : Nat) = 10 by decide), if_neg (show ¬ (4 : Nat) = 10 by decide), if_neg (show ¬ (5 : Nat) = 10 by decide)]
  · exact fun _ => h3
  · exact fun _ => trivial
  · exact fun _ => trivial
  · exact fun h => Bool.noConfusion h
  · intro _
    refine ⟨PA, pc, hV, owns_of hp fun r hr => ?_, fun _ => hv4 h4, fun _ h => Bool.noConfusion h, fun _ => ⟨A, c, if_pos trivial, ho, fun h => Bool.noConfusion h⟩⟩
    obtain ⟨_, cu, hcu⟩ := owns_at hp hr
    refine hg.block r (lt_of_block hcu) fun e => ?_
    injection e with e
    rw [e, hcur] at hcu
    injection hcu with hcu
    injection hcu with _ hcu
    exact absurd hcu (by decide)
theorem JA.as11 (h : JA v hd ps rest nr vs s V u) (h10 : s 10 = true) {A : Option Addr} {c : Nat} (hV : V 10 = .slice A (1 + nr) c) : JA v hd ps rest nr vs (fun j => s j || j == 11) (fun j => if j = 11 then .slice A (1 + nr) c else V j) u := by
  have h5 := h.o10 h10
  have h4 := h.o5 h5
  have h3 := h.o4 h4
  refine ⟨h.bel, fun j g3 g4 g5 g10 g11 hs => ?_, ?_, ?_, ?_, ?_, ?_⟩
  · rw [if_neg g11]; exact h.val j g3 g4 g5 g10 g11 (by simpa [g11] using hs)
  all_goals simp only [show ((3 : Nat) == 11) = false from rfl, show ((4 : Nat) == 11) = false from rfl, show ((5 : Nat) == 11) = false from rfl, show ((10 : Nat) == 11) = false from rfl, show ((11 : Nat) == 11) = true from rfl, Bool.or_false, Bool.or_true, h3, h4, h5, h10, if_neg (show ¬ (3 : Nat) = 11 by decide), if_neg (show ¬ (4 : Nat) = 11 by decide), if_neg (show ¬ (5 : Nat) = 11 by decide), if_neg (show ¬ (10 : Nat) = 11 by decide)]
  · exact fun _ => trivial
  · exact fun _ => trivial
  · exact fun _ => trivial
  · exact fun _ => trivial
  · intro _
    obtain ⟨PB, pb, e3, ho, hv4, hv5, hv10⟩ := h.r h3
    refine ⟨PB, pb, e3, ho, fun _ => hv4 h4, fun _ h => Bool.noConfusion h, fun _ => ?_⟩
    obtain ⟨A2, c2, e, ho2, _⟩ := hv10 h10
    rw [hV] at e
    injection e with e1 _ e2
    subst e1 e2
    exact ⟨A, c, hV, ho2, fun _ => if_pos trivial⟩
end
/-- the rest of a row -/
theorem run_at {w : World} {base : Nat} {e : TypeId} {n c : Nat} {A : Option Addr} {l : List Pd} (h : w.ownsRow base e 5 (.slice A n c) n (flat5 l)) (k : Nat) (hk : k ≤ n) : ∃ SA, (∀ u : World, (Instr.slice 27 (.slice A n c) (some (.int .i64 (k : Int))) none none).run Tryz.prog u = .ok (.slice SA (n - k) (c - k)) u) ∧
    ((SA = none ∧ n - k = 0 ∧ c - k = 0) ∨ ∃ ad r, SA = some ad ∧ A = some ⟨r, 0, none⟩ ∧ ∀ u : World, u.heap[r]? = w.heap[r]? → ∀ j v, (flat5 (l.drop k))[j]? = some v → u.cell? (ad.add j) = some v) := by
  have hc := (own_cap h).1
  have run : ∀ u : World, (Instr.slice 27 (.slice A n c) (some (.int .i64 (k : Int))) none none).run Tryz.prog u = .ok (.slice (if c = k then A else A.map (·.add (k * 5))) (n - k) (c - k)) u := fun u => by
    rw [run_slice_l (ht := (by kernel_rfl : Tryz.prog.underlying 27 = some (.slice (Tryz.prog.elem 27)))) (kl := .i64) (l := (k : Int)) (h0 := by omega) (h1 := by omega)]
    rw [show (sizeOf (Tryz.prog.elem 27)).run Tryz.prog u = .ok 5 u from by kernel_rfl]
    simp [Result.andThen, sliced]
  refine ⟨_, run, ?_⟩
  rcases own_addr h with ⟨rfl, h0, h1⟩ | ⟨r, rfl, _, _⟩
  · exact .inl ⟨by split <;> rfl, by omega, by omega⟩
  · right
    by_cases hq : c = k
    · rw [if_pos hq]
      refine ⟨_, r, rfl, rfl, fun u hu j v hv => ?_⟩
      rw [List.drop_eq_nil_of_le (by have := h.1; rw [flat_length] at this; omega)] at hv
      simp [flat5] at hv
    · rw [if_neg hq]
      refine ⟨_, r, rfl, rfl, fun u hu j v hv => ?_⟩
      rw [← flat_drop, List.getElem?_drop] at hv
      have hl := (List.getElem?_eq_some_iff.1 hv).1
      rw [show ((⟨r, 0, none⟩ : Addr).add (k * 5)).add j = ⟨r, k * 5 + j, none⟩ by rw [at_one]; unfold Addr.add; split <;> simp_all, World.cell?_of_block hu, h.cellAt _ (by have := h.1; omega)]
      exact hv
theorem loU_run (u : Int) : ∀ (l : Pods) (j : Nat), j ≤ l.length → (∀ t x, t < j → l[t]? = some x → x.uid < u) → (∀ x, l[j]? = some x → u ≤ x.uid) → loU u l = j
  | [], j, hj, _, _ => by simp at hj; subst hj; rfl
  | x :: l, 0, _, _, h2 => by
    have := h2 x rfl
    unfold loU
    rw [if_neg (by omega)]
  | x :: l, j + 1, hj, h1, h2 => by
    have := h1 0 x (by omega) rfl
    unfold loU
    rw [if_pos this, loU_run u l j (by simpa using hj) (fun t y ht hy => h1 (t + 1) y (by omega) (by simpa using hy)) (fun y hy => h2 y (by simpa using hy))]
end Nd
end Go.Proofs.YtbichomjpmmjmaaGreatDoor
