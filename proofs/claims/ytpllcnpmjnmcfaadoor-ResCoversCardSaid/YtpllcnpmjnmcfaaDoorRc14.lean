/-
  A spec that may be: what its containers ask for is from 0 on, they are few; ALL THAT IT ASKS FOR, of the plain functions; a list of containers as cells, and the containers of a row of the call's own. No condition.
-/
import Derived.Test.YtpllcnpmjnmcfaaDoorRc13
import Derived.Test.YtpllcnpmjnmcfaaDoorRc1
import Derived.Test.YtpllcnpmjnmcfaaDoorRc4
import Derived.Test.YtpllcnpmjnmcfaaDoorRc8
import Derived.Test.YtpllcnpmjnmcfaaDoorRc9
import Derived.Test.YtpllcnpmjnmcfaaDoorRc2
import Derived.Test.YtpllcnpmjnmcfaaDoorRc3
import Derived.Lib.Join
import Derived.Laws.Concat
import Derived.LoopN
set_option linter.unusedVariables false
set_option linter.unusedSimpArgs false
namespace Go.Proofs.YtpllcnpmjnmcfaaDoor
open Go.ChangeShapes Go.WideShapes Go.ChangeAt Go.RowKit Go.Lib
open NumMath
namespace Re
open Sd SpecOwn
theorem numsV_in {a b c : Int} (h : ¬ 0 ≤ numsV false a b c 0 0 0) : (0 ≤ a ∧ a ≤ big) ∧ (0 ≤ b ∧ b ≤ big) ∧ (0 ≤ c ∧ c ≤ big) := by
  unfold numsV at h
  have e : ∀ n : Int, numV false n 0 = false → 0 ≤ n ∧ n ≤ big := fun n hn => by
    simp [numV] at hn
    omega
  cases h0 : numV false a 0 with
  | true => rw [h0] at h; simp at h
  | false =>
    cases h1 : numV false b 0 with
    | true => rw [h0, h1] at h; simp at h
    | false =>
      cases h2 : numV false c 0 with
      | true => rw [h0, h1, h2] at h; simp at h
      | false => exact ⟨e _ h0, e _ h1, e _ h2⟩
theorem one_in {x : Ctr} {ahead : List Ctr} {i : Bool} (h : (oneV x ahead i).1 = 0) : In big (rq x) := by
  unfold oneV at h
  split at h
  · exact absurd h (by simp)
  split at h
  · exact absurd h (by simp)
  split at h
  · exact absurd h (by simp)
  split at h
  · exact absurd h (by simp)
  rename_i h4
  obtain ⟨h1, h2, h3⟩ := numsV_in h4
  exact ⟨h1, h2, h3⟩
theorem ctrs_in (name : ByteArray) (i : Bool) : ∀ (l : List Ctr) {n : Nat} {ahead : List Ctr}, (ctrsFrom name i n ahead l).1 = 0 → ∀ x ∈ l, In big (rq x)
  | [], _, _, _, x, hx => by cases hx
  | y :: l, n, ahead, h, x, hx => by
    unfold ctrsFrom at h
    split at h
    · rename_i h1; exact absurd h h1
    · rename_i h1
      rcases List.mem_cons.1 hx with rfl | hx
      · exact one_in (Decidable.byContradiction h1)
      · exact ctrs_in name i l h x hx
theorem checked {S : Spc} (h : (checkV S).1 = 0) : S.init.length ≤ 3 ∧ S.main.length ≤ 4 ∧ (∀ x ∈ S.init, In big (rq x)) ∧ (∀ x ∈ S.main, In big (rq x)) := by
  unfold checkV at h
  split at h
  · exact absurd h (by decide)
  split at h
  · rename_i h1; exact absurd h h1
  split at h
  · exact absurd h (by decide)
  split at h
  · rename_i h1; exact absurd h h1
  split at h
  · exact absurd h (by decide)
  split at h
  · rename_i h1; exact absurd h h1
  rename_i h1 h2 h3 h4
  exact ⟨by omega, by omega, ctrs_in _ _ _ (Decidable.byContradiction h2), ctrs_in _ _ _ (Decidable.byContradiction h4)⟩
theorem in_map {k : Int} {l : List Ctr} (h : ∀ x ∈ l, In k (rq x)) : ∀ y ∈ l.map rq, In k y := fun y hy => by
  obtain ⟨x, hx, rfl⟩ := List.mem_map.1 hy
  exact h x hx
theorem drop_ctr {l : List Ctr} {k : Nat} {x : Ctr} (h : l[k]? = some x) : l.drop k = x :: l.drop (k + 1) := by
  obtain ⟨hk, hx⟩ := List.getElem?_eq_some_iff.1 h
  rw [List.drop_eq_getElem_cons hk, hx]
/-- what is told of each main container -/
structure Cov (I M : List Ctr) (R : Rx) (i : Nat) (x : Ctr) (a b t : Rx) : Prop where
  less : ofR (I.map rq) ((M.take i ++ M.drop (i + 1)).map rq) = (a, true)
  fa : fitsR a R = true
  fx : fitsR (rq x) R = true
  ob : b.Ok
  alone : ofR [] ((M.take i ++ M.drop (i + 1)).map rq) = (b, true)
  both : addR b (rq x) = (t, true)
  ft : fitsR t R = true
theorem covers_plain {I M : List Ctr} (hI : ∀ x ∈ I, In big (rq x)) (hM : ∀ x ∈ M, In big (rq x)) (hm : M.length ≤ 4) : ∃ R, ofR (I.map rq) (M.map rq) = (R, true) ∧ (∀ x ∈ I, fitsR (rq x) R = true) ∧ ∀ i x, M[i]? = some x → ∃ a b t, Cov I M R i x a b t := by
  have hb : (big : Int) = 1099511627776 := rfl
  have hMm := in_map hM
  have S1 := of_in (k := big) (by decide) (i := I.map rq) hMm (by rw [List.length_map, hb]; omega)
  refine ⟨_, S1, fun x hx => (maxL_ge _ _).2 _ (List.mem_map.2 ⟨x, hx, rfl⟩), fun i x hx => ?_⟩
  have hil := (List.getElem?_eq_some_iff.1 hx).1
  have sp : M = M.take i ++ x :: M.drop (i + 1) := by
    rw [← drop_ctr hx, List.take_append_drop]
  have hL : ∀ y ∈ (M.take i).map rq ++ rq x :: (M.drop (i + 1)).map rq, In big y := fun y hy => hMm y (by
    rw [sp, List.map_append, List.map_cons]; exact hy)
  obtain ⟨⟨e1, e2, e3⟩, hx0⟩ := tot_less hL
  have hN : ∀ y ∈ (M.take i ++ M.drop (i + 1)).map rq, In big y := fun y hy => hL y (by
    rw [List.map_append] at hy
    rcases List.mem_append.1 hy with h | h
    · exact List.mem_append_left _ h
    · exact List.mem_append_right _ (List.mem_cons_of_mem _ h))
  have hlen : ((M.take i ++ M.drop (i + 1)).map rq).length ≤ 4 := by rw [List.length_map, List.length_append, List.length_take, List.length_drop]; omega
  have S2 := of_in (k := big) (by decide) (i := I.map rq) hN (by rw [hb]; omega)
  have S3 := of_in (k := big) (by decide) (i := []) hN (by rw [hb]; omega)
  have q := tot_le (k := big) (by decide) hN
  have eM : M.map rq = (M.take i).map rq ++ rq x :: (M.drop (i + 1)).map rq := by
    conv => lhs; rw [sp]
    rw [List.map_append, List.map_cons]
  have eN : (M.take i ++ M.drop (i + 1)).map rq = (M.take i).map rq ++ (M.drop (i + 1)).map rq := by rw [List.map_append]
  rw [← eM, ← eN] at e1 e2 e3
  have x1 := hx0.c; have x2 := hx0.m; have x3 := hx0.p
  obtain ⟨⟨q1, q2⟩, ⟨q3, q4⟩, q5, q6⟩ := q
  rw [hb] at q2 q4 q6 x1 x2 x3
  have g := (maxL_ge (I.map rq) ⟨tot Rx.c (M.map rq), tot Rx.m (M.map rq), tot Rx.p (M.map rq)⟩).1
  have g2 := fitsR_iff.1 g
  refine ⟨_, _, ⟨tot Rx.c (M.map rq), tot Rx.m (M.map rq), tot Rx.p (M.map rq)⟩, ⟨S2, maxL_mono _ (fitsR_iff.2 ⟨by dsimp only; omega, by dsimp only; omega, by dsimp only; omega⟩), fitsR_iff.2 ⟨by have := g2.1; dsimp only at this; omega, by have := g2.2.1; dsimp only at this; omega, by have := g2.2.2; dsimp only at this; omega⟩, ⟨fits_iff.2 (by dsimp only [maxL, List.foldl]; omega), fits_iff.2 (by dsimp only [maxL, List.foldl]; omega), fits_iff.2 (by dsimp only [maxL, List.foldl]; omega)⟩, S3, ?_, g⟩⟩
  dsimp only [maxL, List.foldl]
  rw [add_in (by dsimp only; omega) (by dsimp only; omega) (by dsimp only; omega), ← e1, ← e2, ← e3]
/-- the containers as they lie -/
theorem held_of {w : World} {A : Option Addr} {M : List Ctr} (h : Ctrs w A M) : ∃ L : List Held, L.map Held.x = M ∧ ∀ (k : Nat) (t : Held), L[k]? = some t → t.x.Fits ∧ ∃ a, A = some a ∧ a.block < w.heap.size ∧ t.x.cellsAt t.P t.c w (a.add (k * 11)) ∧ Lists.Nums .i64 w t.P t.x.ports := by
  obtain ⟨L, hl, hL⟩ := LawKit.list_of (Q := fun k (t : Held) => M[k]? = some t.x ∧ t.x.Fits ∧ ∃ a, A = some a ∧ a.block < w.heap.size ∧ t.x.cellsAt t.P t.c w (a.add (k * 11)) ∧ Lists.Nums .i64 w t.P t.x.ports) M.length (fun k hk => by
    obtain ⟨hf, a, P, c, e, ha, hc, hn⟩ := h k _ (List.getElem?_eq_getElem hk)
    exact ⟨⟨M[k], P, c⟩, List.getElem?_eq_getElem hk, hf, a, e, ha, hc, hn⟩)
  refine ⟨L, List.ext_getElem? fun k => ?_, fun k t hk => (hL k t hk).2⟩
  rw [List.getElem?_map]
  cases hk : L[k]? with
  | some t => rw [Option.map_some, (hL k t hk).1]
  | none =>
    rw [Option.map_none, List.getElem?_eq_none]
    have := List.getElem?_eq_none_iff.1 hk
    omega
/-- containers in a row of the call's own, their ports there before -/
theorem ctrs_own {v : World} {base n c : Nat} {A : Option Addr} {L : List Held} (h : v.ownsRow base 50 11 (.slice A n c) n (flat L)) (hn : L.length = n) (hp : ∀ t ∈ L, t.x.Fits ∧ Lists.Nums .i64 v t.P t.x.ports ∧ t.x.ports.length ≤ t.c) : Ctrs v A (L.map Held.x) := fun k x hx => by
  rw [List.getElem?_map] at hx
  cases hk : L[k]? with
  | none => rw [hk] at hx; cases hx
  | some t =>
    rw [hk] at hx
    obtain rfl := Option.some.inj hx
    obtain ⟨hf, hN, hle⟩ := hp t (List.mem_of_getElem? hk)
    have hkl : k < L.length := (List.getElem?_eq_some_iff.1 hk).1
    obtain ⟨h1, h2⟩ := h
    rcases h2 with ⟨_, h0⟩ | ⟨g, cap, cur, e, _, hg, _, _, _, ht⟩
    · omega
    · injection e with e1 _ _
      subst e1
      have at_ : ∀ j u, j < 11 → t.cells[j]? = some u → v.cell? ⟨g, 0 + k * 11 + j, none⟩ = some u := fun j u hj hu => by
        rw [← flat_at hk j hj, ← ht, List.getElem?_take_of_lt (by omega)] at hu
        rw [Nat.zero_add]
        exact cell_of hg _ (by simpa using hu)
      refine ⟨hf, ⟨g, 0, none⟩, t.P, t.c, rfl, lt_of_at hg, ?_, hN⟩
      rw [add_at]
      exact ⟨at_ 0 _ (by omega) rfl, at_ 1 _ (by omega) rfl, at_ 2 _ (by omega) rfl, at_ 3 _ (by omega) rfl, at_ 4 _ (by omega) rfl, at_ 5 _ (by omega) rfl, at_ 6 _ (by omega) rfl, at_ 7 _ (by omega) rfl, at_ 8 _ (by omega) rfl, at_ 9 _ (by omega) rfl, at_ 10 _ (by omega) rfl, hle⟩
end Re
end Go.Proofs.YtpllcnpmjnmcfaaDoor

/-
  What the regions of ResCovers want: a new box (J12), a row made of two pieces and laid into a box (JC); a container's numbers, a list's cells. No condition.
-/
set_option linter.unusedVariables false
set_option linter.unusedSimpArgs false
namespace Go.Proofs.YtpllcnpmjnmcfaaDoor
open Go.ChangeShapes Go.WideShapes Go.ChangeAt Go.RowKit Go.Lib
open NumMath
namespace Re
open Sd SpecOwn
/-- a new box, in a region that draws -/
structure J12 (v : World) (vs : List Value) (r : List Value) (s : Nat → Bool) (V : Nat → Value) (u : World) : Prop where
  bel : Below v.heap.size v u
  val : ∀ j, j ≠ 11 → j ≠ 12 → s j = true → V j = vs.getD j undef
  bx : s 11 = true → ∃ q X, V 11 = .pointer (some ⟨q, 0, none⟩) ∧ v.heap.size ≤ q ∧ u.heap[q]? = some (.cells X 23 (0, 0)) ∧ X.size = 3 ∧ (s 12 = true → X = r.toArray)
  o12 : s 12 = true → s 11 = true
variable {v u : World} {vs r : List Value} {s : Nat → Bool} {V : Nat → Value}
theorem J12.start (v : World) (vs r : List Value) (V : Nat → Value) : J12 v vs r (fun _ => false) V v.drew :=
  ⟨Below.drew (Below.refl _ _), fun _ _ _ h => Bool.noConfusion h, fun h => Bool.noConfusion h, fun h => Bool.noConfusion h⟩
theorem J12.get (h : J12 v vs r s V u) (j : Nat) (h11 : j ≠ 11) (h12 : j ≠ 12) (hs : s j = true) {x : Value} (hx : vs.getD j undef = x) : V j = x := (h.val j h11 h12 hs).trans hx
theorem J12.step (h : J12 v vs r s V u) (i : Nat) (h11 : i ≠ 11) (h12 : i ≠ 12) {u' : World} (hb : Below u.heap.size u u') {x : Value} (hx : x = vs.getD i undef) : J12 v vs r (fun j => s j || j == i) (fun j => if j = i then x else V j) u' := by
  have e11 : (11 == i) = false := by simp; omega
  have e12 : (12 == i) = false := by simp; omega
  refine ⟨h.bel.trans (hb.mono h.bel.size), fun j g11 g12 hs => ?_, ?_, ?_⟩
  · by_cases hji : j = i
    · subst hji; rw [if_pos rfl]; exact hx
    · rw [if_neg hji]; exact h.val j g11 g12 (by simpa [hji] using hs)
  all_goals simp only [e11, e12, Bool.or_false, if_neg (Ne.symm h11)]
  · intro hs
    obtain ⟨q, X, q1, q2, q3, q4⟩ := h.bx hs
    exact ⟨q, X, q1, q2, (hb.block q (lt_of_at q3)).trans q3, q4⟩
  · exact h.o12
theorem J12.al (h : J12 v vs r s V u) (hs : s 11 = false) (Z : Array Value) (hZ : Z.size = 3) : J12 v vs r (fun j => s j || j == 11) (fun j => if j = 11 then .pointer (some ⟨u.heap.size, 0, none⟩) else V j) (u.alloc (.cells Z 23 (0, 0))) := by
  have hb : Below u.heap.size u (u.alloc (.cells Z 23 (0, 0))) := (Below.refl _ _).alloc (Nat.le_refl _) _
  have h12 : s 12 = false := by
    cases h12 : s 12 with
    | false => rfl
    | true => rw [h.o12 h12] at hs; cases hs
  refine ⟨h.bel.trans (hb.mono h.bel.size), fun j g11 g12 hs => ?_, ?_, ?_⟩
  · rw [if_neg g11]; exact h.val j g11 g12 (by simpa [g11] using hs)
  all_goals simp only [show ((11 : Nat) == 11) = true from rfl, show ((12 : Nat) == 11) = false from rfl, Bool.or_false, Bool.or_true, if_pos]
  · exact fun _ => ⟨u.heap.size, Z, rfl, h.bel.size, heap_alloc_new u _, hZ, fun h => by rw [h12] at h; cases h⟩
  · exact fun h => by simp
theorem J12.st (h : J12 v vs r s V u) (hr : r.length = 3) (h11 : s 11 = true) {q : Nat} (hq : V 11 = .pointer (some ⟨q, 0, none⟩)) (x : Value) : J12 v vs r (fun j => s j || j == 12) (fun j => if j = 12 then x else V j) (u.setCells q 0 r) := by
  obtain ⟨p, X, e1, e2, e3, e4, e5⟩ := h.bx h11
  obtain rfl : p = q := by rw [hq] at e1; injection e1 with e1; injection e1 with e1; injection e1 with e1; exact e1.symm
  refine ⟨bel_set h.bel e2, fun j g11 g12 hs => ?_, ?_, ?_⟩
  · rw [if_neg g12]; exact h.val j g11 g12 (by simpa [g12] using hs)
  all_goals simp only [show ((11 : Nat) == 12) = false from rfl, show ((12 : Nat) == 12) = true from rfl, Bool.or_false, Bool.or_true, if_neg (show ¬ (11 : Nat) = 12 by decide)]
  · exact fun _ => ⟨p, r.toArray, hq, e2, Back.st e3 (by rw [e4, hr]), by simpa using hr, fun _ => rfl⟩
  · exact fun _ => h11

theorem req_range {w : World} {x : Ctr} {P : Option Addr} {c r o : Nat} (h : w.rangeAt r o (x.cells P c)) : w.rangeAt r (o + 2) (R3 (rq x)) := fun j v hv => by
  have e := h (2 + j) v (by
    match j, hv with
    | 0, hv => exact hv
    | 1, hv => exact hv
    | 2, hv => exact hv
    | j + 3, hv => simp at hv)
  rw [show o + 2 + j = o + (2 + j) by omega]
  exact e
theorem flat_cat : ∀ (L K : List Held), flat (L ++ K) = flat L ++ flat K
  | [], _ => rfl
  | t :: L, K => by rw [List.cons_append, flat, flat, flat_cat L K, List.append_assoc]
/-- what a new world keeps: all blocks below B but one -/
structure But (B b : Nat) (v u : World) : Prop where
  os : u.os = v.os
  tape : u.tape = v.tape
  output : u.output = v.output
  size : v.heap.size ≤ u.heap.size
  block : ∀ k, k < B → k ≠ b → u.heap[k]? = v.heap[k]?
theorem But.below {B B' b : Nat} {w v u : World} (h : But B b v u) (hw : Below B' w v) (h1 : B' ≤ B) (h2 : B' ≤ b) : Below B' w u :=
  ⟨h.os.trans hw.os, h.tape.trans hw.tape, h.output.trans hw.output, Nat.le_trans hw.size h.size, fun k hk => (h.block k (by omega) (by omega)).trans (hw.block k hk)⟩
theorem But.grown {B b : Nat} {v u w' : World} {row : Option Nat} (h : But B b v u) (hB : B ≤ v.heap.size) (hg : u.grownBy w' row) (hr : ∀ k, row = some k → B ≤ k) : But B b v w' := by
  have g := (Below.refl B u).grown hg (Nat.le_trans hB h.size) hr
  exact ⟨g.os.trans h.os, g.tape.trans h.tape, g.output.trans h.output, Nat.le_trans h.size g.size, fun k hk hb => (g.block k hk).trans (h.block k hk hb)⟩
/-- a row made of two pieces, in a region that draws -/
structure JC (v : World) (b : Nat) (cs vs : List Value) (n1 n2 : Nat) (x1 x2 : List Value) (s : Nat → Bool) (V : Nat → Value) (u : World) : Prop where
  but : But v.heap.size b v u
  val : ∀ j, j ≠ 0 → j ≠ 5 → j ≠ 11 → j ≠ 13 → s j = true → V j = vs.getD j undef
  o5 : s 5 = true → s 0 = true
  o11 : s 11 = true → s 5 = true
  o13 : s 13 = true → s 11 = true
  r0 : s 0 = true → s 5 = false → ∃ A c, V 0 = .slice A 0 c ∧ u.ownsRow v.heap.size 50 11 (.slice A 0 c) 0 []
  r5 : s 5 = true → s 11 = false → ∃ A c, V 5 = .slice A n1 c ∧ u.ownsRow v.heap.size 50 11 (.slice A n1 c) n1 x1
  r11 : s 11 = true → ∃ A c, V 11 = .slice A n2 c ∧ u.ownsRow v.heap.size 50 11 (.slice A n2 c) n2 (x1 ++ x2) ∧ (s 13 = true → u.heap[b]? = some (.cells (cs.set 3 (.slice A n2 c)).toArray 40 (0, 0)))
  bx : s 13 = false → u.heap[b]? = some (.cells cs.toArray 40 (0, 0))
section
variable {v u : World} {b n1 n2 : Nat} {cs vs x1 x2 : List Value} {s : Nat → Bool} {V : Nat → Value}
theorem JC.start (hb : v.heap[b]? = some (.cells cs.toArray 40 (0, 0))) (V : Nat → Value) : JC v b cs vs n1 n2 x1 x2 (fun _ => false) V v.drew :=
  ⟨⟨rfl, rfl, rfl, Nat.le_refl _, fun _ _ _ => rfl⟩, fun _ _ _ _ _ h => Bool.noConfusion h, fun h => Bool.noConfusion h, fun h => Bool.noConfusion h, fun h => Bool.noConfusion h, fun h => Bool.noConfusion h, fun h => Bool.noConfusion h, fun h => Bool.noConfusion h, fun _ => hb⟩
theorem JC.get (h : JC v b cs vs n1 n2 x1 x2 s V u) (j : Nat) (h0 : j ≠ 0) (h5 : j ≠ 5) (h11 : j ≠ 11) (h13 : j ≠ 13) (hs : s j = true) {x : Value} (hx : vs.getD j undef = x) : V j = x := (h.val j h0 h5 h11 h13 hs).trans hx
theorem JC.step (h : JC v b cs vs n1 n2 x1 x2 s V u) (i : Nat) (h0 : i ≠ 0) (h5 : i ≠ 5) (h11 : i ≠ 11) (h13 : i ≠ 13) {x : Value} (hx : x = vs.getD i undef) : JC v b cs vs n1 n2 x1 x2 (fun j => s j || j == i) (fun j => if j = i then x else V j) u := by
  have e0 : (0 == i) = false := by simp; omega
  have e5 : (5 == i) = false := by simp; omega
  have e11 : (11 == i) = false := by simp; omega
  have e13 : (13 == i) = false := by simp; omega
  refine ⟨h.but, fun j g0 g5 g11 g13 hs => ?_, ?_, ?_, ?_, ?_, ?_, ?_, ?_⟩
  · by_cases hji : j = i
    · subst hji; rw [if_pos rfl]; exact hx
    · rw [if_neg hji]; exact h.val j g0 g5 g11 g13 (by simpa [hji] using hs)
  all_goals simp only [e0, e5, e11, e13, Bool.or_false, if_neg (Ne.symm h0), if_neg (Ne.symm h5), if_neg (Ne.symm h11)]
  · exact h.o5
  · exact h.o11
  · exact h.o13
  · exact h.r0
  · exact h.r5
  · exact h.r11
  · exact h.bx
theorem JC.not5 (h : JC v b cs vs n1 n2 x1 x2 s V u) (hs : s 0 = false) : s 5 = false := by
  cases h5 : s 5 with
  | false => rfl
  | true => rw [h.o5 h5] at hs; cases hs
theorem JC.not11 (h : JC v b cs vs n1 n2 x1 x2 s V u) (hs : s 5 = false) : s 11 = false := by
  cases h5 : s 11 with
  | false => rfl
  | true => rw [h.o11 h5] at hs; cases hs
theorem JC.not13 (h : JC v b cs vs n1 n2 x1 x2 s V u) (hs : s 11 = false) : s 13 = false := by
  cases h5 : s 13 with
  | false => rfl
  | true => rw [h.o13 h5] at hs; cases hs
theorem JC.mk0 (h : JC v b cs vs n1 n2 x1 x2 s V u) (hs : s 0 = false) (hbv : b < v.heap.size) : JC v b cs vs n1 n2 x1 x2 (fun j => s j || j == 0) (fun j => if j = 0 then .slice (some ⟨u.heap.size, 0, none⟩) 0 0 else V j) (u.alloc (.cells #[] 50 (0, 0))) := by
  have n5 := h.not5 hs
  have n11 := h.not11 n5
  have n13 := h.not13 n11
  have hb : Below u.heap.size u (u.alloc (.cells #[] 50 (0, 0))) := (Below.refl _ _).alloc (Nat.le_refl _) _
  refine ⟨⟨hb.os.trans h.but.os, hb.tape.trans h.but.tape, hb.output.trans h.but.output, Nat.le_trans h.but.size hb.size, fun k hk hkb => (hb.block k (Nat.lt_of_lt_of_le hk h.but.size)).trans (h.but.block k hk hkb)⟩, fun j g0 g5 g11 g13 hs => ?_, ?_, ?_, ?_, ?_, ?_, ?_, ?_⟩
  · rw [if_neg g0]; exact h.val j g0 g5 g11 g13 (by simpa [g0] using hs)
  all_goals simp only [show ((0 : Nat) == 0) = true from rfl, show ((5 : Nat) == 0) = false from rfl, show ((11 : Nat) == 0) = false from rfl, show ((13 : Nat) == 0) = false from rfl, Bool.or_false, Bool.or_true, n5, n11, n13]
  · exact fun h => Bool.noConfusion h
  · exact fun h => Bool.noConfusion h
  · exact fun h => Bool.noConfusion h
  · exact fun _ _ => ⟨_, _, if_pos trivial, World.ownsRow_made u #[] 0 h.but.size (Nat.zero_le _) rfl⟩
  · exact fun h => Bool.noConfusion h
  · exact fun h => Bool.noConfusion h
  · exact fun _ => (hb.block b (Nat.lt_of_lt_of_le hbv h.but.size)).trans (h.bx n13)
theorem keep_box {w' : World} {row : Option Nat} (hg : u.grownBy w' row) (hr : ∀ k, row = some k → v.heap.size ≤ k) (hbv : b < v.heap.size) (hsz : v.heap.size ≤ u.heap.size) : w'.heap[b]? = u.heap[b]? :=
  ((Below.refl v.heap.size u).grown hg hsz hr).block b hbv
theorem JC.ap5 (h : JC v b cs vs n1 n2 x1 x2 s V u) (hs : s 5 = false) (h0 : s 0 = true) (hbv : b < v.heap.size) {A : Option Addr} {c : Nat} {w' : World} {row : Option Nat} (ho : w'.ownsRow v.heap.size 50 11 (.slice A n1 c) n1 x1) (hg : u.grownBy w' row) (hr : ∀ k, row = some k → v.heap.size ≤ k) : JC v b cs vs n1 n2 x1 x2 (fun j => s j || j == 5) (fun j => if j = 5 then .slice A n1 c else V j) w' := by
  have n11 := h.not11 hs
  have n13 := h.not13 n11
  refine ⟨h.but.grown (Nat.le_refl _) hg hr, fun j g0 g5 g11 g13 hs => ?_, ?_, ?_, ?_, ?_, ?_, ?_, ?_⟩
  · rw [if_neg g5]; exact h.val j g0 g5 g11 g13 (by simpa [g5] using hs)
  all_goals simp only [show ((0 : Nat) == 5) = false from rfl, show ((5 : Nat) == 5) = true from rfl, show ((11 : Nat) == 5) = false from rfl, show ((13 : Nat) == 5) = false from rfl, Bool.or_false, Bool.or_true, n11, n13]
  · exact fun _ => h0
  · exact fun h => Bool.noConfusion h
  · exact fun h => Bool.noConfusion h
  · exact fun _ h => Bool.noConfusion h
  · exact fun _ _ => ⟨_, _, if_pos trivial, ho⟩
  · exact fun h => Bool.noConfusion h
  · exact fun _ => (keep_box hg hr hbv h.but.size).trans (h.bx n13)
theorem JC.ap11 (h : JC v b cs vs n1 n2 x1 x2 s V u) (hs : s 11 = false) (h5 : s 5 = true) (hbv : b < v.heap.size) {A : Option Addr} {c : Nat} {w' : World} {row : Option Nat} (ho : w'.ownsRow v.heap.size 50 11 (.slice A n2 c) n2 (x1 ++ x2)) (hg : u.grownBy w' row) (hr : ∀ k, row = some k → v.heap.size ≤ k) : JC v b cs vs n1 n2 x1 x2 (fun j => s j || j == 11) (fun j => if j = 11 then .slice A n2 c else V j) w' := by
  have n13 := h.not13 hs
  refine ⟨h.but.grown (Nat.le_refl _) hg hr, fun j g0 g5 g11 g13 hs => ?_, ?_, ?_, ?_, ?_, ?_, ?_, ?_⟩
  · rw [if_neg g11]; exact h.val j g0 g5 g11 g13 (by simpa [g11] using hs)
  all_goals simp only [show ((0 : Nat) == 11) = false from rfl, show ((5 : Nat) == 11) = false from rfl, show ((11 : Nat) == 11) = true from rfl, show ((13 : Nat) == 11) = false from rfl, Bool.or_false, Bool.or_true, n13, h5]
  · exact fun _ => h.o5 h5
  · exact fun _ => trivial
  · exact fun h => Bool.noConfusion h
  · exact fun _ h => Bool.noConfusion h
  · exact fun _ h => Bool.noConfusion h
  · exact fun _ => ⟨_, _, if_pos trivial, ho, fun h => Bool.noConfusion h⟩
  · exact fun _ => (keep_box hg hr hbv h.but.size).trans (h.bx n13)
theorem JC.st13 (h : JC v b cs vs n1 n2 x1 x2 s V u) (hs : s 13 = false) (h11 : s 11 = true) (hbv : b < v.heap.size) {A : Option Addr} {c : Nat} (hV : V 11 = .slice A n2 c) (hc : 3 < cs.length) (x : Value) : JC v b cs vs n1 n2 x1 x2 (fun j => s j || j == 13) (fun j => if j = 13 then x else V j) (u.setCell ⟨b, 3, none⟩ (.slice A n2 c)) := by
  have hbx := h.bx hs
  have far : ∀ k, k ≠ b → (u.setCell ⟨b, 3, none⟩ (.slice A n2 c)).heap[k]? = u.heap[k]? := fun k hk => Below.heap_setCell u _ _ k hk
  have sz : (u.setCell ⟨b, 3, none⟩ (.slice A n2 c)).heap.size = u.heap.size := by simp
  have hB : Below 0 u (u.setCell ⟨b, 3, none⟩ (.slice A n2 c)) := (Below.refl 0 u).setCell (p := ⟨b, 3, none⟩) (Nat.zero_le _) _
  refine ⟨⟨hB.os.trans h.but.os, hB.tape.trans h.but.tape, hB.output.trans h.but.output, Nat.le_trans h.but.size hB.size, fun k hk hkb => (far k hkb).trans (h.but.block k hk hkb)⟩, fun j g0 g5 g11 g13 hs => ?_, ?_, ?_, ?_, ?_, ?_, ?_, ?_⟩
  · rw [if_neg g13]; exact h.val j g0 g5 g11 g13 (by simpa [g13] using hs)
  all_goals simp only [show ((0 : Nat) == 13) = false from rfl, show ((5 : Nat) == 13) = false from rfl, show ((11 : Nat) == 13) = false from rfl, show ((13 : Nat) == 13) = true from rfl, Bool.or_false, Bool.or_true, h11, if_neg (show ¬ (0 : Nat) = 13 by decide), if_neg (show ¬ (5 : Nat) = 13 by decide), if_neg (show ¬ (11 : Nat) = 13 by decide)]
  · exact h.o5
  · exact fun _ => h.o11 h11
  · exact fun _ => trivial
  · intro _ h5
    rw [h.o11 h11] at h5
    cases h5
  · exact fun _ h => Bool.noConfusion h
  · intro _
    obtain ⟨A', c', e, ho, _⟩ := h.r11 h11
    rw [hV] at e
    injection e with e1 _ e3
    subst e1 e3
    refine ⟨A, c, hV, ?_, fun _ => ?_⟩
    · obtain ⟨h1, h2⟩ := ho
      refine ⟨h1, ?_⟩
      rcases h2 with h2 | ⟨g, cap, cur, e, e1, hg, e2⟩
      · exact .inl h2
      · exact .inr ⟨g, cap, cur, e, e1, (far g (by omega)).trans hg, e2⟩
    · have := heap_setCell_same u b 3 _ _ (.slice A n2 c) hbx
      rw [this]
      simp [hc]
  · exact fun h => Bool.noConfusion h
end
end Re
end Go.Proofs.YtpllcnpmjnmcfaaDoor

/-
  Package res: Text, and the document's. What was there is left as it was. Conditions: the numbers are 64-bit integers; strconv's table of powers holds what the program's text lays.
-/
set_option linter.unusedVariables false
set_option linter.unusedSimpArgs false
namespace Go.Proofs.YtpllcnpmjnmcfaaDoor
open Go.ChangeShapes Go.WideShapes Go.ChangeAt Go.RowKit Go.Lib
open NumMath
namespace Re
def tx (n : Int) : ByteArray := ⟨(itoa n).toArray⟩
def textR (a : Rx) : ByteArray := tx a.c ++ ⟨#[47]⟩ ++ tx a.m ++ ⟨#[47]⟩ ++ tx a.p
theorem tx_size {n : Int} (h : fits n = true) : (tx n).size ≤ 21 := by
  have := fits_iff.1 h
  have := itoa_length_le n (by omega) (by omega)
  show (itoa n).toArray.size ≤ 21
  simpa using this
theorem textR_join (a : Rx) : (⟨(Lib.join ([tx a.c, tx a.m, tx a.p].map (·.data.toList)) [47]).toArray⟩ : ByteArray) = textR a := by
  apply ByteArray.ext
  apply Array.toList_inj.1
  simp [textR, tx, Lib.join]
set_option maxRecDepth 100000 in
set_option maxHeartbeats 2000000 in
theorem text_any (a : Rx) (ha : a.Ok) (w : World) (hT : NumText.Tab w) : Calls Tryd.prog 17 #[.agg #[.int .i64 a.c, .int .i64 a.m, .int .i64 a.p]] w fun e w' => e = .returned (.string (textR a)) ∧ Below w.heap.size w w' := by
  have HA := Lib.hid ha
  have HT := Lib.hid hT
  clear ha hT
  have hb0 := fits_iff.1 HA.out.c
  have hb1 := fits_iff.1 HA.out.m
  have hb2 := fits_iff.1 HA.out.p
  have i0 : ∀ w, (Instr.index 56 (.agg #[.int .i64 a.c, .int .i64 a.m, .int .i64 a.p]) (.int .i64 0)).run Tryd.prog w = .ok (.int .i64 a.c) w := fun _ => by kernel_rfl
  have i1 : ∀ w, (Instr.index 56 (.agg #[.int .i64 a.c, .int .i64 a.m, .int .i64 a.p]) (.int .i64 1)).run Tryd.prog w = .ok (.int .i64 a.m) w := fun _ => by kernel_rfl
  have i2 : ∀ w, (Instr.index 56 (.agg #[.int .i64 a.c, .int .i64 a.m, .int .i64 a.p]) (.int .i64 2)).run Tryd.prog w = .ok (.int .i64 a.p) w := fun _ => by kernel_rfl
  obtain ⟨w0, hw0⟩ : ∃ v, (w.alloc (.cells #[.int .i64 a.c, .int .i64 a.m, .int .i64 a.p] 23)).alloc (.cells #[.string ⟨#[]⟩, .string ⟨#[]⟩, .string ⟨#[]⟩] 59) = v := ⟨_, rfl⟩
  have X := Lib.hid (show w0.heap[w.heap.size]? = some (.cells #[.int .i64 a.c, .int .i64 a.m, .int .i64 a.p] 23 (0, 0)) by rw [← hw0, Below.heap_alloc _ _ _ (by simp)]; exact heap_alloc_new w _)
  have G0 := Lib.hid (show w0.heap[w.heap.size + 1]? = some (.cells #[.string ⟨#[]⟩, .string ⟨#[]⟩, .string ⟨#[]⟩] 59 (0, 0)) by rw [← hw0]; have := heap_alloc_new (w.alloc (.cells #[.int .i64 a.c, .int .i64 a.m, .int .i64 a.p] 23)) (.cells #[.string ⟨#[]⟩, .string ⟨#[]⟩, .string ⟨#[]⟩] 59); simpa using this)
  have B0 := Lib.hid (show Below w.heap.size w w0 by rw [← hw0]; go_grown)
  have RX := Lib.hid (range_box (cs := R3 a) X.out)
  go_enter Tryd.func17, Tryd.ntmps17
  go_wp2_with (first | (refine wpList_load_mid rfl 23 _ rfl _ _ rfl _ _ RX.out Tryd.underlying23 rfl (by kernel_rfl) ?_))
  refine (apart_any _ _ _ w0).mono ?_
  rintro e w1 ⟨rfl, hb⟩
  have G1 := Lib.hid ((hb.block _ (lt_of_at G0.out)).trans G0.out)
  have B1 := Lib.hid (B0.out.trans (hb.mono B0.out.size))
  clear hb hw0 X RX G0 B0
  go_wp2_with fail
  refine wp_loop_rounds 4 ?_
  rw [rounds_succ]
  go_wp2_with fail
  refine (NumText.numtext_any a.c w1 hb0.1 hb0.2 (HT.out.below B1.out)).mono ?_
  rintro e w2 ⟨rfl, hb⟩
  rw [show (⟨(itoa a.c).toArray⟩ : ByteArray) = tx a.c from rfl]
  have G2 := Lib.hid ((hb.block _ (lt_of_at G1.out)).trans G1.out)
  have B2 := Lib.hid (B1.out.trans (hb.mono B1.out.size))
  have cg := cell_of G2.out 0 rfl
  have fg := free_of G2.out 0
  obtain ⟨v2, hv2⟩ : ∃ v, w2.setCell ⟨w.heap.size + 1, 0, none⟩ (.string (tx a.c)) = v := ⟨_, rfl⟩
  have G3 := Lib.hid (show v2.heap[w.heap.size + 1]? = some (.cells #[.string (tx a.c), .string ⟨#[]⟩, .string ⟨#[]⟩] 59 (0, 0)) by rw [← hv2]; have := heap_setCell_same w2 (w.heap.size + 1) 0 _ _ (.string (tx a.c)) G2.out; simpa using this)
  have B3 := Lib.hid (show Below w.heap.size w v2 by rw [← hv2]; exact B2.out.setCell (p := ⟨w.heap.size + 1, 0, none⟩) (by show w.heap.size ≤ w.heap.size + 1; omega) _)
  clear hb G1 B1
  go_wp2_with fail
  clear cg fg hv2 G2 B2
  rw [rounds_succ]
  go_wp2_with fail
  refine (NumText.numtext_any a.m v2 hb1.1 hb1.2 (HT.out.below B3.out)).mono ?_
  rintro e w3 ⟨rfl, hb⟩
  rw [show (⟨(itoa a.m).toArray⟩ : ByteArray) = tx a.m from rfl]
  have G4 := Lib.hid ((hb.block _ (lt_of_at G3.out)).trans G3.out)
  have B4 := Lib.hid (B3.out.trans (hb.mono B3.out.size))
  have cg := cell_of G4.out 1 rfl
  have fg := free_of G4.out 1
  obtain ⟨v3, hv3⟩ : ∃ v, w3.setCell ⟨w.heap.size + 1, 1, none⟩ (.string (tx a.m)) = v := ⟨_, rfl⟩
  have G5 := Lib.hid (show v3.heap[w.heap.size + 1]? = some (.cells #[.string (tx a.c), .string (tx a.m), .string ⟨#[]⟩] 59 (0, 0)) by rw [← hv3]; have := heap_setCell_same w3 (w.heap.size + 1) 1 _ _ (.string (tx a.m)) G4.out; simpa using this)
  have B5 := Lib.hid (show Below w.heap.size w v3 by rw [← hv3]; exact B4.out.setCell (p := ⟨w.heap.size + 1, 1, none⟩) (by show w.heap.size ≤ w.heap.size + 1; omega) _)
  clear hb G3 B3
  go_wp2_with fail
  clear cg fg hv3 G4 B4
  rw [rounds_succ]
  go_wp2_with fail
  refine (NumText.numtext_any a.p v3 hb2.1 hb2.2 (HT.out.below B5.out)).mono ?_
  rintro e w4 ⟨rfl, hb⟩
  rw [show (⟨(itoa a.p).toArray⟩ : ByteArray) = tx a.p from rfl]
  have G6 := Lib.hid ((hb.block _ (lt_of_at G5.out)).trans G5.out)
  have B6 := Lib.hid (B5.out.trans (hb.mono B5.out.size))
  have cg := cell_of G6.out 2 rfl
  have fg := free_of G6.out 2
  obtain ⟨v4, hv4⟩ : ∃ v, w4.setCell ⟨w.heap.size + 1, 2, none⟩ (.string (tx a.p)) = v := ⟨_, rfl⟩
  have G7 := Lib.hid (show v4.heap[w.heap.size + 1]? = some (.cells #[.string (tx a.c), .string (tx a.m), .string (tx a.p)] 59 (0, 0)) by rw [← hv4]; have := heap_setCell_same w4 (w.heap.size + 1) 2 _ _ (.string (tx a.p)) G6.out; simpa using this)
  have B7 := Lib.hid (show Below w.heap.size w v4 by rw [← hv4]; exact B6.out.setCell (p := ⟨w.heap.size + 1, 2, none⟩) (by show w.heap.size ≤ w.heap.size + 1; omega) _)
  clear hb G5 B5
  go_wp2_with fail
  clear cg fg hv4 G6 B6
  rw [rounds_succ]
  go_wp2_with fail
  have t0 := tx_size HA.out.c
  have t1 := tx_size HA.out.m
  have t2 := tx_size HA.out.p
  refine (Any.strings_Join Tryd.lays156 Tryd.Builder_Extra_156 (w.heap.size + 1) 0 3 [tx a.c, tx a.m, tx a.p] ⟨#[47]⟩ v4 ?_ (lt_of_at G7.out) (by simp) (by simp) ?_).mono ?_
  · intro j x hx
    rcases j with _ | _ | _ | j
    · injection hx with hx; subst hx; exact cell_of G7.out 0 rfl
    · injection hx with hx; subst hx; exact cell_of G7.out 1 rfl
    · injection hx with hx; subst hx; exact cell_of G7.out 2 rfl
    · simp at hx
  · simp [Lib.join]
    have e0 : (tx a.c).data.size = (tx a.c).size := rfl
    have e1 : (tx a.m).data.size = (tx a.m).size := rfl
    have e2 : (tx a.p).data.size = (tx a.p).size := rfl
    omega
  · rintro e w5 ⟨rfl, hb⟩
    have HE := Lib.hid (textR_join a)
    have B8 := Lib.hid (B7.out.trans (hb.mono B7.out.size))
    obtain ⟨z, hz⟩ : ∃ z : ByteArray, (⟨(Lib.join ([tx a.c, tx a.m, tx a.p].map (·.data.toList)) [47]).toArray⟩ : ByteArray) = z := ⟨_, rfl⟩
    rw [hz] at HE
    first | rw [hz] | (have hz' := hz; simp only [List.map_cons, List.map_nil] at hz'; rw [hz'])
    clear hb hz
    go_wp2_with fail
    go_ret
    rw [HE.out]
    exact ⟨rfl, B8.out⟩
def FT (a : Rx) (g : Nat) : Nat → Value → Prop
  | 0, v => v = .pointer (some ⟨g, 0, none⟩)
  | 1, v => v = .int .i64 a.c
  | 2, v => v = .string (tx a.c)
  | 3, v => v = .string (tx a.c ++ ⟨#[47]⟩)
  | 4, v => v = .pointer (some ⟨g, 1, none⟩)
  | 5, v => v = .int .i64 a.m
  | 6, v => v = .string (tx a.m)
  | 7, v => v = .string (tx a.c ++ ⟨#[47]⟩ ++ tx a.m)
  | 8, v => v = .string (tx a.c ++ ⟨#[47]⟩ ++ tx a.m ++ ⟨#[47]⟩)
  | 9, v => v = .pointer (some ⟨g, 2, none⟩)
  | 10, v => v = .int .i64 a.p
  | 11, v => v = .string (tx a.p)
  | _, v => v = .string (textR a)
set_option maxRecDepth 100000 in
set_option maxHeartbeats 2000000 in
theorem reftext_any (a : Rx) (ha : a.Ok) (w : World) : Calls Tryd.prog 18 #[.agg #[.int .i64 a.c, .int .i64 a.m, .int .i64 a.p]] w fun e w' => e = .returned (.string (textR a)) ∧ Below w.heap.size w w' := by
  have hb0 := fits_iff.1 ha.c
  have hb1 := fits_iff.1 ha.m
  have hb2 := fits_iff.1 ha.p
  have t0 := tx_size ha.c
  have t1 := tx_size ha.m
  have t2 := tx_size ha.p
  have s1 : (tx a.c ++ ⟨#[47]⟩ : ByteArray).size ≤ 22 := by rw [ByteArray.size_append]; show _ + 1 ≤ _; omega
  have s2 : (tx a.c ++ ⟨#[47]⟩ ++ tx a.m : ByteArray).size ≤ 43 := by rw [ByteArray.size_append]; omega
  have s3 : (tx a.c ++ ⟨#[47]⟩ ++ tx a.m ++ ⟨#[47]⟩ : ByteArray).size ≤ 44 := by rw [ByteArray.size_append]; show _ + 1 ≤ _; omega
  have a1 : ∀ v, (Op.stringOp .add (tx a.c) ⟨#[47]⟩).run Tryd.prog v = .ok (.string (tx a.c ++ ⟨#[47]⟩)) v := fun v => run_string_add_sum v _ _ (by show _ + 1 ≤ _; omega)
  have a2 : ∀ v, (Op.stringOp .add (tx a.c ++ ⟨#[47]⟩) (tx a.m)).run Tryd.prog v = .ok (.string (tx a.c ++ ⟨#[47]⟩ ++ tx a.m)) v := fun v => run_string_add_sum v _ _ (by omega)
  have a3 : ∀ v, (Op.stringOp .add (tx a.c ++ ⟨#[47]⟩ ++ tx a.m) ⟨#[47]⟩).run Tryd.prog v = .ok (.string (tx a.c ++ ⟨#[47]⟩ ++ tx a.m ++ ⟨#[47]⟩)) v := fun v => run_string_add_sum v _ _ (by show _ + 1 ≤ _; omega)
  have a4 : ∀ v, (Op.stringOp .add (tx a.c ++ ⟨#[47]⟩ ++ tx a.m ++ ⟨#[47]⟩) (tx a.p)).run Tryd.prog v = .ok (.string (textR a)) v := fun v => run_string_add_sum v _ _ (by omega)
  have H := Lib.hid ha
  clear ha t0 t1 t2 s1 s2 s3
  obtain ⟨w0, hw0⟩ : ∃ v, w.alloc (.cells #[.int .i64 a.c, .int .i64 a.m, .int .i64 a.p] 23) = v := ⟨_, rfl⟩
  have X := Lib.hid (show w0.heap[w.heap.size]? = some (.cells #[.int .i64 a.c, .int .i64 a.m, .int .i64 a.p] 23 (0, 0)) by rw [← hw0]; exact heap_alloc_new w _)
  have B0 := Lib.hid (show Below w.heap.size w w0 by rw [← hw0]; go_grown)
  go_enter Tryd.func18, Tryd.ntmps18
  go_wp2_with fail
  clear hw0
  refine Slt.wp_region (by kernel_rfl) (FT a w.heap.size) (fun _ v => Below w0.heap.size w0 v) (by kernel_rfl) (Below.drew (Below.refl _ _)) ?_ ?_
  · refine ⟨?_, ?_, ?_, ?_, ?_, ?_, ?_, ?_, ?_, ?_, ?_, ?_, ?_, ?_, trivial⟩
    · intro s a_ u hs hd hfr hpo hJ
      have f0 : a_.tmps.getD 1 undef = .pointer (some ⟨w.heap.size, 0, none⟩) := hfr 1 (by kernel_rfl)
      refine .inl ⟨rfl, ?_⟩
      unfold Oper.wp
      rw [show (execOp a_.eval _).run Tryd.prog u = .ok (.value (.pointer (some ⟨w.heap.size, 0, none⟩))) u from by simp [go_sem, Act.eval, f0]]
      exact ⟨_, rfl, rfl, hJ⟩
    · intro s a_ u hs hd hfr hpo hJ
      have e1 : a_.tmps.getD 3 undef = .pointer (some ⟨w.heap.size, 0, none⟩) := hpo 0 3 (by kernel_rfl)
      have cx : u.cell? ⟨w.heap.size, 0, none⟩ = some (.int .i64 a.c) := cell_of ((hJ.block _ (lt_of_at X.out)).trans X.out) 0 rfl
      refine .inl ⟨rfl, ?_⟩
      unfold Oper.wp
      rw [show (execOp a_.eval _).run Tryd.prog u = .ok (.value (.int .i64 a.c)) u from by simp [go_sem, Act.eval, e1, cx]]
      exact ⟨_, rfl, rfl, hJ⟩
    · intro s a_ u hs hd hfr hpo hJ
      have e1 : a_.tmps.getD 4 undef = .int .i64 a.c := hpo 1 4 (by kernel_rfl)
      refine .inl ⟨rfl, ?_⟩
      unfold Oper.wp
      rw [show (execOp a_.eval _).run Tryd.prog u = .ok (.enter 40 #[.int .i64 a.c]) u from by simp [go_sem, Act.eval, e1]]
      refine Calls.mono (NumRefText.refText_any a.c u hb0.1 hb0.2) ?_
      rintro e u2 ⟨rfl, hb⟩
      exact ⟨_, rfl, rfl, hJ.trans (hb.mono hJ.size)⟩
    · intro s a_ u hs hd hfr hpo hJ
      have e0 : a_.tmps.getD 5 undef = .string (tx a.c) := hpo 2 5 (by kernel_rfl)
      refine .inl ⟨rfl, ?_⟩
      unfold Oper.wp
      rw [show (execOp a_.eval _).run Tryd.prog u = .ok (.value (.string (tx a.c ++ ⟨#[47]⟩))) u from by simp [go_sem, Act.eval, e0, a1]]
      exact ⟨_, rfl, rfl, hJ⟩
    · intro s a_ u hs hd hfr hpo hJ
      have f0 : a_.tmps.getD 1 undef = .pointer (some ⟨w.heap.size, 0, none⟩) := hfr 1 (by kernel_rfl)
      refine .inl ⟨rfl, ?_⟩
      unfold Oper.wp
      rw [show (execOp a_.eval _).run Tryd.prog u = .ok (.value (.pointer (some ⟨w.heap.size, 1, none⟩))) u from by simp [go_sem, Act.eval, f0]]
      exact ⟨_, rfl, rfl, hJ⟩
    · intro s a_ u hs hd hfr hpo hJ
      have e1 : a_.tmps.getD 7 undef = .pointer (some ⟨w.heap.size, 1, none⟩) := hpo 4 7 (by kernel_rfl)
      have cx : u.cell? ⟨w.heap.size, 1, none⟩ = some (.int .i64 a.m) := cell_of ((hJ.block _ (lt_of_at X.out)).trans X.out) 1 rfl
      refine .inl ⟨rfl, ?_⟩
      unfold Oper.wp
      rw [show (execOp a_.eval _).run Tryd.prog u = .ok (.value (.int .i64 a.m)) u from by simp [go_sem, Act.eval, e1, cx]]
      exact ⟨_, rfl, rfl, hJ⟩
    · intro s a_ u hs hd hfr hpo hJ
      have e1 : a_.tmps.getD 8 undef = .int .i64 a.m := hpo 5 8 (by kernel_rfl)
      refine .inl ⟨rfl, ?_⟩
      unfold Oper.wp
      rw [show (execOp a_.eval _).run Tryd.prog u = .ok (.enter 40 #[.int .i64 a.m]) u from by simp [go_sem, Act.eval, e1]]
      refine Calls.mono (NumRefText.refText_any a.m u hb1.1 hb1.2) ?_
      rintro e u2 ⟨rfl, hb⟩
      exact ⟨_, rfl, rfl, hJ.trans (hb.mono hJ.size)⟩
    · intro s a_ u hs hd hfr hpo hJ
      have e0 : a_.tmps.getD 6 undef = .string (tx a.c ++ ⟨#[47]⟩) := hpo 3 6 (by kernel_rfl)
      have e1 : a_.tmps.getD 9 undef = .string (tx a.m) := hpo 6 9 (by kernel_rfl)
      refine .inl ⟨rfl, ?_⟩
      unfold Oper.wp
      rw [show (execOp a_.eval _).run Tryd.prog u = .ok (.value (.string (tx a.c ++ ⟨#[47]⟩ ++ tx a.m))) u from by simp [go_sem, Act.eval, e0, e1, a2]]
      exact ⟨_, rfl, rfl, hJ⟩
    · intro s a_ u hs hd hfr hpo hJ
      have e0 : a_.tmps.getD 10 undef = .string (tx a.c ++ ⟨#[47]⟩ ++ tx a.m) := hpo 7 10 (by kernel_rfl)
      refine .inl ⟨rfl, ?_⟩
      unfold Oper.wp
      rw [show (execOp a_.eval _).run Tryd.prog u = .ok (.value (.string (tx a.c ++ ⟨#[47]⟩ ++ tx a.m ++ ⟨#[47]⟩))) u from by simp [go_sem, Act.eval, e0, a3]]
      exact ⟨_, rfl, rfl, hJ⟩
    · intro s a_ u hs hd hfr hpo hJ
      have f0 : a_.tmps.getD 1 undef = .pointer (some ⟨w.heap.size, 0, none⟩) := hfr 1 (by kernel_rfl)
      refine .inl ⟨rfl, ?_⟩
      unfold Oper.wp
      rw [show (execOp a_.eval _).run Tryd.prog u = .ok (.value (.pointer (some ⟨w.heap.size, 2, none⟩))) u from by simp [go_sem, Act.eval, f0]]
      exact ⟨_, rfl, rfl, hJ⟩
    · intro s a_ u hs hd hfr hpo hJ
      have e1 : a_.tmps.getD 12 undef = .pointer (some ⟨w.heap.size, 2, none⟩) := hpo 9 12 (by kernel_rfl)
      have cx : u.cell? ⟨w.heap.size, 2, none⟩ = some (.int .i64 a.p) := cell_of ((hJ.block _ (lt_of_at X.out)).trans X.out) 2 rfl
      refine .inl ⟨rfl, ?_⟩
      unfold Oper.wp
      rw [show (execOp a_.eval _).run Tryd.prog u = .ok (.value (.int .i64 a.p)) u from by simp [go_sem, Act.eval, e1, cx]]
      exact ⟨_, rfl, rfl, hJ⟩
    · intro s a_ u hs hd hfr hpo hJ
      have e1 : a_.tmps.getD 13 undef = .int .i64 a.p := hpo 10 13 (by kernel_rfl)
      refine .inl ⟨rfl, ?_⟩
      unfold Oper.wp
      rw [show (execOp a_.eval _).run Tryd.prog u = .ok (.enter 40 #[.int .i64 a.p]) u from by simp [go_sem, Act.eval, e1]]
      refine Calls.mono (NumRefText.refText_any a.p u hb2.1 hb2.2) ?_
      rintro e u2 ⟨rfl, hb⟩
      exact ⟨_, rfl, rfl, hJ.trans (hb.mono hJ.size)⟩
    · intro s a_ u hs hd hfr hpo hJ
      have e0 : a_.tmps.getD 11 undef = .string (tx a.c ++ ⟨#[47]⟩ ++ tx a.m ++ ⟨#[47]⟩) := hpo 8 11 (by kernel_rfl)
      have e1 : a_.tmps.getD 14 undef = .string (tx a.p) := hpo 11 14 (by kernel_rfl)
      refine .inl ⟨rfl, ?_⟩
      unfold Oper.wp
      rw [show (execOp a_.eval _).run Tryd.prog u = .ok (.value (.string (textR a))) u from by simp [go_sem, Act.eval, e0, e1, a4]]
      exact ⟨_, rfl, rfl, hJ⟩
    · intro s a_ u hs hd hfr hpo hJ
      have e0 : a_.tmps.getD 15 undef = .string (textR a) := hpo 12 15 (by kernel_rfl)
      refine .inl ⟨rfl, ?_⟩
      unfold Oper.wp
      rw [show (execOp a_.eval _).run Tryd.prog u = .ok (.value (.string (textR a))) u from by simp [go_sem, Act.eval, e0]]
      exact ⟨_, rfl, rfl, hJ⟩
  · intro s V u hall hF hJ
    have e13 : V 13 = .string (textR a) := hF 13 _ _ rfl rfl
    have B2 := Lib.hid (B0.out.trans (hJ.mono B0.out.size))
    clear hall hF hJ
    simp only [Bxs.puts, Nat.reduceAdd, put_none, put_lit, List.set_cons_succ, List.set_cons_zero]
    rw [e13]
    go_wp2_with fail
    go_ret
    exact ⟨rfl, B2.out⟩
end Re
end Go.Proofs.YtpllcnpmjnmcfaaDoor
