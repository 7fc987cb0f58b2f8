/-
  The ports of an owner, rising: a table ranged over, what is the owner's gathered. What was there is left as it was. Condition: the table is one (Tb).
-/
import Derived.Test.YtgnfpcacpcnanaaPtTake
set_option linter.unusedVariables false
set_option linter.unusedSimpArgs false
namespace Go.Proofs.Ytgnfpcacpcnanaa
open Go.ChangeShapes Go.WideShapes Go.ChangeAt Go.RowKit Go.Lib
open Lists
namespace Pt

attribute [local go_sem] Oper.semAt_some

theorem kk_own {α : Type} {K : Nat → Prop} {B : Nat} {w1 : World} (hc : ∀ k, K k → ∃ o : Obj, w1.heap[k]? = some o ∧ o.isCells = true) : OwnFrom B (fun (_ : α) W => Kk K w1 W) := by
  intro s A A' row h hg hr
  refine ⟨Nat.le_trans h.1 hg.size, fun k hk => ?_⟩
  obtain ⟨o, ho, hco⟩ := hc k hk
  have e := h.2 k hk
  refine (hg.block k (Nat.lt_of_lt_of_le (lt_of_block ho) h.1) ?_).trans e
  rintro rfl
  obtain ⟨_, o', ho', hc'⟩ := hr k rfl
  rw [e, ho] at ho'
  injection ho' with ho'
  subst ho'
  rw [hco] at hc'
  cases hc'
theorem kk_append {K : Nat → Prop} {W w1 : World} {bx : Nat} {v v' : Value} {tmp : Obj} (hk : ∀ k, K k → k < W.heap.size ∧ k ≠ bx ∧ some k ≠ v.ownBlock) (hg : (W.alloc tmp).grownBy w1 v.ownBlock) : Kk K W (w1.setCell ⟨bx, 0, none⟩ v') := by
  have hs := hg.size
  rw [World.size_alloc] at hs
  refine ⟨by simp [World.setCell]; omega, fun k hk' => ?_⟩
  obtain ⟨h1, h2, h3⟩ := hk k hk'
  exact (Below.heap_setCell _ _ _ _ h2).trans ((hg.block k (by rw [World.size_alloc]; omega) h3).trans (Below.heap_alloc _ _ k h1))
theorem Kk.less {K K' : Nat → Prop} {A B : World} (h : Kk K A B) (hk : ∀ k, K' k → K k) : Kk K' A B := ⟨h.1, fun k hk' => h.2 k (hk k hk')⟩
theorem held_snoc (pre : Tab) (x : Int × Int) (o : Int) : heldL (pre ++ [x]) o = if x.2 = o then heldL pre o ++ [x.1] else heldL pre o := by
  unfold heldL
  rw [List.filter_append, List.map_append]
  split <;> rename_i h <;> simp [h]
theorem held_length (l : Tab) (o : Int) : (heldL l o).length ≤ l.length := by
  unfold heldL
  rw [List.length_map]
  exact List.length_filter_le _ _
/-- the iterator's blocks hold cells, of another type than a list of numbers -/
theorem it_cells {w : World} {b B n c : Nat} {A : Option Addr} {xs : List Value} (hb : w.heap[b]? = some (.cells #[.slice A n c] 46 (0, 0))) (hr : w.ownsRow B 59 2 (.slice A n c) n xs) (k : Nat) (hk : It b (.slice A n c) k) :
    ∃ cur t, w.heap[k]? = some (.cells cur t (0, 0)) ∧ t ≠ 3 := by
  rcases hk with rfl | he
  · exact ⟨_, _, hb, by decide⟩
  · obtain ⟨_, cur, hc⟩ := owns_at hr he
    exact ⟨cur, _, hc, by decide⟩
set_option maxRecDepth 100000 in
set_option maxHeartbeats 2000000 in
theorem held_in {B g : Nat} {l : Tab} (o : Int) (w : World) (h : Tb B w g l) (hl : l.length ≤ 100000) :
    CallsIn Fence.wide 5 Try.prog 14 #[.pointer (some ⟨g, 0, none⟩), .int .i64 o] w fun e w' => ∃ A' c', e = .returned (.slice A' (heldL l o).length c') ∧ w'.ownsRow w.heap.size 3 1 (.slice A' (heldL l o).length c') (heldL l o).length ((heldL l o).map (Value.int .i64)) ∧ Below w.heap.size w w' := by
  obtain ⟨i0, hi, hz0, hz1, hz2⟩ := info_parts info_in
  obtain ⟨u, hu⟩ : ∃ u, (w.alloc (.cells #[.int .i64 o] 3)).alloc (.cells #[.slice none 0 0] 26) = u := ⟨_, rfl⟩
  have hus : u.heap.size = w.heap.size + 1 + 1 := by rw [← hu]; simp
  have hBu : Below w.heap.size w u := by rw [← hu]; exact ((Below.refl _ _).alloc (Nat.le_refl _) _).alloc (by simp) _
  have hob : Boxed u w.heap.size 3 (.int .i64 o) := by rw [← hu]; exact (Boxed.new w 3 (.int .i64 o)).alloc _
  have hpb : Boxed u (w.heap.size + 1) 26 (.slice none 0 0) := by rw [← hu]; have := Boxed.new (w.alloc (.cells #[.int .i64 o] 3)) 26 (.slice none 0 0); rwa [World.size_alloc] at this
  have hal := callsIn_wide (n := 4) |>.2 (allIt_any u (h.below hBu) hl)
  clear h
  refine callsIn_of_wp_marks Try.func14 rfl trivial ?_ rfl
  simp only [Try.ntmps14, List.size_toArray, List.length_cons, List.length_nil, Nat.reduceAdd, Nat.reduceSub, Array.replicate_succ, Array.replicate_zero, List.push_toArray, List.append_toArray, List.nil_append, List.cons_append]
  have HU := Lib.hid hu
  have HUS := Lib.hid hus
  have HBU := Lib.hid hBu
  have HOB := Lib.hid hob
  have HPB := Lib.hid hpb
  clear hu hus hBu hob hpb
  gi_wp2_with (refine ⟨trivial, ?_⟩; gi_at_call 26; rw [HU.out]; refine hal.mono ?_; clear hal; rintro e w1 ⟨b, A, c, rfl, hge, hbx, hrow, hbb⟩)
  have hob := HOB.out.kept (row := none) ⟨hbb.os, hbb.tape, hbb.output, hbb.size, fun k hk _ => hbb.block k hk⟩ (by simp)
  have hpb := HPB.out.kept (row := none) ⟨hbb.os, hbb.tape, hbb.output, hbb.size, fun k hk _ => hbb.block k hk⟩ (by simp)
  have hb1 : Below w.heap.size w w1 := HBU.out.trans (hbb.mono (by rw [HUS.out]; omega))
  have hsz1 : w.heap.size + 1 + 1 ≤ w1.heap.size := by have := hbb.size; rw [HUS.out] at this; exact this
  have hblt := lt_of_block hbx
  have hKlt : ∀ k, (It b (.slice A l.length c) k ∨ k = w.heap.size) → k ≠ w.heap.size + 1 ∧ k < w1.heap.size := by
    rintro k ((rfl | he) | rfl)
    · rw [HUS.out] at hge; exact ⟨by omega, hblt⟩
    · obtain ⟨h1, cur, hc⟩ := owns_at hrow he
      rw [HUS.out] at h1
      exact ⟨by omega, lt_of_block hc⟩
    · exact ⟨by omega, by omega⟩
  have hKc : ∀ k, (It b (.slice A l.length c) k ∨ k = w.heap.size) → ∃ o : Obj, w1.heap[k]? = some o ∧ o.isCells = true := by
    rintro k (hk | rfl)
    · obtain ⟨cur, t, hc, _⟩ := it_cells hbx hrow k hk; exact ⟨_, hc, rfl⟩
    · exact ⟨_, hob, rfl⟩
  refine wpIn_rangeFunc_ownG rfl (by omega) (gf := 38) (lb := #[.pointer (some ⟨b, 0, none⟩)]) rfl trivial (enters_of Try.func38 (by kernel_rfl) rfl)
    (all_stops 4 (by omega) b _ l A c w1 hbx hrow hl) Kk.trans (fun W l' o' o'' h => Kk.put (n := w1.heap.size) (fun k hk => (hKlt k (.inl hk)).2) W l' o' o'' h) (Below.refl _ _) (fun _ => rfl)
    (fun (pre : Tab) W => ((∃ v, Boxed W (w.heap.size + 1) 26 v ∧ W.ownsRow w1.heap.size 3 1 v (heldL pre o).length ((heldL pre o).map (Value.int .i64)) ∧ True) ∧ Below w.heap.size w W) ∧ Kk (fun k => It b (.slice A l.length c) k ∨ k = w.heap.size) w1 W)
    (fun _ _ _ => False)
    (OwnFrom.and (OwnFrom.and (Own.from (holdsRow_own w1.heap.size (w.heap.size + 1) 26 3 1 (fun pre : Tab => (heldL pre o).length) (fun pre : Tab => (heldL pre o).map (Value.int .i64)) (fun _ _ => True)) _) (ownFrom_below (Nat.le_refl _) (by omega)))
      (kk_own hKc))
    (fun _ _ _ _ _ hs _ _ => hs)
    ⟨⟨⟨_, hpb, World.ownsRow_nil _ _ _ _, trivial⟩, hb1⟩, Kk.refl _ _⟩
    (fun x => { tmps := #[.pointer (some ⟨g, 0, none⟩), .int .i64 o, undef, .pointer (some ⟨w.heap.size, 0, none⟩), .slice none 0 0, .pointer (some ⟨w.heap.size + 1, 0, none⟩), .int .i64 x.1, .int .i64 x.2, .pointer (some ⟨g, 0, none⟩), .func (.func 38) #[] #[.pointer (some ⟨b, 0, none⟩)], .int .i64 x.1, .int .i64 x.2, undef, undef, undef, undef, undef, undef, undef, undef], defers := [] }) ?assign ?body ?done ?stop
  case assign =>
    intro l x W K hK
    gi_wp2
    exact hK
  case body =>
    rintro l0 pre x W ⟨⟨⟨v, hv, hrw, _⟩, hB⟩, hKK⟩ hlt
    have hc := hv.cell
    have hco : W.cell? ⟨w.heap.size, 0, none⟩ = some (.int .i64 o) := (World.cell?_of_block (hKK.2 _ (.inr rfl))).trans hob.cell
    have hw1W := hKK.1
    have hpl := held_length pre o
    have hsn := held_snoc pre x o
    by_cases hxo : x.2 = o
    · have hxo' : (x.2 == o) = true := by simpa using hxo
      rw [if_pos hxo] at hsn
      clear hxo
      gi_wp2_with (gi_at_builtin; refine wpListIn_append_own _ rfl _ _ 26 rfl w1.heap.size 3 i0 (.int .i64 0) 1 8 Try.underlying26 hi hz0 hz1 hz2 rfl (by decide) v _ _ rfl (hrw.alloc _) ⟨W.heap.size, 0, none⟩ 1 1 [.int .i64 x.1] rfl rfl (cell_one_new _ _ _) (by simp [Value.oneCell']) (by unfold maxLen; omega) (by omega) (by simp; omega) ?_; intro v' w2 hown' hgrow _; obtain ⟨g', cap', rfl⟩ := ownsRow_succ hown'; obtain ⟨hv1, hv2, _, hk2, hb2⟩ := hv.appended (by decide) (owns_base hrw (show w.heap.size ≤ w1.heap.size by omega)) hB.size (by omega) (owns_base hown' (show w.heap.size ≤ w1.heap.size by omega)) hgrow; have hr2 := hown'.kept (grownBy_setCell' w2 (w.heap.size + 1) (.slice (some ⟨g', 0, none⟩) ((heldL pre o).length + 1) cap')) (.inr (hv1.not_row (by decide) hown').symm); have hc1 := hv1.cell; have hf1 := hv1.frozen)
      have hKW : ∀ k, (It b (.slice A l.length c) k ∨ k = w.heap.size) → k < W.heap.size ∧ k ≠ w.heap.size + 1 ∧ some k ≠ v.ownBlock := fun k hk => by
        obtain ⟨q1, q2⟩ := hKlt k hk
        refine ⟨by omega, q1, fun e => ?_⟩
        have := (owns_at hrw e.symm).1
        omega
      have hkk := kk_append (v' := .slice (some ⟨g', 0, none⟩) ((heldL pre o).length + 1) cap') hKW hgrow
      exact ⟨hk2.from _, hkk.less (fun k hk => .inl hk), ⟨⟨_, hv2, by rw [hsn]; simpa using hr2, trivial⟩, hB.trans hb2⟩, hKK.trans hkk⟩
    · have hxo' : (x.2 == o) = false := by simpa using hxo
      rw [if_neg hxo] at hsn
      clear hxo
      gi_wp2
      exact ⟨KeepsFrom.refl _ _, Kk.refl _ _, ⟨⟨v, hv, by rw [hsn]; exact hrw, trivial⟩, hB⟩, hKK⟩
  case done =>
    rintro D ys W hD rfl ⟨⟨⟨v, hv, hrw, _⟩, hB⟩, _⟩ hK
    have hc := hv.cell
    gi_wp2
    refine ⟨by simp, .inl ⟨_, _, rfl, run_takeDeferred hK, ?_⟩⟩
    obtain ⟨A', c', rfl⟩ := own_form hrw
    exact ⟨_, results_tmp rfl _ _ _, A', c', rfl, owns_base (ownsRow_putObj hrw _ hK rfl) (show w.heap.size ≤ w1.heap.size by omega), hB.trans (belowK_b (w := w) (Nat.le_refl _) W D _ _ (by omega) hK rfl rfl)⟩
  case stop =>
    rintro D c pre W _ _ h _
    exact h.elim
end Pt
end Go.Proofs.Ytgnfpcacpcnanaa
