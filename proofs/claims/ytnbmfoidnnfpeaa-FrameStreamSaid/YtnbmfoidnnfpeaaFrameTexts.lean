/-
  The contract of the law's list of all texts that are whole: the texts, in order, in a list of its own. No condition.
-/
import Derived.Test.YtnbmfoidnnfpeaaFrameAll
namespace Go.Proofs.Ytnbmfoidnnfpeaa
open Go.ChangeShapes Go.WideShapes Go.ChangeAt Go.RowKit Go.Lib
open FramePure RangeTurns
namespace Spl

attribute [local go_sem] Oper.semAt_some

theorem info_text : (Try.prog.info? 9).map (fun i => (i.zero, i.size, i.bytes)) = some (some (.string ⟨#[]⟩), 1, 16) := by kernel_rfl

theorem all_any (g : Nat) (w : World) :
    Calls Try.prog 18 #[.pointer (some ⟨g, 0, none⟩)] w fun e w' => e = .returned (.func (.func 20) #[] #[.pointer (some ⟨w.heap.size, 0, none⟩)]) ∧ w' = w.alloc (.cells #[.pointer (some ⟨g, 0, none⟩)] 31) := by
  go_enter Try.func18, Try.ntmps18
  go_wp2
  go_ret
  exact ⟨rfl, rfl⟩

/-- a text in memory -/
def txt (t : List UInt8) : Value := .string ⟨t.toArray⟩

/-- between two rounds: what came lies in the list -/
def Held (w : World) (g : Nat) (r : Option Nat) (bo bx : Nat) (pre : List (List UInt8)) (W : World) : Prop :=
  (∃ v, Boxed W bo 29 v ∧ W.ownsRow w.heap.size 9 1 v pre.length (pre.map txt)) ∧ Boxed W bx 31 (.pointer (some ⟨g, 0, none⟩)) ∧ Turned g r w W

structure Low (w : World) (g : Nat) (r : Option Nat) : Prop where
  lt : g < w.heap.size
  row : ∀ q, r = some q → q < w.heap.size

theorem held_turned {w : World} {g : Nat} {r : Option Nat} {bo bx : Nat} (hl : Low w g r) (ho : w.heap.size ≤ bo) (hx : w.heap.size ≤ bx) (pre : List (List UInt8)) (A B : World) (h : Held w g r bo bx pre A) (ht : Turned g r A B) : Held w g r bo bx pre B := by
  obtain ⟨⟨v, hv, hr⟩, hb, h0⟩ := h
  have hlt := hl.lt
  have key : ∀ k, w.heap.size ≤ k → k < A.heap.size → B.heap[k]? = A.heap[k]? := fun k hk hk2 => ht.block k hk2 (by omega) (fun e => by have := hl.row k e.symm; omega)
  exact ⟨⟨v, (key bo ho hv.lt).trans hv, owns_of hr (fun q hq => key q (owns_lt hr hq).1 (owns_lt hr hq).2)⟩, (key bx hx hb.lt).trans hb, h0.trans ht (.inl rfl)⟩

theorem put_other {W : World} {l k : Nat} {o o' ok : Obj} (hl : W.heap[l]? = some o) (ho : o.isCells = false) (hk : W.heap[k]? = some ok) (hc : ok.isCells = true) : (W.putObj l o').heap[k]? = W.heap[k]? := by
  refine World.putObj_heap_other (fun e => ?_)
  subst e
  rw [hk] at hl
  injection hl with hl
  rw [← hl, hc] at ho
  cases ho

theorem held_books {w w2 : World} {g : Nat} {r : Option Nat} {bo bx : Nat} (hs : w.heap.size ≤ w2.heap.size) : Books w2.heap.size (Held w g r bo bx) := by
  intro pre W l o o' h hle hlo hoc
  obtain ⟨⟨v, hv, hr⟩, hb, h0⟩ := h
  refine ⟨⟨v, (put_other hlo hoc hv rfl).trans hv, ownsRow_putObj hr _ hlo hoc⟩, (put_other hlo hoc hb rfl).trans hb, ⟨h0.os, h0.tape, h0.output, by rw [World.putObj_size]; exact h0.size, fun k hk hg hn => (World.putObj_heap_other (by omega)).trans (h0.block k hk hg hn)⟩⟩

theorem stop_books {w2 : World} {g : Nat} {r : Option Nat} {xs0 : List UInt8} (hl : Low w2 g r) : Books w2.heap.size (Stop g r xs0) := by
  intro pre W l o o' h hle hlo hoc
  obtain ⟨xs, r', h1, h2, h3, h4⟩ := h
  have hlt := hl.lt
  refine ⟨xs, r', h1, h2, h3.keep (World.putObj_heap_other (by omega)) (fun q hq => World.putObj_heap_other ?_), h4⟩
  rcases h4 with rfl | rfl
  · have := hl.row q hq; omega
  · cases hq
set_option maxRecDepth 100000 in
set_option maxHeartbeats 2000000 in
theorem texts_any (g : Nat) (r : Option Nat) (xs0 : List UInt8) (w : World) (hs : Sp w g r false xs0) :
    Calls Try.prog 13 #[.pointer (some ⟨g, 0, none⟩)] w fun e w' => ∃ v pre, e = .returned v ∧ w'.ownsRow w.heap.size 9 1 v pre.length (pre.map txt) ∧ Stop g r xs0 pre w' ∧ Turned g r w w' := by
  have hlow : Low w g r := ⟨hs.lt, fun q hq => (hs.row hq).2⟩
  obtain ⟨i0, hi, hz0, hz1, hz2⟩ := info_parts info_text
  refine (callsIn_wide (n := 2)).1 ?_
  refine callsIn_of_wp_marks Try.func13 rfl trivial ?_ rfl
  simp only [Try.ntmps13, List.size_toArray, List.length_cons, List.length_nil, Nat.reduceAdd, Nat.reduceSub, Array.replicate_succ, Array.replicate_zero, List.push_toArray, List.append_toArray, List.nil_append, List.cons_append]
  gi_wp2_with fail
  refine ⟨trivial, (callsIn_wide.2 (all_any g _)).mono ?_⟩
  rintro e w2 ⟨rfl, rfl⟩
  have heq : ∀ (a : Addr) (v : World), (binOp BinOp.eql 46 (Value.func (Fn.func 20) #[] #[Value.pointer (some a)]) Value.nilFunc).run Try.prog v = .ok (.bool false) v := fun a v => by kernel_rfl
  gi_wp2
  clear heq
  have bO := Boxed.new w 29 (.slice none 0 0)
  have bX := Boxed.new (w.alloc (.cells #[.slice none 0 0] 29)) 31 (.pointer (some ⟨g, 0, none⟩))
  rw [World.size_alloc] at bX
  have hB0 : Below w.heap.size w ((w.alloc (.cells #[.slice none 0 0] 29)).alloc (.cells #[.pointer (some ⟨g, 0, none⟩)] 31)) := ((Below.refl _ w).alloc (Nat.le_refl _) _).alloc (by simp) _
  have bO2 := bO.alloc (.cells #[.pointer (some ⟨g, 0, none⟩)] 31)
  obtain ⟨w2, hw2⟩ : ∃ w2, (w.alloc (.cells #[.slice none 0 0] 29)).alloc (.cells #[.pointer (some ⟨g, 0, none⟩)] 31) = w2 := ⟨_, rfl⟩
  have hz : w2.heap.size = w.heap.size + 2 := by rw [← hw2]; simp
  rw [hw2] at bX hB0 bO2 ⊢
  clear hw2 bO
  have hlow2 : Low w2 g r := ⟨by have := hlow.lt; omega, fun q hq => by have := hlow.row q hq; omega⟩
  have hs2 : Sp w2 g r false xs0 := hs.below hB0
  refine wpIn_rangeFunc_turns (gf := 20) (lb := #[.pointer (some ⟨w.heap.size + 1, 0, none⟩)]) rfl (enters_of Try.func20 (by kernel_rfl) rfl)
    (all_gives g r (w.heap.size + 1) xs0 w2 hs2 bX) (fun _ => rfl) ?stp (fun h k => Kp.trans h k) ?kb (stop_books hlow2)
    (Held w g r w.heap.size (w.heap.size + 1)) (held_turned hlow (Nat.le_refl _) (Nat.le_succ _)) (held_books (by omega)) ?start
    (fun x => { tmps := #[.pointer (some ⟨g, 0, none⟩), undef, .slice none 0 0, .pointer (some ⟨w.heap.size, 0, none⟩), .func (.func 20) #[] #[.pointer (some ⟨w.heap.size + 1, 0, none⟩)], Value.string ⟨x.toArray⟩, .pointer (some ⟨g, 0, none⟩), .func (.func 20) #[] #[.pointer (some ⟨w.heap.size + 1, 0, none⟩)],
      .func (.func 20) #[] #[.pointer (some ⟨w.heap.size + 1, 0, none⟩)], .bool false, .func (.func 20) #[] #[.pointer (some ⟨w.heap.size + 1, 0, none⟩)], Value.string ⟨x.toArray⟩, undef, undef, undef, undef, undef], defers := [] }) ?assign ?body ?done
  case stp =>
    intro A B k o ht hk ho
    have := hlow2.lt
    exact (ht.block k (lt_of_block ho) (by omega) (fun e => by have := hlow2.row k e.symm; omega)).trans ho
  case kb =>
    intro W l o' hle k hk
    refine World.putObj_heap_other (fun e => ?_)
    subst e
    have := hlow2.lt
    rcases hk with rfl | hk | rfl
    · omega
    · have := hlow2.row _ hk; omega
    · omega
  case start =>
    intro W hW
    refine ⟨⟨_, (hW.block _ bO2.lt).trans bO2, World.ownsRow_nil _ _ _ _⟩, (hW.block _ bX.lt).trans bX, Turned.of_below (hB0.trans (hW.mono (by omega)))⟩
  case assign =>
    intro l x W K hK
    gi_wp2
    exact hK
  case body =>
    rintro l pre x W ⟨⟨v, hv, hrow⟩, hx, ht⟩ hlt
    have hc := hv.cell
    have hsz := ht.size
    gi_wp2_with (gi_at_builtin; refine wpListIn_append_own _ rfl _ _ 29 rfl w.heap.size 9 i0 (.string ⟨#[]⟩) 1 16 Try.underlying29 hi hz0 hz1 hz2 rfl (by decide) _ _ _ rfl (hrow.alloc _) ⟨W.heap.size, 0, none⟩ 1 1 [.string ⟨x.toArray⟩] rfl rfl (cell_one_new _ _ _) (by simp [Value.oneCell']) (by unfold maxLen; omega) (by omega) (by simp; omega) ?_; intro v' w1 hown' hgrow _; obtain ⟨g', cap', rfl⟩ := ownsRow_succ hown'; obtain ⟨hv1, hv2, hr2, hk2, hb2⟩ := hv.appended (by decide) hrow hsz (Nat.le_refl _) hown' hgrow; have hc1 := hv1.cell; have hf1 := hv1.frozen)
    have hx1 : Boxed w1 (w.heap.size + 1) 31 (.pointer (some ⟨g, 0, none⟩)) := (hx.alloc _).kept hgrow (hx.not_row (by decide) hrow)
    have hx2 := hx1.kept (grownBy_setCell' w1 w.heap.size (.slice (some ⟨g', 0, none⟩) (pre.length + 1) cap')) (by simp)
    have hlt2 := hlow.lt
    refine ⟨hk2.from _, ?_, ⟨⟨_, by simpa using hv2, by simpa [txt] using hr2⟩, hx2, ⟨hb2.os.trans ht.os, hb2.tape.trans ht.tape, hb2.output.trans ht.output, Nat.le_trans hsz hb2.size, fun k hk hg hn => (hb2.block k hk).trans (ht.block k hk hg hn)⟩⟩⟩

    intro k hk
    rcases hk with rfl | hk | rfl
    · exact hb2.block _ hlt2
    · exact hb2.block _ (hlow.row k hk)
    · exact hx2.trans hx.symm
  case done =>
    rintro D ys W hD hS ⟨⟨v, hv, hrow⟩, hx, ht⟩ hK
    have hc := hv.cell
    gi_wp2
    refine ⟨by simp, .inl ⟨_, _, rfl, run_takeDeferred hK, ?_⟩⟩
    refine ⟨_, results_tmp rfl _ _ _, v, ys, rfl, ownsRow_putObj hrow _ hK rfl, stop_books hlow2 _ _ _ _ _ hS hD hK rfl, ht.os, ht.tape, ht.output, by rw [World.putObj_size]; exact ht.size, fun k hk hg hn => ?_⟩
    exact (World.putObj_heap_other (by omega)).trans (ht.block k hk hg hn)
end Spl
end Go.Proofs.Ytnbmfoidnnfpeaa
