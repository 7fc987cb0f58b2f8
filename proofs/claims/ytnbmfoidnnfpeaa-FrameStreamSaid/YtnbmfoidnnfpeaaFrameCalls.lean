/-
  The contracts of a splitter's calls New, Close, Closed, Left and Feed, as the chapter says. Condition: what is fed has at most 2^47 bytes.
-/
import Derived.Test.YtnbmfoidnnfpeaaFrameState
import Derived.Test.YtnbmfoidnnfpeaaFramePure
namespace Go.Proofs.Ytnbmfoidnnfpeaa
open Go.ChangeShapes Go.WideShapes Go.ChangeAt Go.RowKit Go.Lib
open FramePure
namespace Spl

theorem new_any (w : World) : Calls Try.prog 9 #[] w fun e w' => e = .returned (.pointer (some ⟨w.heap.size, 0, none⟩)) ∧ Sp w' w.heap.size none false [] ∧ Below w.heap.size w w' ∧ w'.heap.size = w.heap.size + 1 := by
  go_enter Try.func9, Try.ntmps9
  go_wp2
  go_ret
  refine ⟨rfl, ⟨by simp, by simp, none, 0, ?_, World.ownsRow_nil _ _ _ _, rfl⟩, (Below.refl _ _).alloc (Nat.le_refl _) _, by simp⟩
  exact heap_alloc_new w _

theorem closed_any (g : Nat) (r : Option Nat) (cl : Bool) (xs : List UInt8) (w : World) (h : Sp w g r cl xs) :
    Calls Try.prog 15 #[.pointer (some ⟨g, 0, none⟩)] w fun e w' => e = .returned (.bool cl) ∧ w = w' := by
  obtain ⟨_, _, A, cap, h1, _⟩ := h
  obtain ⟨c0, c1, f0, f1⟩ := two_cells h1
  clear h1 c0 f0 f1
  go_enter Try.func15, Try.ntmps15
  go_wp2
  go_ret
  exact ⟨rfl, rfl⟩

theorem left_any (g : Nat) (r : Option Nat) (cl : Bool) (xs : List UInt8) (w : World) (h : Sp w g r cl xs) :
    Calls Try.prog 14 #[.pointer (some ⟨g, 0, none⟩)] w fun e w' => e = .returned (.int .i64 xs.length) ∧ w = w' := by
  obtain ⟨_, _, A, cap, h1, _⟩ := h
  obtain ⟨c0, c1, f0, f1⟩ := two_cells h1
  clear h1 c1 f0 f1
  go_enter Try.func14, Try.ntmps14
  go_wp2
  go_ret
  exact ⟨rfl, rfl⟩

theorem close_any (g : Nat) (r : Option Nat) (cl : Bool) (xs : List UInt8) (w : World) (h : Sp w g r cl xs) :
    Calls Try.prog 17 #[.pointer (some ⟨g, 0, none⟩)] w fun e w' => e = .returned (.tuple #[]) ∧ Sp w' g none true [] ∧ Turned g none w w' := by
  obtain ⟨_, _, A, cap, h1, _⟩ := h
  have H1 := Lib.hid h1
  obtain ⟨c0, c1, f0, f1⟩ := two_cells h1
  clear h1
  go_enter Try.func17, Try.ntmps17
  go_wp2
  go_end0
  refine ⟨rfl, ⟨by simp, by simp, none, 0, ?_, World.ownsRow_nil _ _ _ _, rfl⟩, ((Turned.refl g none w).setCell (p := ⟨g, 0, none⟩) (.inl rfl) _).setCell (p := ⟨g, 1, none⟩) (.inl rfl) _⟩
  exact two_set1 (two_set0 H1.out _) _

theorem feed_closed (g : Nat) (r : Option Nat) (xs : List UInt8) (s : ByteArray) (w : World) (h : Sp w g r true xs) :
    Calls Try.prog 12 #[.pointer (some ⟨g, 0, none⟩), .string s] w fun e w' => e = .returned (.int .i64 400) ∧ w = w' := by
  obtain ⟨_, _, A, cap, h1, _⟩ := h
  obtain ⟨c0, c1, f0, f1⟩ := two_cells h1
  clear h1 c0 f0 f1
  go_enter Try.func12, Try.ntmps12
  go_wp2
  go_ret
  exact ⟨rfl, rfl⟩

theorem feed_long (g : Nat) (r : Option Nat) (xs : List UInt8) (s : ByteArray) (hs : s.size ≤ 140737488355328) (hl : 8192 < xs.length + s.size) (w : World) (h : Sp w g r false xs) :
    Calls Try.prog 12 #[.pointer (some ⟨g, 0, none⟩), .string s] w fun e w' => e = .returned (.int .i64 2) ∧ Sp w' g none true [] ∧ Turned g none w w' := by
  have H := Lib.hid h
  have hx := h.len
  obtain ⟨_, _, A, cap, h1, _⟩ := h
  obtain ⟨c0, c1, f0, f1⟩ := two_cells h1
  clear h1 f0 f1
  go_enter Try.func12, Try.ntmps12
  go_wp2_with fail
  refine (close_any g r false xs w H.out).mono ?_
  rintro e w' ⟨rfl, h2, h3⟩
  have H2 := Lib.hid h2
  have H3 := Lib.hid h3
  clear h2 h3 c0 c1
  go_wp2
  go_ret
  exact ⟨rfl, H2.out, H3.out⟩

set_option maxRecDepth 20000 in
theorem feed_room (g : Nat) (r : Option Nat) (xs : List UInt8) (s : ByteArray) (hl : xs.length + s.size ≤ 8192) (w : World) (h : Sp w g r false xs) :
    Calls Try.prog 12 #[.pointer (some ⟨g, 0, none⟩), .string s] w fun e w' => e = .returned (.int .i64 0) ∧
      ∃ r', Sp w' g r' false (xs ++ s.data.toList) ∧ (r' = r ∨ r' = some w.heap.size) ∧ Turned g r w w' := by
  have hlt := h.lt
  have hx := h.len
  obtain ⟨h0, h4, A, cap, h1, h2, h3⟩ := h
  have H1 := Lib.hid h1
  have H2 := Lib.hid h2
  have H3 := Lib.hid h3
  have HL := Lib.hid hlt
  have HS := Lib.hid hl
  have hz : xs.length + s.size ≤ 140737488355328 := by omega
  obtain ⟨c0, c1, f0, f1⟩ := two_cells h1
  clear h0 h1 h2 h3 h4
  go_enter Try.func12, Try.ntmps12
  go_wp2_with (at_builtin; refine wpList_append_str rfl _ _ _ _ rfl (g + 1) 5 Try.t5 Try.underlying23 Try.underlying9 (by kernel_rfl) (by kernel_rfl) (by kernel_rfl) (by kernel_rfl) _ xs.length (xs.map cell8) rfl H2.out s rfl hz HL.out ?_)
  intro A' cap' w1 hown hgrow hwh
  have hne : ∀ q, (Value.slice A xs.length cap).ownBlock = some q → g + 1 ≤ q ∧ q < w.heap.size := fun q hq => owns_lt H2.out hq
  have hg1 : w1.heap[g]? = w.heap[g]? := hgrow.block g HL.out (fun e => by have := (hne g e.symm).1; omega)
  have hcell : w1.heap[g]? = some (.cells #[.slice A xs.length cap, .bool false] 44 (0, 0)) := hg1.trans H1.out
  obtain ⟨d0, d1, e0, e1⟩ := two_cells hcell
  have HO := Lib.hid hown
  have HG := Lib.hid hgrow
  have HW := Lib.hid hwh
  have HC := Lib.hid hcell
  clear hown hgrow hwh hg1 hcell hne c0 c1 f0 f1 d1 e1
  go_wp2
  go_ret
  have hll : (xs ++ s.data.toList).length = xs.length + s.size := by simp
  refine ⟨rfl, (Value.slice A' (xs.length + s.size) cap').ownBlock, ⟨by rw [hll]; exact HS.out, by simp, A', cap', ?_, ?_, by rw [hll]⟩, ?_, ?_⟩
  · rw [hll]; exact two_set0 HC.out _
  · rw [hll, List.map_append, ← strCells_cell8]
    exact owns_of HO.out (fun q hq => Below.heap_setCell _ _ _ _ (by have := (owns_lt HO.out hq).1; show q ≠ g; omega))
  · rcases HW.out with e | e
    · exact .inl (e.trans H3.out)
    · exact .inr e
  · refine Turned.setCell (p := ⟨g, 0, none⟩) ?_ (.inl rfl) _
    exact ⟨HG.out.os, HG.out.tape, HG.out.output, HG.out.size, fun k hk _ hr => HG.out.block k hk (by rw [H3.out]; exact hr)⟩

/-- FEED -/
theorem feed_any (g : Nat) (r : Option Nat) (cl : Bool) (xs : List UInt8) (s : ByteArray) (hs : s.size ≤ 140737488355328) (w : World) (h : Sp w g r cl xs) :
    Calls Try.prog 12 #[.pointer (some ⟨g, 0, none⟩), .string s] w fun e w' => e = .returned (.int .i64 (feedE cl xs.length s.size)) ∧
      ∃ r', Sp w' g r' (feedC cl xs.length s.size) (feedL cl xs s.data.toList) ∧ (r' = r ∨ r' = none ∨ r' = some w.heap.size) ∧ Turned g r w w' := by
  cases cl with
  | true =>
    refine (feed_closed g r xs s w h).mono ?_
    rintro e w' ⟨rfl, rfl⟩
    exact ⟨rfl, r, h, .inl rfl, Turned.refl _ _ _⟩
  | false =>
    by_cases hl : 8192 < xs.length + s.size
    · refine (feed_long g r xs s hs hl w h).mono ?_
      rintro e w' ⟨rfl, h1, h2⟩
      refine ⟨by simp [feedE, hl], none, ?_, .inr (.inl rfl), h2.some_of_none⟩
      rw [show feedC false xs.length s.size = true by simp [feedC, hl], show feedL false xs s.data.toList = [] by simp [feedL, hl]]
      exact h1
    · refine (feed_room g r xs s (by omega) w h).mono ?_
      rintro e w' ⟨rfl, r', h1, h2, h3⟩
      refine ⟨by simp [feedE, hl], r', ?_, ?_, h3⟩
      · rw [show feedC false xs.length s.size = false by simp [feedC]; omega, show feedL false xs s.data.toList = xs ++ s.data.toList by simp [feedL]; omega]
        exact h1
      · rcases h2 with h2 | h2
        · exact .inl h2
        · exact .inr (.inr h2)
end Spl
end Go.Proofs.Ytnbmfoidnnfpeaa
