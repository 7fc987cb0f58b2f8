/-
  The contract of a splitter's Next, as the chapter says. No condition.
-/
import Derived.Test.YtnbmfoidnnfpeaaFrameCalls
import Derived.Test.YtnbmfoidnnfpeaaFrameDelete
import Derived.Deep.QuietTactic
import Derived.BigQuiet
import Derived.Lib.EndianBits
import Derived.IntWalk
namespace Go.Proofs.Ytnbmfoidnnfpeaa
open Go.ChangeShapes Go.WideShapes Go.ChangeAt Go.RowKit Go.Lib
open FramePure
namespace Spl

theorem next_closed (g : Nat) (r : Option Nat) (xs : List UInt8) (w : World) (h : Sp w g r true xs) :
    Calls Try.prog 16 #[.pointer (some ⟨g, 0, none⟩)] w fun e w' => e = .returned (.tuple #[.string ⟨#[]⟩, .int .i64 400]) ∧ w = w' := by
  obtain ⟨_, _, A, cap, h1, _⟩ := h
  obtain ⟨c0, c1, f0, f1⟩ := two_cells h1
  clear h1 c0 f0 f1
  go_enter Try.func16, Try.ntmps16
  go_wp2
  go_ret2
  exact ⟨rfl, rfl⟩

theorem next_short (g : Nat) (r : Option Nat) (xs : List UInt8) (hl : xs.length < 2) (w : World) (h : Sp w g r false xs) :
    Calls Try.prog 16 #[.pointer (some ⟨g, 0, none⟩)] w fun e w' => e = .returned (.tuple #[.string ⟨#[]⟩, .int .i64 6]) ∧ w = w' := by
  obtain ⟨_, _, A, cap, h1, _⟩ := h
  obtain ⟨c0, c1, f0, f1⟩ := two_cells h1
  clear h1 f0 f1
  go_enter Try.func16, Try.ntmps16
  go_wp2
  go_ret2
  exact ⟨rfl, rfl⟩

/-- what stands at the front of the bytes of a splitter that has two at least -/
theorem Sp.head {w : World} {g : Nat} {r : Option Nat} {xs : List UInt8} (h : Sp w g r false xs) (hl : ¬ xs.length < 2) :
    ∃ q cap a b, w.heap[g]? = some (.cells #[.slice (some ⟨q, 0, none⟩) xs.length cap, .bool false] 44 (0, 0)) ∧ w.ownsRow (g + 1) 5 1 (.slice (some ⟨q, 0, none⟩) xs.length cap) xs.length (xs.map cell8) ∧ r = some q ∧
      w.cell? ⟨q, 0, none⟩ = some (.int .u8 ((a : Nat) : Int)) ∧ w.cell? ⟨q, 1, none⟩ = some (.int .u8 ((b : Nat) : Int)) ∧ xs.length ≤ cap ∧ bits BinOp.or .i64 ((a : Nat) : Int) (((b : Nat) : Int) * 256) = lenV xs ∧ a < 256 ∧ b < 256 := by
  obtain ⟨_, _, A, cap, h1, h2, h3⟩ := h
  obtain ⟨q, rfl⟩ : ∃ q, A = some ⟨q, 0, none⟩ := by
    rcases h2.2 with ⟨e, _⟩ | ⟨q, _, _, e, _⟩
    · injection e with e1 e2 e3; omega
    · injection e with e1 e2 e3; exact ⟨q, e1⟩
  obtain ⟨_, hnc, hcm, hbr, cur, hcur, hcs, hget⟩ := row_cell h2
  obtain ⟨a, b, rest, rfl⟩ : ∃ a b rest, xs = a :: b :: rest := by
    rcases xs with _ | ⟨a, _ | ⟨b, xs⟩⟩
    · simp at hl
    · simp at hl
    · exact ⟨a, b, xs, rfl⟩
  have hlen : (a :: b :: rest).length = rest.length + 2 := by simp
  have d0 : w.cell? ⟨q, 0, none⟩ = some (.int .u8 (a.toNat : Int)) := by
    rw [(cur_cell hcur 0 (by omega)).1]
    have := hget 0 (by simp)
    rwa [Array.getElem?_eq_getElem (by omega)] at this
  have d1 : w.cell? ⟨q, 1, none⟩ = some (.int .u8 (b.toNat : Int)) := by
    rw [(cur_cell hcur 1 (by omega)).1]
    have := hget 1 (by simp)
    rwa [Array.getElem?_eq_getElem (by omega)] at this
  have ha := a.toNat_lt
  have hb := b.toNat_lt
  refine ⟨q, cap, a.toNat, b.toNat, h1, h2, h3.symm, d0, d1, hnc, ?_, by omega, by omega⟩
  rw [bits_join_low .i64 16 (by decide) (fun n h0 h1 => IntWalk.i64_in _ (by omega)) 8 _ _ (by omega) (by omega) (by omega) (by omega) (by omega) (by omega)]
  simp [lenV]
  omega

set_option maxRecDepth 100000 in
theorem next_long (g : Nat) (r : Option Nat) (xs : List UInt8) (hl : ¬ xs.length < 2) (hv : 2048 < lenV xs) (w : World) (h : Sp w g r false xs) :
    Calls Try.prog 16 #[.pointer (some ⟨g, 0, none⟩)] w fun e w' => e = .returned (.tuple #[.string ⟨#[]⟩, .int .i64 2]) ∧ Sp w' g none true [] ∧ Turned g none w w' := by
  have H := Lib.hid h
  have hlv := lenV_le xs
  obtain ⟨q, cap, a, b, h1, h2, rfl, d0, d1, hnc, hbits, ha, hb⟩ := h.head hl
  obtain ⟨c0, c1, f0, f1⟩ := two_cells h1
  obtain ⟨n, hn⟩ : ∃ n, xs.length = n := ⟨_, rfl⟩
  obtain ⟨L, hL⟩ : ∃ L, lenV xs = L := ⟨_, rfl⟩
  rw [hn] at hl c0 hnc
  rw [hL] at hv hbits hlv
  have HN := Lib.hid hn
  have HL := Lib.hid hL
  clear h h1 h2 f0 f1 hn hL
  go_enter Try.func16, Try.ntmps16
  go_wp2_with fail
  go_quiet (fail)
  go_wp2_with fail
  refine (close_any g (some q) false xs _ (H.out.below (Kit.below_drewN _ _ _))).mono ?_
  rintro e w' ⟨rfl, h2, h3⟩
  have H2 := Lib.hid h2
  have H3 := Lib.hid h3
  clear h2 h3 c0 c1 d0 d1
  go_wp2
  go_ret2
  exact ⟨rfl, H2.out, (Turned.of_below (Kit.below_drewN _ _ _)).trans H3.out (.inl rfl)⟩

set_option maxRecDepth 100000 in
theorem next_part (g : Nat) (r : Option Nat) (xs : List UInt8) (hl : ¬ xs.length < 2) (hv : ¬ 2048 < lenV xs) (hp : xs.length < lenV xs + 2) (w : World) (h : Sp w g r false xs) :
    Calls Try.prog 16 #[.pointer (some ⟨g, 0, none⟩)] w fun e w' => e = .returned (.tuple #[.string ⟨#[]⟩, .int .i64 6]) ∧ Below w.heap.size w w' := by
  have hlv := lenV_le xs
  obtain ⟨q, cap, a, b, h1, h2, rfl, d0, d1, hnc, hbits, ha, hb⟩ := h.head hl
  obtain ⟨c0, c1, f0, f1⟩ := two_cells h1
  obtain ⟨n, hn⟩ : ∃ n, xs.length = n := ⟨_, rfl⟩
  obtain ⟨L, hL⟩ : ∃ L, lenV xs = L := ⟨_, rfl⟩
  rw [hn] at hl c0 hnc hp
  rw [hL] at hv hbits hlv hp
  clear h h1 h2 f0 f1 hn hL
  go_enter Try.func16, Try.ntmps16
  go_wp2_with fail
  go_quiet (fail)
  go_wp2
  go_ret2
  exact ⟨rfl, Kit.below_drewN _ _ _⟩

/-- the text of a frame, read out of the row -/
theorem run_text {w : World} {base q cap m : Nat} {xs : List UInt8} (h : w.ownsRow base 5 1 (.slice (some ⟨q, 0, none⟩) xs.length cap) xs.length (xs.map cell8)) (hm : m + 2 ≤ xs.length) :
    (if cap = 2 then (convert 23 9 (.slice (some ⟨q, 0, none⟩) m 0)).run Try.prog w else (convert 23 9 (.slice (some ⟨q, 2, none⟩) m (cap - 2))).run Try.prog w) = .ok (.string ⟨((xs.drop 2).take m).toArray⟩) w := by
  obtain ⟨_, hnc, hcm, hbr, cur, hcur, hcs, hget⟩ := row_cell h
  have key : ∀ o c, (∀ i, i < m → w.cell? ⟨q, o + i, none⟩ = some (cell8 (((xs.drop 2).take m).getD i 0))) → (convert 23 9 (.slice (some ⟨q, o, none⟩) m c)).run Try.prog w = .ok (.string ⟨((xs.drop 2).take m).toArray⟩) w := by
    intro o c hc
    have hlm : ((xs.drop 2).take m).length = m := by simp; omega
    have := run_convert_bytes_arg (P := Try.prog) w 23 5 Try.underlying23 Try.underlying5 q o m c (((xs.drop 2).take m).map (fun b => (b.toNat : Int))) (by rw [List.length_map, hlm])
      (fun i hi => by
        rw [hc i hi]
        have e : i < ((xs.drop 2).take m).length := by omega
        simp only [cell8, List.getD_eq_getElem?_getD, List.getElem?_map, List.getElem?_eq_getElem e, Option.map_some, Option.getD_some]) 9 Try.underlying9
    rw [this]
    congr 2
    unfold strOfNums
    have e : ((fun n : Int => UInt8.ofNat n.toNat) ∘ fun b : UInt8 => (b.toNat : Int)) = id := by funext b; simp
    rw [List.map_map, e, List.map_id]
  split
  · exact key 0 0 (fun i hi => by omega)
  · refine key 2 _ (fun i hi => ?_)
    rw [(cur_cell hcur (2 + i) (by omega)).1]
    have h1 := hget (2 + i) (by omega)
    rw [Array.getElem?_eq_getElem (by omega)] at h1
    rw [h1, List.getD_eq_getElem?_getD, List.getElem?_take_of_lt hi, List.getElem?_drop, List.getElem?_eq_getElem (by omega), Option.getD_some]

theorem next_end {w w1 w2 : World} {g q cap n k : Nat} {xs ys : List UInt8} (hw : w2 = w1.setCell ⟨g, 0, none⟩ (.slice (some ⟨q, 0, none⟩) ys.length cap)) (h : Sp w g (some q) false xs)
    (ho : w1.ownsRow (g + 1) 5 1 (.slice (some ⟨q, 0, none⟩) ys.length cap) ys.length (ys.map cell8)) (ht : Turned q none (w.drewN k) w1)
    (hc : w1.heap[g]? = some (.cells #[.slice (some ⟨q, 0, none⟩) n cap, .bool false] 44 (0, 0))) (hy : xs.length - (lenV xs + 2) = ys.length) :
    Sp w2 g (some q) false ys ∧ Turned g (some q) w w2 := by
  subst hw
  have := h.len
  refine ⟨⟨by omega, by simp, some ⟨q, 0, none⟩, cap, two_set0 hc _, owns_of ho (fun r hr => Below.heap_setCell _ _ _ _ ?_), rfl⟩, ?_⟩
  · have := (owns_lt ho hr).1
    show r ≠ g
    omega
  · refine Turned.setCell (p := ⟨g, 0, none⟩) ?_ (.inl rfl) _
    exact ⟨ht.os, ht.tape, ht.output, ht.size, fun i hi _ hr => ht.block i hi (fun e => hr (by rw [e])) (fun e => by cases e)⟩

set_option maxRecDepth 100000 in
theorem next_whole (g : Nat) (r : Option Nat) (xs : List UInt8) (hl : ¬ xs.length < 2) (hv : ¬ 2048 < lenV xs) (hp : ¬ xs.length < lenV xs + 2) (w : World) (h : Sp w g r false xs) :
    Calls Try.prog 16 #[.pointer (some ⟨g, 0, none⟩)] w fun e w' => e = .returned (.tuple #[.string ⟨((xs.drop 2).take (lenV xs)).toArray⟩, .int .i64 0]) ∧ Sp w' g r false (xs.drop (lenV xs + 2)) ∧ Turned g r w w' := by
  have H := Lib.hid h
  have hlv := lenV_le xs
  obtain ⟨q, cap, a, b, h1, h2, rfl, d0, d1, hnc, hbits, ha, hb⟩ := h.head hl
  have hlt := h.lt
  have hqg := (h.row rfl).1
  obtain ⟨c0, c1, f0, f1⟩ := two_cells h1
  have hrun : ∀ k, (if cap = 2 then (convert 23 9 (.slice (some ⟨q, 0, none⟩) (lenV xs) 0)).run Try.prog (w.drewN k) else (convert 23 9 (.slice (some ⟨q, 2, none⟩) (lenV xs) (cap - 2))).run Try.prog (w.drewN k)) = .ok (.string ⟨((xs.drop 2).take (lenV xs)).toArray⟩) (w.drewN k) :=
    fun k => run_text (w := w.drewN k) (base := g + 1) h2 (by omega)
  have HD : Hid (∀ k, Calls Try.prog 19 #[.slice (some ⟨q, 0, none⟩) xs.length cap, .int .i64 0, .int .i64 (2 + (lenV xs : Int))] (w.drewN k) fun e w' => e = .returned (.slice (some ⟨q, 0, none⟩) (xs.length - (lenV xs + 2)) cap) ∧
      w'.ownsRow (g + 1) 5 1 (.slice (some ⟨q, 0, none⟩) (xs.drop (lenV xs + 2)).length cap) (xs.drop (lenV xs + 2)).length ((xs.drop (lenV xs + 2)).map cell8) ∧ Turned q none (w.drewN k) w') :=
    fun k => by
      rw [show (2 + (lenV xs : Int)) = ((lenV xs + 2 : Nat) : Int) by omega]
      exact delete_any q (g + 1) cap (lenV xs + 2) xs (w.drewN k) h2 (by omega) (by omega)
  obtain ⟨t, ht⟩ : ∃ t : List UInt8, (xs.drop 2).take (lenV xs) = t := ⟨_, rfl⟩
  obtain ⟨ys, hys⟩ : ∃ ys : List UInt8, xs.drop (lenV xs + 2) = ys := ⟨_, rfl⟩
  have hyl : xs.length - (lenV xs + 2) = ys.length := by rw [← hys]; simp
  rw [ht] at hrun ⊢
  rw [hys, hyl] at HD
  rw [hys]
  obtain ⟨n, hn⟩ : ∃ n, xs.length = n := ⟨_, rfl⟩
  obtain ⟨L, hL⟩ : ∃ L, lenV xs = L := ⟨_, rfl⟩
  rw [hn] at hl c0 hnc hp HD
  rw [hL] at hv hbits hlv hp hrun HD
  have HN := Lib.hid hn
  have HY := Lib.hid hyl
  have H1 := Lib.hid h1
  have HT := Lib.hid hlt
  have HR := Lib.hid hrun
  have HLL := Lib.hid hL
  clear h h1 h2 hn hL hlt ht hys hyl hrun
  by_cases hcap : cap = 2
  · subst hcap
    have hrun2 := fun k => HR.out k
    simp only [if_true] at hrun2
    go_enter Try.func16, Try.ntmps16
    go_wp2_with fail
    go_quiet (fail)
    go_wp2_with fail
    refine (HD.out _).mono ?_
    rintro e w1 ⟨rfl, ho, ht⟩
    have hcell : w1.heap[g]? = some (.cells #[.slice (some ⟨q, 0, none⟩) xs.length 2, .bool false] 44 (0, 0)) := (ht.block g HT.out (by omega) (fun e => by cases e)).trans H1.out
    obtain ⟨e0, e1, e2, e3⟩ := two_cells hcell
    have HO := Lib.hid ho
    have HU := Lib.hid ht
    have HC := Lib.hid hcell
    clear ho ht hcell hrun2 c0 c1 d0 d1 e1 e3
    go_wp2
    go_ret2
    exact ⟨rfl, next_end rfl H.out HO.out HU.out HC.out HY.out⟩
  · have hrun2 := fun k => HR.out k
    simp only [if_neg hcap] at hrun2
    go_enter Try.func16, Try.ntmps16
    go_wp2_with fail
    go_quiet (fail)
    go_wp2_with fail
    refine (HD.out _).mono ?_
    rintro e w1 ⟨rfl, ho, ht⟩
    have hcell : w1.heap[g]? = some (.cells #[.slice (some ⟨q, 0, none⟩) xs.length cap, .bool false] 44 (0, 0)) := (ht.block g HT.out (by omega) (fun e => by cases e)).trans H1.out
    obtain ⟨e0, e1, e2, e3⟩ := two_cells hcell
    have HO := Lib.hid ho
    have HU := Lib.hid ht
    have HC := Lib.hid hcell
    clear ho ht hcell hrun2 c0 c1 d0 d1 e1 e3
    go_wp2
    go_ret2
    exact ⟨rfl, next_end rfl H.out HO.out HU.out HC.out HY.out⟩

/-- NEXT -/
theorem next_any (g : Nat) (r : Option Nat) (cl : Bool) (xs : List UInt8) (w : World) (h : Sp w g r cl xs) :
    Calls Try.prog 16 #[.pointer (some ⟨g, 0, none⟩)] w fun e w' => e = .returned (.tuple #[.string ⟨(nextT cl xs).toArray⟩, .int .i64 (nextE cl xs)]) ∧
      ∃ r', Sp w' g r' (nextC cl xs) (nextL cl xs) ∧ (r' = r ∨ r' = none) ∧ Turned g r w w' := by
  cases cl with
  | true =>
    have e := nextE_closed xs
    refine (next_closed g r xs w h).mono ?_
    rintro e' w' ⟨rfl, rfl⟩
    refine ⟨by simp [nextT, e], r, ?_, .inl rfl, Turned.refl _ _ _⟩
    rw [show nextC true xs = true by simp [nextC], show nextL true xs = xs by simp [nextL, e]]
    exact h
  | false =>
    by_cases h1 : xs.length < 2
    · have e := nextE_short h1
      refine (next_short g r xs h1 w h).mono ?_
      rintro e' w' ⟨rfl, rfl⟩
      refine ⟨by simp [nextT, e], r, ?_, .inl rfl, Turned.refl _ _ _⟩
      rw [(rest_state e).1, (rest_state e).2]
      exact h
    · by_cases h2 : 2048 < lenV xs
      · have e := nextE_long h1 h2
        refine (next_long g r xs h1 h2 w h).mono ?_
        rintro e' w' ⟨rfl, h3, h4⟩
        refine ⟨by simp [nextT, e], none, ?_, .inr rfl, h4.some_of_none⟩
        rw [show nextC false xs = true by simp [nextC, e], show nextL false xs = [] by simp [nextL, e]]
        exact h3
      · by_cases h3 : xs.length < lenV xs + 2
        · have e := nextE_part h1 h2 h3
          refine (next_part g r xs h1 h2 h3 w h).mono ?_
          rintro e' w' ⟨rfl, h4⟩
          refine ⟨by simp [nextT, e], r, ?_, .inl rfl, Turned.of_below h4⟩
          rw [(rest_state e).1, (rest_state e).2]
          exact h.below h4
        · have e := nextE_whole h1 h2 h3
          refine (next_whole g r xs h1 h2 h3 w h).mono ?_
          rintro e' w' ⟨rfl, h4, h5⟩
          refine ⟨by simp [nextT, e], r, ?_, .inl rfl, h5⟩
          rw [show nextC false xs = false by simp [nextC, e], show nextL false xs = xs.drop (lenV xs + 2) by simp [nextL, e]]
          exact h4
end Spl
end Go.Proofs.Ytnbmfoidnnfpeaa
