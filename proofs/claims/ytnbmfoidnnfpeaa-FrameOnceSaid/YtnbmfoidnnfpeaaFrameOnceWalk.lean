/-
  FrameOnce: whatever bytes come, in whatever pieces, once an error has closed it nothing comes any more. No condition.
-/
import Derived.Test.YtnbmfoidnnfpeaaFrameWorks
import Derived.Test.YtnbmfoidnnfpeaaLists
namespace Go.Proofs.Ytnbmfoidnnfpeaa
open Go.ChangeShapes Go.WideShapes Go.ChangeAt Go.RowKit Go.Lib
open FramePure
namespace FrameOnceWalk
open Spl Lists

/-- the loop's head: the splitter, closed or not; how many errors there were -/
structure At (w : World) (g : Nat) (wr : World) (r : Option Nat) (cl : Bool) (xs : List UInt8) (n : Nat) : Prop where
  sp : Sp wr g r cl xs
  below : Below w.heap.size w wr
  low : w.heap.size ≤ g
  one : n ≤ 1
  none : cl = false → n = 0

theorem At.step {w : World} {g : Nat} {wr w' : World} {r r' : Option Nat} {cl cl' : Bool} {xs xs' : List UInt8} {n n' : Nat} (h : At w g wr r cl xs n) (hs : Sp w' g r' cl' xs') (ht : Turned g r wr w') (h1 : n' ≤ 1) (h2 : cl' = false → n' = 0) : At w g w' r' cl' xs' n' :=
  ⟨hs, h.below.trans (ht.below h.below.size h.low (fun q hq => by have := (h.sp.row hq).1; have := h.low; omega)), h.low, h1, h2⟩

theorem ret_one {n : Nat} (h : n ≤ 1) : Ending.returned (.bool (decide ((n : Int) ≤ 1))) = .returned (.bool true) := by rw [decide_eq_true (by omega)]

theorem open_e (xs : List UInt8) : nextE false xs = 0 ∨ nextE false xs = 2 ∨ nextE false xs = 6 := by
  rcases nextE_values false xs with h | h | h | h
  · exact .inl h
  · exact .inr (.inl h)
  · exact .inr (.inr h)
  · unfold nextE at h
    split at h
    · simp at *
    · split at h
      · simp at h
      · split at h
        · simp at h
        · split at h <;> simp at h

set_option maxRecDepth 100000 in
set_option maxHeartbeats 4000000 in
theorem law (A : Option Addr) (cap : Nat) (l : List ByteArray) (hlen : l.length ≤ 9223372036854775807) (w : World) (hT : Texts w A l) :
    Calls Try.prog 5 #[.slice A l.length cap] w fun e w' => e = .returned (.bool true) ∧ Below w.heap.size w w' := by
  have HT := Lib.hid hT
  clear hT
  obtain ⟨K, hK1, hK2, hK3⟩ : ∃ K, K ≤ l.length ∧ K ≤ 60 ∧ (K = l.length ∨ (K = 60 ∧ K < l.length)) := by
    by_cases h : l.length ≤ 60
    · exact ⟨l.length, by omega, h, .inl rfl⟩
    · exact ⟨60, by omega, by omega, .inr ⟨rfl, by omega⟩⟩
  have HK := Lib.hid hK3
  clear hK3
  have hlen' : (l.length : Int) ≤ 9223372036854775807 := by omega
  clear hlen
  go_enter Try.func5, Try.ntmps5
  go_wp2_with fail
  refine (works_any w).mono ?_
  rintro e w1 ⟨rfl, hb1⟩
  have B1 := Lib.hid hb1
  clear hb1
  go_wp2_with fail
  refine (new_any w1).mono ?_
  rintro e w2 ⟨rfl, h2, hb2, z2⟩
  obtain ⟨g, hg⟩ : ∃ g, w1.heap.size = g := ⟨_, rfl⟩
  rw [hg] at h2 z2 ⊢
  have H0 := Lib.hid (show At w g w2 none false [] 0 from ⟨h2, B1.out.trans (hb2.mono B1.out.size), by rw [← hg]; exact B1.out.size, by omega, fun _ => rfl⟩)
  clear h2 hb2 z2 hg B1
  go_wp2_with fail
  go_loopw [4, 5] (fun e i wr => ∃ (k n : Nat) (r : Option Nat) (cl : Bool) (xs : List UInt8), k ≤ K ∧ i = .int .i64 k ∧ e = .int .i64 n ∧ Hid (At w g wr r cl xs n)) (fun _ i _ => K - (RowKit.intOf i).toNat)
  case atStart => exact ⟨0, 0, none, false, [], Nat.zero_le _, rfl, rfl, H0.out⟩
  case round =>
    obtain ⟨k, n, r, cl, xs, hk, rfl, rfl, HA⟩ := hrel
    have hn1 : n ≤ 1 := HA.out.one
    by_cases hlt : k < K
    · have hkl : k < l.length := by omega
      have hk60 : (k : Int) < 60 := by omega
      have hkn : (k : Int) < (l.length : Int) := by omega
      obtain ⟨a, rfl, ha, hc⟩ := HT.out.at hkl
      obtain ⟨s, hs⟩ : ∃ s, l[k] = s := ⟨_, rfl⟩
      rw [hs] at hc
      clear hs
      have hc' := (HA.out.below.cell (p := a.add k) (by rw [add_block]; exact ha)).trans hc
      have HC := Lib.hid hc
      have HL := Lib.hid ha
      clear hc ha
      by_cases h9 : 9000 < s.size
      · go_wp2
        go_ret
        exact ⟨rfl, HA.out.below⟩
      · go_wp2_with fail
        refine (closed_any g r cl xs wr HA.out.sp).mono ?_
        rintro e w4 ⟨rfl, rfl⟩
        cases cl with
        | true =>
          go_wp2_with fail
          refine (feed_closed g r xs s wr HA.out.sp).mono ?_
          rintro e w4 ⟨rfl, rfl⟩
          go_wp2_with fail
          refine (next_closed g r xs wr HA.out.sp).mono ?_
          rintro e w4 ⟨rfl, rfl⟩
          have hx : xs = [] := HA.out.sp.2.1 rfl
          subst hx
          go_wp2_with fail
          refine (left_any g r true [] wr HA.out.sp).mono ?_
          rintro e w4 ⟨rfl, rfl⟩
          go_wp2_with fail
          refine (closed_any g r true [] wr HA.out.sp).mono ?_
          rintro e w4 ⟨rfl, rfl⟩
          go_wp2_with fail
          go_roundw
          case rel => exact ⟨k + 1, n, r, true, [], by omega, by go_num, rfl, HA.out⟩
          case measure => simp [RowKit.intOf]; omega
        | false =>
          obtain rfl : n = 0 := HA.out.none rfl
          by_cases hf : 8192 < xs.length + s.size
          · go_wp2_with fail
            refine (feed_long g r xs s (by omega) hf wr HA.out.sp).mono ?_
            rintro e w4 ⟨rfl, h4, t4⟩
            have A4 := Lib.hid (show At w g w4 none true [] 1 from HA.out.step h4 t4.some_of_none (by omega) (fun e => by cases e))
            clear h4 t4 hc'
            go_wp2_with fail
            refine (next_closed g none [] w4 A4.out.sp).mono ?_
            rintro e w5 ⟨rfl, rfl⟩
            go_wp2_with fail
            refine (closed_any g none true [] w4 A4.out.sp).mono ?_
            rintro e w5 ⟨rfl, rfl⟩
            go_wp2_with fail
            go_roundw
            case rel => exact ⟨k + 1, 1, none, true, [], by omega, by go_num, rfl, A4.out⟩
            case measure => simp [RowKit.intOf]; omega
          · go_wp2_with fail
            refine (feed_room g r xs s (by omega) wr HA.out.sp).mono ?_
            rintro e w4 ⟨rfl, r4, h4, _, t4⟩
            obtain ⟨ys, hys⟩ : ∃ ys, xs ++ s.data.toList = ys := ⟨_, rfl⟩
            rw [hys] at h4
            have A4 := Lib.hid (show At w g w4 r4 false ys 0 from HA.out.step h4 t4 (by omega) (fun _ => rfl))
            clear h4 t4 hc' hys
            go_wp2_with fail
            refine (next_any g r4 false ys w4 A4.out.sp).mono ?_
            rintro e w5 ⟨rfl, r5, h5, _, t5⟩
            have hT5 := nextT_len false ys
            obtain ⟨t, ht⟩ : ∃ t : ByteArray, (⟨(nextT false ys).toArray⟩ : ByteArray) = t := ⟨_, rfl⟩
            have hts : t.size ≤ 2048 := by rw [← ht]; show (nextT false ys).toArray.size ≤ 2048; rw [List.size_toArray]; exact hT5
            rw [ht]
            clear ht hT5
            rcases open_e ys with he | he | he
            · have A5 := Lib.hid (show At w g w5 r5 false (nextL false ys) 0 from by rw [show nextC false ys = false by simp [nextC, he]] at h5; exact A4.out.step h5 t5 (by omega) (fun _ => rfl))
              clear h5 t5
              rw [he]
              go_wp2_with fail
              refine (closed_any g r5 false _ w5 A5.out.sp).mono ?_
              rintro e w6 ⟨rfl, rfl⟩
              go_wp2_with fail
              go_roundw
              case rel => exact ⟨k + 1, 0, r5, false, _, by omega, by go_num, rfl, A5.out⟩
              case measure => simp [RowKit.intOf]; omega
            · have A5 := Lib.hid (show At w g w5 r5 true (nextL false ys) 1 from by rw [show nextC false ys = true by simp [nextC, he]] at h5; exact A4.out.step h5 t5 (by omega) (fun e => by cases e))
              clear h5 t5
              rw [he]
              go_wp2_with fail
              refine (closed_any g r5 true _ w5 A5.out.sp).mono ?_
              rintro e w6 ⟨rfl, rfl⟩
              go_wp2_with fail
              go_roundw
              case rel => exact ⟨k + 1, 1, r5, true, _, by omega, by go_num, rfl, A5.out⟩
              case measure => simp [RowKit.intOf]; omega
            · have A5 := Lib.hid (show At w g w5 r5 false (nextL false ys) 0 from by rw [show nextC false ys = false by simp [nextC, he]] at h5; exact A4.out.step h5 t5 (by omega) (fun _ => rfl))
              clear h5 t5
              rw [he]
              go_wp2_with fail
              refine (closed_any g r5 false _ w5 A5.out.sp).mono ?_
              rintro e w6 ⟨rfl, rfl⟩
              go_wp2_with fail
              go_roundw
              case rel => exact ⟨k + 1, 0, r5, false, _, by omega, by go_num, rfl, A5.out⟩
              case measure => simp [RowKit.intOf]; omega
    · rcases HK.out with h | ⟨h, h'⟩
      · have hkn : ¬ (k : Int) < (l.length : Int) := by omega
        go_wp2
        go_ret
        exact ⟨ret_one hn1, HA.out.below⟩
      · have hkn : (k : Int) < (l.length : Int) := by omega
        have hk60 : ¬ (k : Int) < 60 := by omega
        go_wp2
        go_ret
        exact ⟨ret_one hn1, HA.out.below⟩
end FrameOnceWalk
end Go.Proofs.Ytnbmfoidnnfpeaa
