/-
  WireWrites: what is written of any values, or the first error, is as the document has it. No condition.
-/
import Derived.Test.YthffbhpoccdjcaaWireActs
import Derived.StillTailTactics
namespace Go.Proofs.Ythffbhpoccdjcaa
open Go.ChangeShapes Go.WideShapes Go.ChangeAt Go.RowKit Go.Lib
open LebMath WirePure
namespace WireWritesWalk
open Wire

/-- the loop's head: the error is c, and what is wanted is what was written, if there is none -/
structure At (w : World) (g : Nat) (wr : World) (c : Int) (want : List UInt8) (k : Nat) : Prop where
  wri : ∃ xs, Wr wr g (· < g) c xs ∧ (c = 0 → xs = want) ∧ xs.length ≤ k * 310
  below : Below w.heap.size w wr
  len : want.length ≤ k * 310

/-- the blocks that a round keeps -/
def Mine (g b : Nat) (k : Nat) : Prop := k < g ∨ k = b

theorem Box.kept {D : Nat → Prop} {w w' : World} {b : Nat} {x : Val} (h : Box w b x) (hb : D b) (hk : Kept D w w') : Box w' b x := (hk.block b hb).trans h

theorem Box.below {w w' : World} {b : Nat} {x : Val} (h : Box w b x) (hb : Below w.heap.size w w') : Box w' b x := (hb.block b h.lt).trans h

theorem At.next_add {w : World} {g b : Nat} {wr w6 : World} {c : Int} {want xs ys : List UInt8} {k : Nat} (h : At w g wr c want k) (hx : c = 0 → xs = want) (hl : xs.length ≤ k * 310) (hy : ys.length ≤ 310)
    (hw : Wr w6 g (Mine g b) c (addB c xs ys)) (hb : Below w.heap.size w w6) : At w g w6 c (want ++ ys) (k + 1) := by
  refine ⟨⟨_, hw.less (fun i hi => .inl hi), fun h0 => ?_, ?_⟩, hb, ?_⟩
  · subst h0
    rw [addB_no, hx rfl]
  · have := addB_len c xs ys
    omega
  · have := h.len
    rw [List.length_append]
    omega

theorem At.next_fail {w : World} {g b : Nat} {wr w6 : World} {c d : Int} {want xs : List UInt8} {k : Nat} (h : At w g wr c want k) (hx : c = 0 → xs = want) (hl : xs.length ≤ k * 310)
    (hw : Wr w6 g (Mine g b) (fst c d) xs) (hb : Below w.heap.size w w6) : At w g w6 (fst c d) want (k + 1) := by
  have hm : k * 310 ≤ (k + 1) * 310 := Nat.mul_le_mul_right 310 (Nat.le_succ k)
  refine ⟨⟨_, hw.less (fun i hi => .inl hi), fun h0 => ?_, Nat.le_trans hl hm⟩, hb, Nat.le_trans h.len hm⟩
  refine hx ?_
  by_cases hc : c = 0
  · exact hc
  · rw [fst_yes hc] at h0; exact h0

theorem add_run (a b : List UInt8) (h : a.length + b.length ≤ 100000) : ∀ v, (Op.stringOp .add ⟨a.toArray⟩ ⟨b.toArray⟩).run Try.prog v = .ok (.string ⟨(a ++ b).toArray⟩) v := fun v => by
  have e : ((⟨a.toArray⟩ : ByteArray) ++ ⟨b.toArray⟩) = ⟨(a ++ b).toArray⟩ := by
    apply ByteArray.ext
    apply Array.ext'
    simp
  rw [← e]
  refine run_string_add_sum v _ _ ?_
  show a.toArray.size + b.toArray.size ≤ _
  rw [List.size_toArray, List.size_toArray]
  omega


set_option maxRecDepth 100000 in
set_option maxHeartbeats 4000000 in
theorem law (A : Option Addr) (cap : Nat) (l : List Val) (hlen : l.length ≤ 9223372036854775807) (w : World) (hV : Vals w A l) :
    Calls Try.prog 3 #[.slice A l.length cap] w fun e w' => e = .returned (.bool true) ∧ Below w.heap.size w w' := by
  have HV := Lib.hid hV
  have HLE := Lib.hid hlen
  clear hV hlen
  obtain ⟨K, hK1, hK2, hK3⟩ : ∃ K, K ≤ l.length ∧ K ≤ 60 ∧ (K = l.length ∨ (K = 60 ∧ K < l.length)) := by
    by_cases h : l.length ≤ 60
    · exact ⟨l.length, by omega, h, .inl rfl⟩
    · exact ⟨60, by omega, by omega, .inr ⟨rfl, by omega⟩⟩
  have HK := Lib.hid hK3
  clear hK3
  go_enter Try.func3, Try.ntmps3
  go_wp2_with fail
  refine (write_any w).mono ?_
  rintro e w2 ⟨rfl, h2, hb2, z2⟩
  obtain ⟨g, hg⟩ : ∃ g, w.heap.size = g := ⟨_, rfl⟩
  have HG := Lib.hid (show w.heap.size ≤ g by omega)
  have H0 := Lib.hid (show At w g w2 0 [] 0 from ⟨⟨[], by rw [← hg]; exact h2, fun _ => rfl, by simp⟩, hb2, by simp⟩)
  rw [hg]
  clear hg h2 hb2 z2
  go_wp2_with fail
  go_loopw [4, 5, 6] (fun s c i wr => ∃ (k : Nat) (want : List UInt8) (d : Int), k ≤ K ∧ s = .string ⟨want.toArray⟩ ∧ c = .int .i64 d ∧ i = .int .i64 k ∧ Hid (At w g wr d want k)) (fun _ _ i _ => K - (RowKit.intOf i).toNat)
  case atStart => exact ⟨0, [], 0, Nat.zero_le _, rfl, rfl, rfl, H0.out⟩
  case round =>
    obtain ⟨k, want, d, hk, rfl, rfl, rfl, HA⟩ := hrel
    by_cases hlt : k < K
    · have hkl : k < l.length := by omega
      have hk60 : (k : Int) < 60 := by omega
      have hkn : (k : Int) < (l.length : Int) := by omega
      obtain ⟨x, hx⟩ : ∃ x, l[k]? = some x := ⟨l[k], List.getElem?_eq_getElem hkl⟩
      obtain ⟨hf, a, rfl, ha, hc⟩ := HV.out k x hx
      have hc' := hc.keep (HA.out.below.block _ (by rw [add_block]; exact ha))
      obtain ⟨c0, c1, c2, c3⟩ := hc'
      by_cases h300 : (300 : Int) < (x.s.size : Int)
      · have HB5 := Lib.hid (show Below w.heap.size w (wr.alloc (.cells #[.int .i64 x.kind, .int .i64 x.n, .int .u64 (x.big : Nat), .string x.s] 27)) from HA.out.below.alloc HA.out.below.size _)
        clear hx hf hc ha
        go_wp2_with fail
        refine (works_any _).mono ?_
        rintro e w6 ⟨rfl, hb6⟩
        have HB6 := Lib.hid (HB5.out.trans (hb6.mono HB5.out.size))
        clear hb6
        go_wp2_with fail
        go_ret
        exact ⟨rfl, HB6.out⟩
      · obtain ⟨xs, hw, hxs, hxl⟩ := HA.out.wri
        have HS := Lib.hid h300
        have HF := Lib.hid hf
        have HXS := Lib.hid hxs
        have HXL := Lib.hid hxl
        have HWL := Lib.hid (show want.length ≤ 18600 by have := HA.out.len; omega)
        have HXL2 := Lib.hid (show xs.length ≤ 18600 by omega)
        have HK5 := Lib.hid (show Below w.heap.size w (wr.alloc (.cells #[.int .i64 x.kind, .int .i64 x.n, .int .u64 (x.big : Nat), .string x.s] 27)) from HA.out.below.alloc HA.out.below.size _)
        obtain ⟨b, hbb⟩ : ∃ b, wr.heap.size = b := ⟨_, rfl⟩
        have HX5 := Lib.hid (show Box (wr.alloc (.cells #[.int .i64 x.kind, .int .i64 x.n, .int .u64 (x.big : Nat), .string x.s] 27)) b x by rw [← hbb]; exact heap_alloc_new wr _)
        have HW5 := Lib.hid (show Wr (wr.alloc (.cells #[.int .i64 x.kind, .int .i64 x.n, .int .u64 (x.big : Nat), .string x.s] 27)) g (Mine g b) d xs by rw [← hbb]; exact hw.alloc _)
        have HB5 := Lib.hid (show Below w.heap.size w (wr.alloc (.cells #[.int .i64 x.kind, .int .i64 x.n, .int .u64 (x.big : Nat), .string x.s] 27)) from HA.out.below.alloc HA.out.below.size _)
        have HBB := Lib.hid hbb
        clear hx hf hc ha hbb hw hxs hxl h300
        by_cases q0 : x.kind = 0
        · have e0 : (x.kind == 0) = true := beq_iff_eq.2 q0
          clear q0
          by_cases hn : x.n < 0
          · have hn1 : decide (x.n < 0) = true := decide_eq_true hn
            have hn2 : decide (0 ≤ x.n) = false := decide_eq_false (by omega)
            have hd := add_run want [] (by have := HWL.out; simp; omega)
            have HN := Lib.hid hn
            by_cases hd0 : d = 0
            · subst hd0
              clear hn
              go_wp2_with fail
              rw [HBB.out]
              generalize wr.alloc (.cells #[.int .i64 x.kind, .int .i64 x.n, .int .u64 (x.big : Nat), .string x.s] 27) = w5 at *
              refine (num_neg g (Mine g b) 0 xs x.n HN.out w5 HW5.out).mono ?_
              rintro e w6 ⟨rfl, h6, k6⟩
              have H6 := Lib.hid h6
              have K6 := Lib.hid k6
              have B6 := Lib.hid (HB5.out.trans (Kept.below k6 (fun i hi => .inl (Nat.lt_of_lt_of_le hi HG.out))))
              clear h6 k6
              obtain ⟨b0, b1, b2, b3⟩ := (Box.kept HX5.out (D := Mine g b) (.inr rfl) K6.out).cells
              go_wp2_with fail
              go_roundw
              case rel => exact ⟨k + 1, want, 1, by omega, rfl, rfl, by go_num, At.next_fail (c := 0) HA.out (fun _ => HXS.out trivial) HXL.out H6.out B6.out⟩
              case measure => simp [RowKit.intOf]; omega
            · have hd1 : (d == 0) = false := beq_eq_false_iff_ne.2 hd0
              have HD := Lib.hid (show fst d 1 = d from fst_yes hd0 1)
              clear hn hd0
              go_wp2_with fail
              rw [HBB.out]
              generalize wr.alloc (.cells #[.int .i64 x.kind, .int .i64 x.n, .int .u64 (x.big : Nat), .string x.s] 27) = w5 at *
              refine (num_neg g (Mine g b) d xs x.n HN.out w5 HW5.out).mono ?_
              rintro e w6 ⟨rfl, h6, k6⟩
              have H6 := Lib.hid h6
              have K6 := Lib.hid k6
              have B6 := Lib.hid (HB5.out.trans (Kept.below k6 (fun i hi => .inl (Nat.lt_of_lt_of_le hi HG.out))))
              clear h6 k6
              obtain ⟨b0, b1, b2, b3⟩ := (Box.kept HX5.out (D := Mine g b) (.inr rfl) K6.out).cells
              go_wp2_with fail
              go_roundw
              case rel => exact ⟨k + 1, want, d, by omega, rfl, rfl, by go_num, by have := At.next_fail HA.out HXS.out HXL.out H6.out B6.out; rwa [HD.out] at this⟩
              case measure => simp [RowKit.intOf]; omega
          · have hn1 : decide (x.n < 0) = false := decide_eq_false hn
            have hn2 : decide (0 ≤ x.n) = true := decide_eq_true (by omega)
            obtain ⟨n, hnn⟩ : ∃ n : Nat, x.n = (n : Int) := ⟨x.n.toNat, by omega⟩
            have HNN := Lib.hid hnn
            have HNL := Lib.hid (show n ≤ maxLen by have := HF.out.2.2.1; unfold maxLen; omega)
            have HNB := Lib.hid (show n < 18446744073709551616 by have := HF.out.2.2.1; omega)
            have HL10 := Lib.hid (leb_le_ten HNB.out)
            have hwn : IntKind.u64.wrap x.n = n := by rw [hnn]; exact IntWalk.u64_in _ (by have := HNB.out; omega)
            have hd := add_run want (leb n) (by have := HWL.out; have := HL10.out; omega)
            clear hn hnn
            go_wp2_with fail
            rw [HBB.out]
            generalize wr.alloc (.cells #[.int .i64 x.kind, .int .i64 x.n, .int .u64 (x.big : Nat), .string x.s] 27) = w5 at *
            rw [HNN.out]
            refine (num_nat g (Mine g b) d xs n HNL.out (fun _ => by have := HXL2.out; omega) w5 HW5.out).mono ?_
            rintro e w6 ⟨rfl, h6, k6⟩
            have H6 := Lib.hid h6
            have K6 := Lib.hid k6
            have B6 := Lib.hid (HB5.out.trans (Kept.below k6 (fun i hi => .inl (Nat.lt_of_lt_of_le hi HG.out))))
            clear h6 k6
            obtain ⟨b0, b1, b2, b3⟩ := (Box.kept HX5.out (D := Mine g b) (.inr rfl) K6.out).cells
            go_wp2_with fail
            refine (NumRefPut.refPut_any n w6 HNB.out).mono ?_
            rintro e w7 ⟨rfl, hb7⟩
            have H7 := Lib.hid (H6.out.below hb7)
            have B7 := Lib.hid (B6.out.trans (hb7.mono B6.out.size))
            clear hb7
            go_wp2_with fail
            go_roundw
            case rel => exact ⟨k + 1, want ++ leb n, d, by omega, rfl, rfl, by go_num, At.next_add HA.out HXS.out HXL.out (by have := HL10.out; omega) H7.out B7.out⟩
            case measure => simp [RowKit.intOf]; omega
        · have e0 : (x.kind == 0) = false := beq_eq_false_iff_ne.2 q0
          by_cases q1 : x.kind = 1
          · have e1 : (x.kind == 1) = true := beq_iff_eq.2 q1
            have HL10 := Lib.hid (leb_le_ten HF.out.2.2.2.2)
            have hd := add_run want (leb x.big) (by have := HWL.out; have := HL10.out; omega)
            clear q0 q1
            go_wp2_with fail
            rw [HBB.out]
            generalize wr.alloc (.cells #[.int .i64 x.kind, .int .i64 x.n, .int .u64 (x.big : Nat), .string x.s] 27) = w5 at *
            refine (big_any g (Mine g b) d xs x.big HF.out.2.2.2.2 (fun _ => by have := HXL2.out; omega) w5 HW5.out).mono ?_
            rintro e w6 ⟨rfl, h6, k6⟩
            have H6 := Lib.hid h6
            have K6 := Lib.hid k6
            have B6 := Lib.hid (HB5.out.trans (Kept.below k6 (fun i hi => .inl (Nat.lt_of_lt_of_le hi HG.out))))
            clear h6 k6
            obtain ⟨b0, b1, b2, b3⟩ := (Box.kept HX5.out (D := Mine g b) (.inr rfl) K6.out).cells
            go_wp2_with fail
            refine (NumRefPut.refPut_any x.big w6 HF.out.2.2.2.2).mono ?_
            rintro e w7 ⟨rfl, hb7⟩
            have H7 := Lib.hid (H6.out.below hb7)
            have B7 := Lib.hid (B6.out.trans (hb7.mono B6.out.size))
            clear hb7
            go_wp2_with fail
            go_roundw
            case rel => exact ⟨k + 1, want ++ leb x.big, d, by omega, rfl, rfl, by go_num, At.next_add HA.out HXS.out HXL.out (by have := HL10.out; omega) H7.out B7.out⟩
            case measure => simp [RowKit.intOf]; omega
          · have e1 : (x.kind == 1) = false := beq_eq_false_iff_ne.2 q1
            by_cases q2 : x.kind = 2
            · have e2 : (x.kind == 2) = true := beq_iff_eq.2 q2
              have HTX := Lib.hid (txB_len (s := x.s) (by have := HS.out; omega))
              have hd := add_run want (txB x.s) (by have := HWL.out; have := HTX.out; omega)
              clear q0 q1 q2
              go_wp2_with fail
              rw [HBB.out]
              generalize wr.alloc (.cells #[.int .i64 x.kind, .int .i64 x.n, .int .u64 (x.big : Nat), .string x.s] 27) = w5 at *
              refine (text_any g (Mine g b) d xs x.s (by have := HXL2.out; have := HS.out; omega) w5 HW5.out).mono ?_
              rintro e w6 ⟨rfl, h6, k6⟩
              have H6 := Lib.hid h6
              have K6 := Lib.hid k6
              have B6 := Lib.hid (HB5.out.trans (Kept.below k6 (fun i hi => .inl (Nat.lt_of_lt_of_le hi HG.out))))
              clear h6 k6
              obtain ⟨b0, b1, b2, b3⟩ := (Box.kept HX5.out (D := Mine g b) (.inr rfl) K6.out).cells
              go_wp2_with fail
              refine (bytes_ref x.s (by have := HS.out; omega) w6).mono ?_
              rintro e w7 ⟨rfl, hb7⟩
              have H7 := Lib.hid (H6.out.below hb7)
              have B7 := Lib.hid (B6.out.trans (hb7.mono B6.out.size))
              clear hb7
              go_wp2_with fail
              go_roundw
              case rel => exact ⟨k + 1, want ++ txB x.s, d, by omega, rfl, rfl, by go_num, At.next_add HA.out HXS.out HXL.out HTX.out H7.out B7.out⟩
              case measure => simp [RowKit.intOf]; omega
            · have e2 : (x.kind == 2) = false := beq_eq_false_iff_ne.2 q2
              by_cases q3 : x.kind = 3
              · have e3 : (x.kind == 3) = true := beq_iff_eq.2 q3
                clear q0 q1 q2 q3
                by_cases hn : 0 < x.n
                · have hn1 : decide (0 < x.n) = true := decide_eq_true hn
                  have hd := add_run want [1] (by have := HWL.out; simp; omega)
                  clear hn
                  go_wp2_with fail
                  rw [HBB.out]
                  generalize wr.alloc (.cells #[.int .i64 x.kind, .int .i64 x.n, .int .u64 (x.big : Nat), .string x.s] 27) = w5 at *
                  refine (bool_any g (Mine g b) d xs true (fun _ => by have := HXL2.out; omega) w5 HW5.out).mono ?_
                  rintro e w6 ⟨rfl, h6, k6⟩
                  have H6 := Lib.hid h6
                  have K6 := Lib.hid k6
                  have B6 := Lib.hid (HB5.out.trans (Kept.below k6 (fun i hi => .inl (Nat.lt_of_lt_of_le hi HG.out))))
                  clear h6 k6
                  obtain ⟨b0, b1, b2, b3⟩ := (Box.kept HX5.out (D := Mine g b) (.inr rfl) K6.out).cells
                  go_wp2_with fail
                  go_roundw
                  case rel => exact ⟨k + 1, want ++ [1], d, by omega, rfl, rfl, by go_num, At.next_add HA.out HXS.out HXL.out (by simp) H6.out B6.out⟩
                  case measure => simp [RowKit.intOf]; omega
                · have hn1 : decide (0 < x.n) = false := decide_eq_false hn
                  have hd := add_run want [0] (by have := HWL.out; simp; omega)
                  clear hn
                  go_wp2_with fail
                  rw [HBB.out]
                  generalize wr.alloc (.cells #[.int .i64 x.kind, .int .i64 x.n, .int .u64 (x.big : Nat), .string x.s] 27) = w5 at *
                  refine (bool_any g (Mine g b) d xs false (fun _ => by have := HXL2.out; omega) w5 HW5.out).mono ?_
                  rintro e w6 ⟨rfl, h6, k6⟩
                  have H6 := Lib.hid h6
                  have K6 := Lib.hid k6
                  have B6 := Lib.hid (HB5.out.trans (Kept.below k6 (fun i hi => .inl (Nat.lt_of_lt_of_le hi HG.out))))
                  clear h6 k6
                  obtain ⟨b0, b1, b2, b3⟩ := (Box.kept HX5.out (D := Mine g b) (.inr rfl) K6.out).cells
                  go_wp2_with fail
                  go_roundw
                  case rel => exact ⟨k + 1, want ++ [0], d, by omega, rfl, rfl, by go_num, At.next_add HA.out HXS.out HXL.out (by simp) H6.out B6.out⟩
                  case measure => simp [RowKit.intOf]; omega
              · have e3 : (x.kind == 3) = false := beq_eq_false_iff_ne.2 q3
                have hd := add_run want [] (by have := HWL.out; simp; omega)
                clear q0 q1 q2 q3
                by_cases hd0 : d = 0
                · subst hd0
                  go_wp2_with fail
                  rw [HBB.out]
                  generalize wr.alloc (.cells #[.int .i64 x.kind, .int .i64 x.n, .int .u64 (x.big : Nat), .string x.s] 27) = w5 at *
                  obtain ⟨b0, b1, b2, b3⟩ := HX5.out.cells
                  go_still_tail 5, (by kernel_rfl)
                  change wpList _ _ _ _ _ w5.drew
                  have HD6 := Lib.hid (show Below w5.heap.size w5 w5.drew from (Below.refl _ _).drew)
                  clear b0 b1 b2 b3
                  generalize w5.drew = w55 at *
                  go_wp2_with fail
                  refine (wfail_any g (Mine g b) 0 x.n xs w55 (HW5.out.below HD6.out)).mono ?_
                  rintro e w6 ⟨rfl, h6, k6⟩
                  have H6 := Lib.hid h6
                  have B6 := Lib.hid ((HB5.out.trans (HD6.out.mono HB5.out.size)).trans (Kept.below k6 (fun i hi => .inl (Nat.lt_of_lt_of_le hi HG.out))))
                  obtain ⟨b0, b1, b2, b3⟩ := (Box.kept (Box.below HX5.out HD6.out) (D := Mine g b) (.inr rfl) k6).cells
                  clear h6 k6
                  go_wp2_with fail
                  go_roundw
                  case rel => exact ⟨k + 1, want, x.n, by omega, rfl, rfl, by go_num, by have := At.next_fail (c := 0) HA.out (fun _ => HXS.out trivial) HXL.out H6.out B6.out; rwa [fst_no] at this⟩
                  case measure => simp [RowKit.intOf]; omega
                · have hd1 : (d == 0) = false := beq_eq_false_iff_ne.2 hd0
                  have HD := Lib.hid (show fst d x.n = d from fst_yes hd0 x.n)
                  clear hd0
                  go_wp2_with fail
                  rw [HBB.out]
                  generalize wr.alloc (.cells #[.int .i64 x.kind, .int .i64 x.n, .int .u64 (x.big : Nat), .string x.s] 27) = w5 at *
                  obtain ⟨b0, b1, b2, b3⟩ := HX5.out.cells
                  go_still_tail 5, (by kernel_rfl)
                  change wpList _ _ _ _ _ w5.drew
                  have HD6 := Lib.hid (show Below w5.heap.size w5 w5.drew from (Below.refl _ _).drew)
                  clear b0 b1 b2 b3
                  generalize w5.drew = w55 at *
                  go_wp2_with fail
                  refine (wfail_any g (Mine g b) d x.n xs w55 (HW5.out.below HD6.out)).mono ?_
                  rintro e w6 ⟨rfl, h6, k6⟩
                  have H6 := Lib.hid h6
                  have B6 := Lib.hid ((HB5.out.trans (HD6.out.mono HB5.out.size)).trans (Kept.below k6 (fun i hi => .inl (Nat.lt_of_lt_of_le hi HG.out))))
                  obtain ⟨b0, b1, b2, b3⟩ := (Box.kept (Box.below HX5.out HD6.out) (D := Mine g b) (.inr rfl) k6).cells
                  clear h6 k6
                  go_wp2_with fail
                  go_roundw
                  case rel => exact ⟨k + 1, want, d, by omega, rfl, rfl, by go_num, by have := At.next_fail HA.out HXS.out HXL.out H6.out B6.out; rwa [HD.out] at this⟩
                  case measure => simp [RowKit.intOf]; omega
    · obtain rfl : k = K := by omega
      obtain ⟨xs, hw, hxs, hxl⟩ := HA.out.wri
      have HW := Lib.hid hw
      have hend : ¬ (k : Int) < (l.length : Int) ∨ ((k : Int) < (l.length : Int) ∧ ¬ (k : Int) < 60) := by have := HK.out; omega
      by_cases hd0 : d = 0
      · subst hd0
        obtain rfl := hxs rfl
        have hq : (xs == xs) = true := beq_self_eq_true _
        clear hw hxs hxl
        rcases hend with hend | ⟨hend, hend2⟩
        all_goals
          go_wp2_with fail
          refine (end_ok g (· < g) _ wr HW.out).mono ?_
          rintro e w3 ⟨rfl, rfl⟩
          go_wp2_with fail
          refine (works_any wr).mono ?_
          rintro e w4 ⟨rfl, hb4⟩
          have HB4 := Lib.hid (HA.out.below.trans (hb4.mono HA.out.below.size))
          clear hb4
          go_wp2_with fail
          go_ret
          exact ⟨rfl, HB4.out⟩
      · have hd1 : (d == 0) = false := beq_eq_false_iff_ne.2 hd0
        have HD0 := Lib.hid hd0
        clear hw hxs hxl hd0
        rcases hend with hend | ⟨hend, hend2⟩
        all_goals
          go_wp2_with fail
          refine (end_err g (· < g) d HD0.out xs wr HW.out).mono ?_
          rintro e w3 ⟨rfl, n, rfl⟩
          have HB3 := Lib.hid (HA.out.below.trans (Kit.below_drewN w.heap.size wr n))
          generalize wr.drewN n = w3 at *
          go_wp2_with fail
          refine (works_any w3).mono ?_
          rintro e w4 ⟨rfl, hb4⟩
          have HB4 := Lib.hid (HB3.out.trans (hb4.mono HB3.out.size))
          clear hb4
          go_wp2_with fail
          go_ret
          exact ⟨rfl, HB4.out⟩
end WireWritesWalk
end Go.Proofs.Ythffbhpoccdjcaa
