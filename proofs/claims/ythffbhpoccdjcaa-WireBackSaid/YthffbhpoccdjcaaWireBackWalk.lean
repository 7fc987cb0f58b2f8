/-
  WireBack: whatever is written is read again, value by value, and nothing is left. No condition.
-/
import Derived.Test.YthffbhpoccdjcaaWireActs
namespace Go.Proofs.Ythffbhpoccdjcaa
open Go.ChangeShapes Go.WideShapes Go.ChangeAt Go.RowKit Go.Lib
open LebMath WirePure
namespace WireBackWalk
open Wire

/-- the first loop's head -/
structure At1 (w : World) (l : List Val) (g : Nat) (wr : World) (k : Nat) : Prop where
  wri : Wr wr g (· < g) 0 (valsB (l.take k))
  below : Below w.heap.size w wr
  short : ∀ x ∈ l.take k, x.fits ∧ x.s.size ≤ 300

/-! the values of the second loop's regions, by program -/
def X33 (h b : Nat) (x : Val) : Nat → Value
  | 0 => .pointer (some ⟨h, 0, none⟩)
  | 1 => .pointer (some ⟨b, 1, none⟩)
  | 2 => .int .i64 x.n
  | 3 => .int .i64 (mostN x.n)
  | 4 => .int .i64 (mostN x.n)
  | 5 => .pointer (some ⟨b, 1, none⟩)
  | 6 => .int .i64 x.n
  | 7 => .int .i64 (mostN x.n)
  | 8 => .bool true
  | _ => .bool true
def X35 (h b : Nat) (x : Val) : Nat → Value
  | 0 => .pointer (some ⟨h, 0, none⟩)
  | 1 => .int .u64 (x.big : Nat)
  | 2 => .pointer (some ⟨b, 2, none⟩)
  | 3 => .int .u64 (x.big : Nat)
  | 4 => .bool true
  | _ => .bool true
def X37 (h b : Nat) (x : Val) : Nat → Value
  | 0 => .pointer (some ⟨h, 0, none⟩)
  | 1 => .pointer (some ⟨b, 3, none⟩)
  | 2 => .string x.s
  | 3 => .int .i64 (x.s.size : Nat)
  | 4 => .string x.s
  | 5 => .pointer (some ⟨b, 3, none⟩)
  | 6 => .string x.s
  | 7 => .bool true
  | _ => .bool true
def X31 (h b : Nat) (x : Val) : Nat → Value
  | 0 => .pointer (some ⟨h, 0, none⟩)
  | 1 => .bool (decide (0 < x.n))
  | 2 => .pointer (some ⟨b, 1, none⟩)
  | 3 => .int .i64 x.n
  | 4 => .bool (decide (0 < x.n))
  | 5 => .bool true
  | _ => .bool true

theorem at1_start {w : World} {l : List Val} {g : Nat} {wr : World} (h : Wr wr g (· < g) 0 []) (hb : Below w.heap.size w wr) : At1 w l g wr 0 := ⟨by simpa [valsB] using h, hb, by simp⟩

theorem at1_next {w : World} {l : List Val} {g : Nat} {wr w' : World} {k : Nat} {x : Val} {ys : List UInt8} (h : At1 w l g wr k) (hg : w.heap.size ≤ g) (hx : l[k]? = some x) (hf : x.fits) (hs : (x.s.size : Int) ≤ 300) (hv : valB x = ys)
    (h' : Wr w' g (· < g) 0 (addB 0 (valsB (l.take k)) ys)) (hk : Kept (· < g) wr w') : At1 w l g w' (k + 1) := by
  refine ⟨?_, h.below.trans (hk.below (fun i hi => Nat.lt_of_lt_of_le hi hg)), fun y hy => ?_⟩
  · rw [valsB_snoc l k x hx, hv]
    rwa [addB_no] at h'
  · rw [List.take_add_one, hx] at hy
    rcases List.mem_append.1 hy with hy | hy
    · exact h.short y hy
    · simp at hy
      subst hy
      exact ⟨hf, by omega⟩

theorem at1_room {w : World} {l : List Val} {g : Nat} {wr : World} {k : Nat} (h : At1 w l g wr k) (hk : k ≤ 60) : (valsB (l.take k)).length ≤ 18600 := by
  have h1 := valsB_len h.short
  have h2 : (l.take k).length ≤ k := List.length_take_le _ _
  omega

/-- the second loop's head -/
structure At2 (w : World) (l : List Val) (h : Nat) (wl : World) (m : Nat) : Prop where
  rd : Rd wl h 0 (valsB (l.drop m))
  below : Below w.heap.size w wl
  reader : w.heap.size ≤ h
  short : ∀ x ∈ l, x.fits ∧ x.s.size ≤ 300

theorem At2.next {w : World} {l : List Val} {h : Nat} {wl w5 w6 : World} {m : Nat} (h2 : At2 w l h wl m) (hb : Below w.heap.size w w5) (hs : w.heap.size ≤ w5.heap.size) (hk : Aside h w5 w6) (hr : Rd w6 h 0 (valsB (l.drop (m + 1)))) : At2 w l h w6 (m + 1) :=
  ⟨hr, hb.trans (Kept.below hk (fun k hk => ⟨Nat.lt_of_lt_of_le hk hs, by have := h2.reader; omega⟩)), h2.reader, h2.short⟩

theorem At2.room {w : World} {l : List Val} {h : Nat} {wl : World} {m : Nat} (h2 : At2 w l h wl m) (hl : l.length ≤ 60) : (valsB (l.drop m)).length ≤ 18600 := by
  have h1 := valsB_len (l := l.drop m) (fun x hx => h2.short x (List.mem_of_mem_drop hx))
  rw [List.length_drop] at h1
  omega

set_option maxRecDepth 100000 in
set_option maxHeartbeats 4000000 in
theorem law (A : Option Addr) (cap : Nat) (l : List Val) (hlen : l.length ≤ 9223372036854775807) (w : World) (hV : Vals w A l) :
    Calls Try.prog 4 #[.slice A l.length cap] w fun e w' => e = .returned (.bool true) ∧ Below w.heap.size w w' := by
  have HV := Lib.hid hV
  have HLE := Lib.hid hlen
  clear hV hlen
  obtain ⟨K, hK1, hK2, hK3⟩ : ∃ K, K ≤ l.length ∧ K ≤ 60 ∧ (K = l.length ∨ (K = 60 ∧ K < l.length)) := by
    by_cases h : l.length ≤ 60
    · exact ⟨l.length, by omega, h, .inl rfl⟩
    · exact ⟨60, by omega, by omega, .inr ⟨rfl, by omega⟩⟩
  have HK := Lib.hid hK3
  clear hK3
  go_enter Try.func4, Try.ntmps4
  go_wp2_with fail
  refine (works_any w).mono ?_
  rintro e w1 ⟨rfl, hb1⟩
  have B1 := Lib.hid hb1
  clear hb1
  go_wp2_with fail
  refine (write_any w1).mono ?_
  rintro e w2 ⟨rfl, h2, hb2, z2⟩
  have H2 := Lib.hid h2
  have B2 := Lib.hid hb2
  clear h2 hb2 z2
  obtain ⟨g, hg⟩ : ∃ g, w1.heap.size = g := ⟨_, rfl⟩
  have hgw : w.heap.size ≤ g := by have := B1.out.size; omega
  have HG := Lib.hid hgw
  rw [hg] at H2
  rw [hg]
  clear hg hgw
  have HB0 := Lib.hid (show Below w.heap.size w w2 from B1.out.trans (B2.out.mono B1.out.size))
  clear B1 B2
  go_wp2_with fail
  go_loopw [4] (fun i wr => ∃ k : Nat, k ≤ K ∧ i = .int .i64 k ∧ Hid (At1 w l g wr k)) (fun i _ => K - (RowKit.intOf i).toNat)
  case atStart => exact ⟨0, Nat.zero_le _, rfl, at1_start H2.out HB0.out⟩
  case round =>
    obtain ⟨k, hk, rfl, HA⟩ := hrel
    by_cases hlt : k < K
    · have hkl : k < l.length := by omega
      have hk60 : (k : Int) < 60 := by omega
      have hkn : (k : Int) < (l.length : Int) := by omega
      obtain ⟨x, hx⟩ : ∃ x, l[k]? = some x := ⟨l[k], List.getElem?_eq_getElem hkl⟩
      obtain ⟨hf, a, rfl, ha, hc⟩ := HV.out k x hx
      have hc' := hc.keep (HA.out.below.block _ (by rw [add_block]; exact ha))
      obtain ⟨c0, c1, c2, c3⟩ := hc'
      have HX := Lib.hid hx
      have HF := Lib.hid hf
      clear hx hf hc ha
      by_cases h300 : (300 : Int) < (x.s.size : Int)
      · go_wp2
        go_ret
        exact ⟨rfl, HA.out.below⟩
      · have HS := Lib.hid h300
        have HM := Lib.hid (mostN_nat_le HF.out)
        clear h300
        by_cases q0 : x.kind = 0
        · have e0 : (x.kind == 0) = true := beq_iff_eq.2 q0
          have hm := (mostN_cast x.n).symm
          have HQ := Lib.hid (show valB x = leb (mostN x.n) by unfold valB; rw [if_pos q0])
          clear q0
          go_wp2_with fail
          refine (num_nat g (· < g) 0 _ (mostN x.n) HM.out (fun _ => by have := at1_room HA.out (Nat.le_trans hk hK2); omega) wr HA.out.wri).mono ?_
          rintro e w3 ⟨rfl, h3, k3⟩
          have HN := Lib.hid (at1_next HA.out HG.out HX.out HF.out HS.out HQ.out h3 k3)
          clear h3 k3
          go_wp2_with fail
          go_roundw
          case rel => exact ⟨k + 1, by omega, by go_num, HN.out⟩
          case measure => simp [RowKit.intOf]; omega
        · have e0 : (x.kind == 0) = false := beq_eq_false_iff_ne.2 q0
          by_cases q1 : x.kind = 1
          · have e1 : (x.kind == 1) = true := beq_iff_eq.2 q1
            have HQ := Lib.hid (show valB x = leb x.big by unfold valB; rw [if_neg q0, if_pos q1])
            clear q0 q1
            go_wp2_with fail
            refine (big_any g (· < g) 0 _ x.big HF.out.2.2.2.2 (fun _ => by have := at1_room HA.out (Nat.le_trans hk hK2); omega) wr HA.out.wri).mono ?_
            rintro e w3 ⟨rfl, h3, k3⟩
            have HN := Lib.hid (at1_next HA.out HG.out HX.out HF.out HS.out HQ.out h3 k3)
            clear h3 k3
            go_wp2_with fail
            go_roundw
            case rel => exact ⟨k + 1, by omega, by go_num, HN.out⟩
            case measure => simp [RowKit.intOf]; omega
          · have e1 : (x.kind == 1) = false := beq_eq_false_iff_ne.2 q1
            by_cases q2 : x.kind = 2
            · have e2 : (x.kind == 2) = true := beq_iff_eq.2 q2
              have HQ := Lib.hid (show valB x = txB x.s by unfold valB; rw [if_neg q0, if_neg q1, if_pos q2])
              clear q0 q1 q2
              go_wp2_with fail
              refine (text_any g (· < g) 0 _ x.s (by have := at1_room HA.out (Nat.le_trans hk hK2); have := HS.out; omega) wr HA.out.wri).mono ?_
              rintro e w3 ⟨rfl, h3, k3⟩
              have HN := Lib.hid (at1_next HA.out HG.out HX.out HF.out HS.out HQ.out h3 k3)
              clear h3 k3
              go_wp2_with fail
              go_roundw
              case rel => exact ⟨k + 1, by omega, by go_num, HN.out⟩
              case measure => simp [RowKit.intOf]; omega
            · have e2 : (x.kind == 2) = false := beq_eq_false_iff_ne.2 q2
              have HQ := Lib.hid (show valB x = [boB (decide (0 < x.n))] by unfold valB; rw [if_neg q0, if_neg q1, if_neg q2])
              clear q0 q1 q2
              go_wp2_with fail
              refine (bool_any g (· < g) 0 _ (decide (0 < x.n)) (fun _ => by have := at1_room HA.out (Nat.le_trans hk hK2); omega) wr HA.out.wri).mono ?_
              rintro e w3 ⟨rfl, h3, k3⟩
              have HN := Lib.hid (at1_next HA.out HG.out HX.out HF.out HS.out HQ.out h3 k3)
              clear h3 k3
              go_wp2_with fail
              go_roundw
              case rel => exact ⟨k + 1, by omega, by go_num, HN.out⟩
              case measure => simp [RowKit.intOf]; omega
    · obtain rfl : k = K := by omega
      have hend : ¬ (k : Int) < (l.length : Int) ∨ ((k : Int) < (l.length : Int) ∧ ¬ (k : Int) < 60) := by have := HK.out; omega
      rcases hend with hend | ⟨hend, hend2⟩
      all_goals
        go_wp2_with fail
        refine (end_ok g (· < g) _ wr HA.out.wri).mono ?_
        rintro e w3 ⟨rfl, rfl⟩
        go_wp2_with fail
        refine (read_any _ wr).mono ?_
        rintro e w4 ⟨rfl, h4, hb4, z4⟩
        have HW := Lib.hid (show At2 w (l.take k) wr.heap.size w4 0 from ⟨h4, HA.out.below.trans (hb4.mono HA.out.below.size), HA.out.below.size, HA.out.short⟩)
        clear h4 hb4 z4
        generalize wr.heap.size = h at *
        go_wp2_with fail
        go_loopw [8] (fun i wl => ∃ m : Nat, m ≤ k ∧ i = .int .i64 m ∧ Hid (At2 w (l.take k) h wl m)) (fun i _ => k - (RowKit.intOf i).toNat)
        case atStart => exact ⟨0, Nat.zero_le _, rfl, HW.out⟩
        case round =>
          obtain ⟨m, hm, rfl, HB⟩ := hrel
          by_cases hlt2 : m < k
          · have hml : m < l.length := by omega
            have hm60 : (m : Int) < 60 := by omega
            have hmn : (m : Int) < (l.length : Int) := by omega
            obtain ⟨x, hx⟩ : ∃ x, l[m]? = some x := ⟨l[m], List.getElem?_eq_getElem hml⟩
            obtain ⟨hf, a, rfl, ha, hc⟩ := HV.out m x hx
            have hc' := hc.keep (HB.out.below.block _ (by rw [add_block]; exact ha))
            obtain ⟨c0, c1, c2, c3⟩ := hc'
            have HX := Lib.hid hx
            have HF := Lib.hid hf
            have HSS := Lib.hid (HB.out.short x (List.mem_of_getElem? (show (l.take k)[m]? = some x by rw [List.getElem?_take_of_lt hlt2]; exact hx)))
            have HS := Lib.hid HSS.out.2
            have HV0 := Lib.hid (valsB_next (l.take k) m x (by rw [List.getElem?_take_of_lt hlt2]; exact hx))
            have HM := Lib.hid (show mostN x.n ≤ 9223372036854775807 by have := mostN_le hf.2.2.1; unfold maxLen at this; omega)
            have HZ := Lib.hid (show mostN x.n < 18446744073709551616 by have := HM.out; omega)
            have HRM := Lib.hid (HB.out.room (by rw [List.length_take]; omega))
            have HR5 := Lib.hid (HB.out.rd.below ((Below.refl _ wr).alloc (Nat.le_refl _) (.cells #[.int .i64 x.kind, .int .i64 x.n, .int .u64 (x.big : Nat), .string x.s] 27)))
            have HK5 := Lib.hid (show Below w.heap.size w (wr.alloc (.cells #[.int .i64 x.kind, .int .i64 x.n, .int .u64 (x.big : Nat), .string x.s] 27)) from HB.out.below.alloc HB.out.below.size _)
            have HSZ := Lib.hid (show w.heap.size ≤ (wr.alloc (.cells #[.int .i64 x.kind, .int .i64 x.n, .int .u64 (x.big : Nat), .string x.s] 27)).heap.size from HK5.out.size)
            obtain ⟨b, hbb⟩ : ∃ b, wr.heap.size = b := ⟨_, rfl⟩
            have HX5 := Lib.hid (show Box (wr.alloc (.cells #[.int .i64 x.kind, .int .i64 x.n, .int .u64 (x.big : Nat), .string x.s] 27)) b x by rw [← hbb]; exact heap_alloc_new wr _)
            have HBH := Lib.hid (show b ≠ h by have := HB.out.rd.lt; omega)
            have HBB := Lib.hid hbb
            clear hx hf hc ha hbb
            by_cases q0 : x.kind = 0
            · have e0 : (x.kind == 0) = true := beq_iff_eq.2 q0
              have HQ := Lib.hid (show valB x = leb (mostN x.n) by unfold valB; rw [if_pos q0])
              clear q0
              go_wp2_with fail
              rw [HBB.out]
              generalize wr.alloc (.cells #[.int .i64 x.kind, .int .i64 x.n, .int .u64 (x.big : Nat), .string x.s] 27) = w5 at *
              refine Line.wp_region_walk (by kernel_rfl) (by kernel_rfl) (rdPlan h 0 0 (valsB ((l.take k).drop m)) (valsB ((l.take k).drop (m + 1))) 4 (X33 h b x)) (by kernel_rfl) (by kernel_rfl) HR5.out ?_ ?_
              · refine ⟨?_, ?_, ?_, ?_, ?_, ?_, ?_, ?_, ?_, ?_, trivial⟩
                · intro a w1 hfr hdep _
                  have f0 := hfr.slot 7 (by kernel_rfl)
                  refine Line.Step.value (rd_quiet (by decide)) (Line.wanted_free rfl) (v := .pointer (some ⟨h, 0, none⟩)) (w' := w1) ?_ rfl (Below.refl _ _)
                  simp [go_sem, Act.eval, f0]
                · intro a w1 hfr hdep _
                  have f0 := hfr.slot 9 (by kernel_rfl)
                  refine Line.Step.value (rd_quiet (by decide)) (Line.wanted_free rfl) (v := .pointer (some ⟨b, 1, none⟩)) (w' := w1) ?_ rfl (Below.refl _ _)
                  simp [go_sem, Act.eval, f0]
                · intro a w1 hfr hdep _
                  have e0 : a.tmps.getD 110 undef = .pointer (some ⟨b, 1, none⟩) := dep_val hdep 1 110 (by kernel_rfl)
                  have hc := (HX5.out.aside HBH.out hfr.kept).cells.2.1
                  refine Line.Step.value (rd_quiet (by decide)) (Line.wanted_free rfl) (v := .int .i64 x.n) (w' := w1) ?_ rfl (Below.refl _ _)
                  simp [go_sem, Act.eval, e0, hc]
                · intro a w1 hfr hdep _
                  have e0 : a.tmps.getD 111 undef = .int .i64 x.n := dep_val hdep 2 111 (by kernel_rfl)
                  refine Line.Step.value (rd_quiet (by decide)) (Line.wanted_free rfl) (v := .int .i64 (mostN x.n)) (w' := w1) ?_ rfl (Below.refl _ _)
                  simp [go_sem, Act.eval, e0, mostN_cast]
                · intro a w1 hfr hdep hG
                  have e0 : a.tmps.getD 109 undef = .pointer (some ⟨h, 0, none⟩) := dep_val hdep 0 109 (by kernel_rfl)
                  have e1 : a.tmps.getD 112 undef = .int .i64 (mostN x.n) := dep_val hdep 3 112 (by kernel_rfl)
                  refine Line.Step.write 0 rfl (Line.wanted_free rfl) (f := 17) (args := #[.pointer (some ⟨h, 0, none⟩), .int .i64 (mostN x.n)]) ?_ ?_
                  · simp [go_sem, Act.eval, e0, e1]
                  · refine (rnum_any h (mostN x.n) (by have := HM.out; omega) 0 (valsB ((l.take k).drop m)) (by have := HRM.out; unfold maxLen; omega) w1 (hG 0 rfl)).mono ?_
                    rintro e w2 ⟨rfl, h2, k2⟩
                    rw [HV0.out, HQ.out, mostN_nat] at h2 ⊢
                    rw [numV_put HZ.out (Nat.le_refl _)]
                    rw [numE_put HZ.out (Nat.le_refl _), numL_put HZ.out (Nat.le_refl _)] at h2
                    exact ⟨_, rfl, rfl, k2, h2⟩
                · intro a w1 hfr hdep _
                  have f0 := hfr.slot 9 (by kernel_rfl)
                  refine Line.Step.value (rd_quiet (by decide)) (Line.wanted_free rfl) (v := .pointer (some ⟨b, 1, none⟩)) (w' := w1) ?_ rfl (Below.refl _ _)
                  simp [go_sem, Act.eval, f0]
                · intro a w1 hfr hdep _
                  have e0 : a.tmps.getD 114 undef = .pointer (some ⟨b, 1, none⟩) := dep_val hdep 5 114 (by kernel_rfl)
                  have hc := (HX5.out.aside HBH.out hfr.kept).cells.2.1
                  refine Line.Step.value (rd_quiet (by decide)) (Line.wanted_free rfl) (v := .int .i64 x.n) (w' := w1) ?_ rfl (Below.refl _ _)
                  simp [go_sem, Act.eval, e0, hc]
                · intro a w1 hfr hdep _
                  have e0 : a.tmps.getD 115 undef = .int .i64 x.n := dep_val hdep 6 115 (by kernel_rfl)
                  refine Line.Step.value (rd_quiet (by decide)) (Line.wanted_free rfl) (v := .int .i64 (mostN x.n)) (w' := w1) ?_ rfl (Below.refl _ _)
                  simp [go_sem, Act.eval, e0, mostN_cast]
                · intro a w1 hfr hdep _
                  have e0 : a.tmps.getD 113 undef = .int .i64 (mostN x.n) := dep_val hdep 4 113 (by kernel_rfl)
                  have e1 : a.tmps.getD 116 undef = .int .i64 (mostN x.n) := dep_val hdep 7 116 (by kernel_rfl)
                  refine Line.Step.value (rd_quiet (by decide)) (Line.wanted_free rfl) (v := .bool true) (w' := w1) ?_ rfl (Below.refl _ _)
                  simp [go_sem, Act.eval, e0, e1]
                · intro a w1 hfr hdep _
                  have e0 : a.tmps.getD 117 undef = .bool true := dep_val hdep 8 117 (by kernel_rfl)
                  refine Line.Step.value (rd_quiet (by decide)) (Line.wanted_free rfl) (v := .bool true) (w' := w1) ?_ rfl (Below.refl _ _)
                  simp [go_sem, Act.eval, e0]
              · intro v0 v1 v2 v3 v4 v5 v6 v7 v8 v9 w6 hk6 hC hG6
                obtain rfl : v9 = .bool true := hC.2
                clear hC
                have HN := Lib.hid (HB.out.next HK5.out HSZ.out hk6 hG6)
                clear hk6 hG6
                go_simp
                go_wp2_with fail
                go_roundw
                case rel => exact ⟨m + 1, by omega, by go_num, HN.out⟩
                case measure => simp [RowKit.intOf]; omega
            · have e0 : (x.kind == 0) = false := beq_eq_false_iff_ne.2 q0
              by_cases q1 : x.kind = 1
              · have e1 : (x.kind == 1) = true := beq_iff_eq.2 q1
                have HQ := Lib.hid (show valB x = leb x.big by unfold valB; rw [if_neg q0, if_pos q1])
                clear q0 q1
                go_wp2_with fail
                rw [HBB.out]
                generalize wr.alloc (.cells #[.int .i64 x.kind, .int .i64 x.n, .int .u64 (x.big : Nat), .string x.s] 27) = w5 at *
                refine Line.wp_region_walk (by kernel_rfl) (by kernel_rfl) (rdPlan h 0 0 (valsB ((l.take k).drop m)) (valsB ((l.take k).drop (m + 1))) 1 (X35 h b x)) (by kernel_rfl) (by kernel_rfl) HR5.out ?_ ?_
                · refine ⟨?_, ?_, ?_, ?_, ?_, ?_, trivial⟩
                  · intro a w1 hfr hdep _
                    have f0 := hfr.slot 7 (by kernel_rfl)
                    refine Line.Step.value (rd_quiet (by decide)) (Line.wanted_free rfl) (v := .pointer (some ⟨h, 0, none⟩)) (w' := w1) ?_ rfl (Below.refl _ _)
                    simp [go_sem, Act.eval, f0]
                  · intro a w1 hfr hdep hG
                    have e0 : a.tmps.getD 120 undef = .pointer (some ⟨h, 0, none⟩) := dep_val hdep 0 120 (by kernel_rfl)
                    refine Line.Step.write 0 rfl (Line.wanted_free rfl) (f := 18) (args := #[.pointer (some ⟨h, 0, none⟩)]) ?_ ?_
                    · simp [go_sem, Act.eval, e0]
                    · refine (rbig_any h 0 (valsB ((l.take k).drop m)) (by have := HRM.out; unfold maxLen; omega) w1 (hG 0 rfl)).mono ?_
                      rintro e w2 ⟨rfl, h2, k2⟩
                      rw [HV0.out, HQ.out] at h2 ⊢
                      rw [numV_put HF.out.2.2.2.2 (by have := HF.out.2.2.2.2; omega)]
                      rw [numE_put HF.out.2.2.2.2 (by have := HF.out.2.2.2.2; omega), numL_put HF.out.2.2.2.2 (by have := HF.out.2.2.2.2; omega)] at h2
                      exact ⟨_, rfl, rfl, k2, h2⟩
                  · intro a w1 hfr hdep _
                    have f0 := hfr.slot 9 (by kernel_rfl)
                    refine Line.Step.value (rd_quiet (by decide)) (Line.wanted_free rfl) (v := .pointer (some ⟨b, 2, none⟩)) (w' := w1) ?_ rfl (Below.refl _ _)
                    simp [go_sem, Act.eval, f0]
                  · intro a w1 hfr hdep _
                    have e0 : a.tmps.getD 122 undef = .pointer (some ⟨b, 2, none⟩) := dep_val hdep 2 122 (by kernel_rfl)
                    have hc := (HX5.out.aside HBH.out hfr.kept).cells.2.2.1
                    refine Line.Step.value (rd_quiet (by decide)) (Line.wanted_free rfl) (v := .int .u64 (x.big : Nat)) (w' := w1) ?_ rfl (Below.refl _ _)
                    simp [go_sem, Act.eval, e0, hc]
                  · intro a w1 hfr hdep _
                    have e0 : a.tmps.getD 121 undef = .int .u64 (x.big : Nat) := dep_val hdep 1 121 (by kernel_rfl)
                    have e1 : a.tmps.getD 123 undef = .int .u64 (x.big : Nat) := dep_val hdep 3 123 (by kernel_rfl)
                    refine Line.Step.value (rd_quiet (by decide)) (Line.wanted_free rfl) (v := .bool true) (w' := w1) ?_ rfl (Below.refl _ _)
                    simp [go_sem, Act.eval, e0, e1]
                  · intro a w1 hfr hdep _
                    have e0 : a.tmps.getD 124 undef = .bool true := dep_val hdep 4 124 (by kernel_rfl)
                    refine Line.Step.value (rd_quiet (by decide)) (Line.wanted_free rfl) (v := .bool true) (w' := w1) ?_ rfl (Below.refl _ _)
                    simp [go_sem, Act.eval, e0]
                · intro v0 v1 v2 v3 v4 v5 w6 hk6 hC hG6
                  obtain rfl : v5 = .bool true := hC.2
                  clear hC
                  have HN := Lib.hid (HB.out.next HK5.out HSZ.out hk6 hG6)
                  clear hk6 hG6
                  go_simp
                  go_wp2_with fail
                  go_roundw
                  case rel => exact ⟨m + 1, by omega, by go_num, HN.out⟩
                  case measure => simp [RowKit.intOf]; omega
              · have e1 : (x.kind == 1) = false := beq_eq_false_iff_ne.2 q1
                by_cases q2 : x.kind = 2
                · have e2 : (x.kind == 2) = true := beq_iff_eq.2 q2
                  have HQ := Lib.hid (show valB x = txB x.s by unfold valB; rw [if_neg q0, if_neg q1, if_pos q2])
                  clear q0 q1 q2
                  go_wp2_with fail
                  rw [HBB.out]
                  generalize wr.alloc (.cells #[.int .i64 x.kind, .int .i64 x.n, .int .u64 (x.big : Nat), .string x.s] 27) = w5 at *
                  refine Line.wp_region_walk (by kernel_rfl) (by kernel_rfl) (rdPlan h 0 0 (valsB ((l.take k).drop m)) (valsB ((l.take k).drop (m + 1))) 4 (X37 h b x)) (by kernel_rfl) (by kernel_rfl) HR5.out ?_ ?_
                  · refine ⟨?_, ?_, ?_, ?_, ?_, ?_, ?_, ?_, ?_, trivial⟩
                    · intro a w1 hfr hdep _
                      have f0 := hfr.slot 7 (by kernel_rfl)
                      refine Line.Step.value (rd_quiet (by decide)) (Line.wanted_free rfl) (v := .pointer (some ⟨h, 0, none⟩)) (w' := w1) ?_ rfl (Below.refl _ _)
                      simp [go_sem, Act.eval, f0]
                    · intro a w1 hfr hdep _
                      have f0 := hfr.slot 9 (by kernel_rfl)
                      refine Line.Step.value (rd_quiet (by decide)) (Line.wanted_free rfl) (v := .pointer (some ⟨b, 3, none⟩)) (w' := w1) ?_ rfl (Below.refl _ _)
                      simp [go_sem, Act.eval, f0]
                    · intro a w1 hfr hdep _
                      have e0 : a.tmps.getD 128 undef = .pointer (some ⟨b, 3, none⟩) := dep_val hdep 1 128 (by kernel_rfl)
                      have hc := (HX5.out.aside HBH.out hfr.kept).cells.2.2.2
                      refine Line.Step.value (rd_quiet (by decide)) (Line.wanted_free rfl) (v := .string x.s) (w' := w1) ?_ rfl (Below.refl _ _)
                      simp [go_sem, Act.eval, e0, hc]
                    · intro a w1 hfr hdep _
                      have e0 : a.tmps.getD 129 undef = .string x.s := dep_val hdep 2 129 (by kernel_rfl)
                      refine Line.Step.value (rd_quiet (by decide)) (Line.wanted_free rfl) (v := .int .i64 (x.s.size : Nat)) (w' := w1) ?_ rfl (Below.refl _ _)
                      simp [go_sem, Act.eval, e0]
                    · intro a w1 hfr hdep hG
                      have e0 : a.tmps.getD 127 undef = .pointer (some ⟨h, 0, none⟩) := dep_val hdep 0 127 (by kernel_rfl)
                      have e1 : a.tmps.getD 130 undef = .int .i64 (x.s.size : Nat) := dep_val hdep 3 130 (by kernel_rfl)
                      refine Line.Step.write 0 rfl (Line.wanted_free rfl) (f := 19) (args := #[.pointer (some ⟨h, 0, none⟩), .int .i64 (x.s.size : Nat)]) ?_ ?_
                      · simp [go_sem, Act.eval, e0, e1]
                      · refine (rtext_any h (x.s.size : Nat) (by have := HS.out; omega) 0 (valsB ((l.take k).drop m)) (by have := HRM.out; omega) w1 (hG 0 rfl)).mono ?_
                        rintro e w2 ⟨rfl, h2, k2⟩
                        have hp := text_back x.s (by have := HS.out; omega) (valsB ((l.take k).drop (m + 1)))
                        rw [HV0.out, HQ.out, mostN_nat] at h2 ⊢
                        rw [hp.2.1]
                        rw [hp.1, hp.2.2] at h2
                        exact ⟨_, rfl, rfl, k2, h2⟩
                    · intro a w1 hfr hdep _
                      have f0 := hfr.slot 9 (by kernel_rfl)
                      refine Line.Step.value (rd_quiet (by decide)) (Line.wanted_free rfl) (v := .pointer (some ⟨b, 3, none⟩)) (w' := w1) ?_ rfl (Below.refl _ _)
                      simp [go_sem, Act.eval, f0]
                    · intro a w1 hfr hdep _
                      have e0 : a.tmps.getD 132 undef = .pointer (some ⟨b, 3, none⟩) := dep_val hdep 5 132 (by kernel_rfl)
                      have hc := (HX5.out.aside HBH.out hfr.kept).cells.2.2.2
                      refine Line.Step.value (rd_quiet (by decide)) (Line.wanted_free rfl) (v := .string x.s) (w' := w1) ?_ rfl (Below.refl _ _)
                      simp [go_sem, Act.eval, e0, hc]
                    · intro a w1 hfr hdep _
                      have e0 : a.tmps.getD 131 undef = .string x.s := dep_val hdep 4 131 (by kernel_rfl)
                      have e1 : a.tmps.getD 133 undef = .string x.s := dep_val hdep 6 133 (by kernel_rfl)
                      refine Line.Step.value (rd_quiet (by decide)) (Line.wanted_free rfl) (v := .bool true) (w' := w1) ?_ rfl (Below.refl _ _)
                      simp [go_sem, Act.eval, e0, e1]
                    · intro a w1 hfr hdep _
                      have e0 : a.tmps.getD 134 undef = .bool true := dep_val hdep 7 134 (by kernel_rfl)
                      refine Line.Step.value (rd_quiet (by decide)) (Line.wanted_free rfl) (v := .bool true) (w' := w1) ?_ rfl (Below.refl _ _)
                      simp [go_sem, Act.eval, e0]
                  · intro v0 v1 v2 v3 v4 v5 v6 v7 v8 w6 hk6 hC hG6
                    obtain rfl : v8 = .bool true := hC.2
                    clear hC
                    have HN := Lib.hid (HB.out.next HK5.out HSZ.out hk6 hG6)
                    clear hk6 hG6
                    go_simp
                    go_wp2_with fail
                    go_roundw
                    case rel => exact ⟨m + 1, by omega, by go_num, HN.out⟩
                    case measure => simp [RowKit.intOf]; omega
                · have e2 : (x.kind == 2) = false := beq_eq_false_iff_ne.2 q2
                  have HQ := Lib.hid (show valB x = [boB (decide (0 < x.n))] by unfold valB; rw [if_neg q0, if_neg q1, if_neg q2])
                  clear q0 q1 q2
                  go_wp2_with fail
                  rw [HBB.out]
                  generalize wr.alloc (.cells #[.int .i64 x.kind, .int .i64 x.n, .int .u64 (x.big : Nat), .string x.s] 27) = w5 at *
                  refine Line.wp_region_walk (by kernel_rfl) (by kernel_rfl) (rdPlan h 0 0 (valsB ((l.take k).drop m)) (valsB ((l.take k).drop (m + 1))) 1 (X31 h b x)) (by kernel_rfl) (by kernel_rfl) HR5.out ?_ ?_
                  · refine ⟨?_, ?_, ?_, ?_, ?_, ?_, ?_, trivial⟩
                    · intro a w1 hfr hdep _
                      have f0 := hfr.slot 7 (by kernel_rfl)
                      refine Line.Step.value (rd_quiet (by decide)) (Line.wanted_free rfl) (v := .pointer (some ⟨h, 0, none⟩)) (w' := w1) ?_ rfl (Below.refl _ _)
                      simp [go_sem, Act.eval, f0]
                    · intro a w1 hfr hdep hG
                      have e0 : a.tmps.getD 101 undef = .pointer (some ⟨h, 0, none⟩) := dep_val hdep 0 101 (by kernel_rfl)
                      refine Line.Step.write 0 rfl (Line.wanted_free rfl) (f := 20) (args := #[.pointer (some ⟨h, 0, none⟩)]) ?_ ?_
                      · simp [go_sem, Act.eval, e0]
                      · refine (rbool_any h 0 (valsB ((l.take k).drop m)) (by have := HRM.out; unfold maxLen; omega) w1 (hG 0 rfl)).mono ?_
                        rintro e w2 ⟨rfl, h2, k2⟩
                        have hp := bool_back (decide (0 < x.n)) (valsB ((l.take k).drop (m + 1)))
                        rw [HV0.out, HQ.out] at h2 ⊢
                        rw [hp.2.1]
                        rw [hp.1, hp.2.2] at h2
                        exact ⟨_, rfl, rfl, k2, h2⟩
                    · intro a w1 hfr hdep _
                      have f0 := hfr.slot 9 (by kernel_rfl)
                      refine Line.Step.value (rd_quiet (by decide)) (Line.wanted_free rfl) (v := .pointer (some ⟨b, 1, none⟩)) (w' := w1) ?_ rfl (Below.refl _ _)
                      simp [go_sem, Act.eval, f0]
                    · intro a w1 hfr hdep _
                      have e0 : a.tmps.getD 103 undef = .pointer (some ⟨b, 1, none⟩) := dep_val hdep 2 103 (by kernel_rfl)
                      have hc := (HX5.out.aside HBH.out hfr.kept).cells.2.1
                      refine Line.Step.value (rd_quiet (by decide)) (Line.wanted_free rfl) (v := .int .i64 x.n) (w' := w1) ?_ rfl (Below.refl _ _)
                      simp [go_sem, Act.eval, e0, hc]
                    · intro a w1 hfr hdep _
                      have e0 : a.tmps.getD 104 undef = .int .i64 x.n := dep_val hdep 3 104 (by kernel_rfl)
                      refine Line.Step.value (rd_quiet (by decide)) (Line.wanted_free rfl) (v := .bool (decide (0 < x.n))) (w' := w1) ?_ rfl (Below.refl _ _)
                      simp [go_sem, Act.eval, e0]
                    · intro a w1 hfr hdep _
                      have e0 : a.tmps.getD 102 undef = .bool (decide (0 < x.n)) := dep_val hdep 1 102 (by kernel_rfl)
                      have e1 : a.tmps.getD 105 undef = .bool (decide (0 < x.n)) := dep_val hdep 4 105 (by kernel_rfl)
                      refine Line.Step.value (rd_quiet (by decide)) (Line.wanted_free rfl) (v := .bool true) (w' := w1) ?_ rfl (Below.refl _ _)
                      simp [go_sem, Act.eval, e0, e1]
                    · intro a w1 hfr hdep _
                      have e0 : a.tmps.getD 106 undef = .bool true := dep_val hdep 5 106 (by kernel_rfl)
                      refine Line.Step.value (rd_quiet (by decide)) (Line.wanted_free rfl) (v := .bool true) (w' := w1) ?_ rfl (Below.refl _ _)
                      simp [go_sem, Act.eval, e0]
                  · intro v0 v1 v2 v3 v4 v5 v6 w6 hk6 hC hG6
                    obtain rfl : v6 = .bool true := hC.2
                    clear hC
                    have HN := Lib.hid (HB.out.next HK5.out HSZ.out hk6 hG6)
                    clear hk6 hG6
                    go_simp
                    go_wp2_with fail
                    go_roundw
                    case rel => exact ⟨m + 1, by omega, by go_num, HN.out⟩
                    case measure => simp [RowKit.intOf]; omega
          · obtain rfl : m = k := by omega
            have HZ := Lib.hid (show Rd wr h 0 [] by have := HB.out.rd; rwa [List.drop_eq_nil_of_le (by rw [List.length_take]; omega)] at this)
            go_wp2_with fail
            refine (rend_any h 0 [] wr HZ.out).mono ?_
            rintro e w7 ⟨rfl, h7, k7⟩
            rw [show endE 0 [] = 0 from rfl] at h7 ⊢
            have H7 := Lib.hid h7
            have HW := Lib.hid (show Below w.heap.size w w7 from HB.out.below.trans (Kept.below k7 (fun i hi => ⟨Nat.lt_of_lt_of_le hi HB.out.below.size, by have := HB.out.reader; omega⟩)))
            clear h7 k7
            go_wp2_with fail
            refine (left_any h 0 [] w7 H7.out).mono ?_
            rintro e w8 ⟨rfl, rfl⟩
            go_wp2_with fail
            go_ret
            exact ⟨rfl, HW.out⟩
end WireBackWalk
end Go.Proofs.Ythffbhpoccdjcaa
