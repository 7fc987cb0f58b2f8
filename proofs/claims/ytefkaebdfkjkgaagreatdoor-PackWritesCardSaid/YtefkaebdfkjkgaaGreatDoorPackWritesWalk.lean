/-
  The walk of the law PackWrites: it returns true, and leaves all that was there as it was. Condition: as SpecStep.
-/
import Derived.Test.YtefkaebdfkjkgaaGreatDoorPackRefPut
set_option linter.unusedVariables false
set_option linter.unusedSimpArgs false
namespace Go.Proofs.YtefkaebdfkjkgaaGreatDoor.PackWritesWalk
open Go.ChangeShapes Go.WideShapes Go.ChangeAt Go.RowKit Go.Lib
open LebMath WirePure Sd Wire SpecOwn SpecRef Book Pk

theorem bx_eq (l : List UInt8) : (⟨l.toArray⟩ : ByteArray) = bx l := rfl

set_option maxRecDepth 100000 in
set_option maxHeartbeats 4000000 in
theorem walk (ahead : ByteArray) (S : Spc) (LA : Option Addr) (lc : Nat) (IA : Option Addr) (ic : Nat) (MA : Option Addr) (mc : Nat) (w : World) (hL : SLaid w) (h : S.In w LA lc IA ic MA mc) :
    Calls Tryz.prog 5 #[.string ahead, .agg #[.string S.name, .slice LA S.labels.length lc, .slice IA S.init.length ic, .slice MA S.main.length mc, .int .i64 S.restart, .int .i64 S.grace, .int .i64 S.prio]] w fun e w' => e = .returned (.bool true) ∧ Below w.heap.size w w' := by
  have HL := Lib.hid hL
  have H := Lib.hid h
  clear hL h
  obtain ⟨w1, hw1⟩ : ∃ v, w.alloc (.cells #[.string S.name, .slice LA S.labels.length lc, .slice IA S.init.length ic, .slice MA S.main.length mc, .int .i64 S.restart, .int .i64 S.grace, .int .i64 S.prio] 25) = v := ⟨_, rfl⟩
  have hb1 : Below w.heap.size w w1 := by rw [← hw1]; exact (Below.refl _ _).alloc (Nat.le_refl _) _
  have SB1 := Lib.hid (show SBox S LA lc IA ic MA mc w1 w.heap.size by rw [← hw1]; exact heap_alloc_new w _)
  have B1 := Lib.hid hb1
  clear hb1
  go_enter Tryz.func5, Tryz.ntmps5
  obtain ⟨c0, c1, c2, c3, c4, c5, c6⟩ := SB1.out.cells
  go_wp2_with fail
  refine (light_any S LA lc IA ic MA mc w1 (H.out.below B1.out)).mono ?_
  rintro e w3 ⟨rfl, hb3⟩
  have B3 := Lib.hid (B1.out.trans (hb3.mono B1.out.size))
  have SB3 := Lib.hid (SB1.out.below hb3)
  clear hb3 c0 c1 c2 c3 c4 c5 c6 SB1 hw1
  obtain ⟨b, hb⟩ : ∃ b, w.heap.size = b := ⟨_, rfl⟩
  rw [hb] at SB3 ⊢
  have HBB := Lib.hid hb
  clear hb
  cases hlt : LightB S with
  | false =>
    go_wp2_with fail
    refine (works_any w3 (HL.out.below B3.out)).mono ?_
    rintro e w4 ⟨rfl, hb4⟩
    go_wp2
    go_ret
    exact ⟨rfl, B3.out.trans (hb4.mono B3.out.size)⟩
  | true =>
    have HLT := Lib.hid (LightB_iff.1 hlt)
    clear hlt
    by_cases hlen : 300 < ahead.size
    · have hlen' : (300 : Int) < (ahead.size : Int) := by omega
      go_wp2_with fail
      refine (works_any w3 (HL.out.below B3.out)).mono ?_
      rintro e w4 ⟨rfl, hb4⟩
      go_wp2
      go_ret
      exact ⟨rfl, B3.out.trans (hb4.mono B3.out.size)⟩
    · have hlen' : ¬ (300 : Int) < (ahead.size : Int) := by omega
      have hta : (txB ahead).length ≤ 10 + 300 := txB_le (by omega)
      obtain ⟨c0, c1, c2, c3, c4, c5, c6⟩ := SB3.out.cells
      go_wp2_with fail
      refine (bytes_any S LA lc IA ic MA mc HLT.out w3 (H.out.below B3.out) (HL.out.below B3.out)).mono ?_
      rintro e w4 ⟨hb4, hby⟩
      have B4 := Lib.hid (B3.out.trans (hb4.mono B3.out.size))
      have SB4 := Lib.hid (SB3.out.below hb4)
      clear hb4 c0 c1 c2 c3 c4 c5 c6 SB3
      rcases hby with ⟨hc, rfl⟩ | ⟨hc, rfl⟩
      · have HC := Lib.hid hc
        have hpl := spec_put_len (spec_ok hc)
        have HPL := Lib.hid hpl
        have HREF := fun wx (hbx : Below w.heap.size w wx) => bytes_ref07 S LA lc IA ic MA mc (spec_ok hc) wx (H.out.below hbx)
        have HREF := Lib.hid HREF
        obtain ⟨P, hP⟩ : ∃ P, specC.put S = P := ⟨_, rfl⟩
        have HPE := Lib.hid hP
        rw [hP] at HREF hpl ⊢
        rw [bx_eq P]
        clear hc hP
        go_wp2_with fail
        refine (write_any w4).mono ?_
        rintro e w5 ⟨rfl, h5, hb5, _⟩
        have B5 := Lib.hid (B4.out.trans (hb5.mono B4.out.size))
        have SB5 := Lib.hid (SB4.out.below hb5)
        have H5 := Lib.hid h5
        have hs4 := B4.out.size
        have hbl := SB4.out.lt
        clear h5 hb5 SB4
        obtain ⟨g, hg⟩ : ∃ g, w4.heap.size = g := ⟨_, rfl⟩
        rw [hg] at H5 hs4 hbl ⊢
        clear hg
        go_wp2_with fail
        refine (text_any g (· < g) 0 [] ahead (by show 0 + 10 + _ ≤ _; omega) w5 H5.out).mono ?_
        rintro e w6 ⟨rfl, h6, k6⟩
        rw [addB_no, List.nil_append] at h6
        have H6 := Lib.hid h6
        have B6 := Lib.hid (show Below w.heap.size w w6 from B5.out.trans (k6.below (fun k hk => by show k < g; omega)))
        have SB6 := Lib.hid (show SBox S LA lc IA ic MA mc w6 b from (k6.block b hbl).trans SB5.out)
        have HEN6 := Lib.hid (end_ok g (· < g) _ w6 h6)
        clear h6 k6 SB5
        go_wp2_with fail
        refine HEN6.out.mono ?_
        rintro e w7 ⟨rfl, rfl⟩
        rw [bx_eq (txB ahead)]
        obtain ⟨c0, c1, c2, c3, c4, c5, c6⟩ := SB6.out.cells
        go_wp2_with fail
        refine (put_wr g (· < g) 0 (txB ahead) S LA lc IA ic MA mc HLT.out (by omega) w w6 B6.out (fun k hk => by show k < g; omega) H.out (HL.out.below B6.out) H6.out).mono ?_
        rintro e w8 ⟨rfl, k8, hw⟩
        have B8 := Lib.hid (show Below w.heap.size w w8 from B6.out.trans (k8.below (fun k hk => by show k < g; omega)))
        have SB8 := Lib.hid (show SBox S LA lc IA ic MA mc w8 b from (k8.block b hbl).trans SB6.out)
        clear k8 c0 c1 c2 c3 c4 c5 c6 SB6 HEN6
        rcases hw with ⟨_, hw⟩ | ⟨hno, _⟩
        · rw [addB_no, HPE.out] at hw
          have hab : ∀ v, (Op.stringOp .add (bx (txB ahead)) (bx P)).run Tryz.prog v = .ok (.string (bx (txB ahead ++ P))) v := fun v => bx_add (by omega) v
          have HEN := Lib.hid (end_ok g (· < g) _ w8 hw)
          clear hw
          go_wp2_with fail
          refine HEN.out.mono ?_
          rintro e w9 ⟨rfl, rfl⟩
          rw [bx_eq (txB ahead ++ P)]
          obtain ⟨c0, c1, c2, c3, c4, c5, c6⟩ := SB8.out.cells
          go_wp2_with fail
          refine (check_ref S LA lc IA ic MA mc HLT.out w8 (H.out.below B8.out)).mono ?_
          rw [HC.out]
          rintro e w10 ⟨rfl, hb10⟩
          have B10 := Lib.hid (B8.out.trans (hb10.mono B8.out.size))
          have SB10 := Lib.hid (SB8.out.below hb10)
          clear hb10 c0 c1 c2 c3 c4 c5 c6 SB8
          obtain ⟨c0, c1, c2, c3, c4, c5, c6⟩ := SB10.out.cells
          go_wp2_with fail
          refine (HREF.out w10 B10.out).mono ?_
          rintro e w11 ⟨rfl, hb11⟩
          have B11 := Lib.hid (B10.out.trans (hb11.mono B10.out.size))
          clear hb11 c0 c1 c2 c3 c4 c5 c6
          go_wp2_with fail
          refine (works_any w11 (HL.out.below B11.out)).mono ?_
          rintro e w12 ⟨rfl, hb12⟩
          go_wp2
          go_ret
          exact ⟨rfl, B11.out.trans (hb12.mono B11.out.size)⟩
        · exact absurd HC.out hno
      · have HC := Lib.hid hc
        obtain ⟨y, hy⟩ : ∃ y, (checkV S).1 = y := ⟨_, rfl⟩
        have HY := Lib.hid hy
        rw [hy] at HC ⊢
        clear hc hy
        go_wp2_with fail
        refine (write_any w4).mono ?_
        rintro e w5 ⟨rfl, h5, hb5, _⟩
        have B5 := Lib.hid (B4.out.trans (hb5.mono B4.out.size))
        have SB5 := Lib.hid (SB4.out.below hb5)
        have H5 := Lib.hid h5
        have hs4 := B4.out.size
        have hbl := SB4.out.lt
        clear h5 hb5 SB4
        obtain ⟨g, hg⟩ : ∃ g, w4.heap.size = g := ⟨_, rfl⟩
        rw [hg] at H5 hs4 hbl ⊢
        clear hg
        go_wp2_with fail
        refine (text_any g (· < g) 0 [] ahead (by show 0 + 10 + _ ≤ _; omega) w5 H5.out).mono ?_
        rintro e w6 ⟨rfl, h6, k6⟩
        rw [addB_no, List.nil_append] at h6
        have H6 := Lib.hid h6
        have B6 := Lib.hid (show Below w.heap.size w w6 from B5.out.trans (k6.below (fun k hk => by show k < g; omega)))
        have SB6 := Lib.hid (show SBox S LA lc IA ic MA mc w6 b from (k6.block b hbl).trans SB5.out)
        have HEN6 := Lib.hid (end_ok g (· < g) _ w6 h6)
        clear h6 k6 SB5
        go_wp2_with fail
        refine HEN6.out.mono ?_
        rintro e w7 ⟨rfl, rfl⟩
        rw [bx_eq (txB ahead)]
        obtain ⟨c0, c1, c2, c3, c4, c5, c6⟩ := SB6.out.cells
        go_wp2_with fail
        refine (put_wr g (· < g) 0 (txB ahead) S LA lc IA ic MA mc HLT.out (by omega) w w6 B6.out (fun k hk => by show k < g; omega) H.out (HL.out.below B6.out) H6.out).mono ?_
        rintro e w8 ⟨rfl, k8, hw⟩
        have B8 := Lib.hid (show Below w.heap.size w w8 from B6.out.trans (k8.below (fun k hk => by show k < g; omega)))
        have SB8 := Lib.hid (show SBox S LA lc IA ic MA mc w8 b from (k8.block b hbl).trans SB6.out)
        clear k8 c0 c1 c2 c3 c4 c5 c6 SB6 HEN6
        rcases hw with ⟨hno, _⟩ | ⟨_, hw⟩
        · exact absurd (HY.out.symm.trans hno) HC.out
        · rw [fst_no, HY.out] at hw
          have hyz : (y == 0) = false := by simpa using HC.out
          have hyn : (y != 0) = true := by simpa using HC.out
          have HEN := Lib.hid (end_err g (· < g) y HC.out _ w8 hw)
          clear hw
          go_wp2_with fail
          refine HEN.out.mono ?_
          rintro e w9 ⟨rfl, n, rfl⟩
          have B9 := Lib.hid (show Below w.heap.size w (w8.drewN n) from ⟨B8.out.os, B8.out.tape, B8.out.output, B8.out.size, B8.out.block⟩)
          have SB9 := Lib.hid (show SBox S LA lc IA ic MA mc (w8.drewN n) b from SB8.out)
          obtain ⟨w9, hw9⟩ : ∃ v, w8.drewN n = v := ⟨_, rfl⟩
          rw [hw9] at B9 SB9 ⊢
          clear hw9 SB8
          obtain ⟨c0, c1, c2, c3, c4, c5, c6⟩ := SB9.out.cells
          go_wp2_with fail
          refine (check_ref S LA lc IA ic MA mc HLT.out w9 (H.out.below B9.out)).mono ?_
          rw [HY.out]
          rintro e w10 ⟨rfl, hb10⟩
          have B10 := Lib.hid (B9.out.trans (hb10.mono B9.out.size))
          clear hb10 c0 c1 c2 c3 c4 c5 c6
          go_wp2_with fail
          refine (works_any w10 (HL.out.below B10.out)).mono ?_
          rintro e w11 ⟨rfl, hb11⟩
          go_wp2
          go_ret
          exact ⟨rfl, B10.out.trans (hb11.mono B10.out.size)⟩
end Go.Proofs.YtefkaebdfkjkgaaGreatDoor.PackWritesWalk
