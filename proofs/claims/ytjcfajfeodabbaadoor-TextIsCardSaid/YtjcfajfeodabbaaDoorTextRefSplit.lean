/-
  The contract of the document's answer for layer 3 on images (provostref03.Split): an image's repository and tag and true, else two empty texts and false; all that was there is left as it was. Condition: the text has at most 2000 bytes.
-/
import Derived.Test.YtjcfajfeodabbaaDoorTextRefParts
import Derived.Deep.QuietTactic
import Derived.BigQuiet
namespace Go.Proofs.YtjcfajfeodabbaaDoor
open Go.ChangeShapes Go.WideShapes Go.ChangeAt Go.RowKit
open TextPure
namespace Text

/-- are the first k bytes a tag's? -/
def tagTo (l : List UInt8) (k : Nat) : Bool := (l.take k).all fun b => tagB b.toNat
theorem tagTo_step (s : ByteArray) (k : Nat) (hk : k < s.size) : tagTo s.data.toList (k + 1) = (tagTo s.data.toList k && tagB s[k].toNat) := by
  unfold tagTo
  rw [take_step s k hk, List.all_append]
  simp
theorem tagTo_all (s : ByteArray) : tagTo s.data.toList s.size = allN 2 s.data.toList := by
  unfold tagTo
  rw [List.take_of_length_le (by rw [size_list]; exact Nat.le_refl _)]
  rfl
theorem tagB_split (n : Nat) : tagB n = (small n || n == 45 || n == 46) := rfl

theorem image_no {s : ByteArray} (h : imageB s = false) : repoB s = ⟨#[]⟩ ∧ tagB' s = ⟨#[]⟩ := by
  unfold repoB tagB'
  rw [h]
  exact ⟨rfl, rfl⟩
theorem image_long {s : ByteArray} (h : ¬ s.size ≤ 100) : imageB s = false := by
  cases hx : imageB s with
  | false => rfl
  | true => have := imageL_len hx; rw [size_list] at this; omega
theorem image_two {s : ByteArray} (h : (piecesB s 58).length ≠ 2) : imageB s = false := by
  cases hx : imageB s with
  | false => rfl
  | true => exact absurd (by unfold piecesB; rw [imageL_two hx]; rfl) h
theorem pieces_pair {s : ByteArray} (h : (piecesB s 58).length = 2) : hasB s 58 = true ∧ piecesB s 58 = [fstB s 58, sndB s 58] := by
  unfold piecesB at h
  rw [List.length_map] at h
  obtain ⟨h1, h2⟩ := pieces_two h
  refine ⟨h1, ?_⟩
  unfold piecesB
  rw [h2]
  rfl
theorem image_pair {s : ByteArray} (h : hasB s 58 = true) : imageB s = (decide ((fstB s 58).size ≤ 24) && namesL (piecesB (fstB s 58) 47) && (decide (1 ≤ (sndB s 58).size) && decide ((sndB s 58).size ≤ 8) && allN 2 (sndB s 58).data.toList)) := by
  rw [imageB_eq, h, repoL_eq, tagL_eq, size_list, Bool.true_and]

/-- what is no image has no parts -/
def NoImage (s : ByteArray) : Prop := imageB s = false ∧ repoB s = ⟨#[]⟩ ∧ tagB' s = ⟨#[]⟩
theorem noImage {s : ByteArray} (h : imageB s = false) : NoImage s := ⟨h, image_no h⟩

set_option maxRecDepth 100000 in
set_option maxHeartbeats 2000000 in
theorem split_ref (s : ByteArray) (hs : s.size ≤ 2000) (w : World) :
    Calls Tryd.prog 8 #[.string s] w fun e w' => e = .returned (.tuple #[.string (repoB s), .string (tagB' s), .bool (imageB s)]) ∧ Below w.heap.size w w' := by
  by_cases h100 : s.size ≤ 100
  rotate_left
  · have h1' : (100 : Int) < s.size := by omega
    have HX := Lib.hid (noImage (image_long h100))
    go_enter Tryd.func8, Tryd.ntmps8
    go_wp2_with fail
    go_ret3
    exact ⟨by rw [HX.out.1, HX.out.2.1, HX.out.2.2]; rfl, Below.refl _ _⟩
  have h1' : ¬ (100 : Int) < s.size := by omega
  by_cases h2 : (piecesB s 58).length = 2
  rotate_left
  · have HX := Lib.hid (noImage (image_two h2))
    have hne : (((piecesB s 58).length : Int) != 2) = true := bne_iff_ne.2 (by omega)
    go_enter Tryd.func8, Tryd.ntmps8
    go_wp2_with fail
    refine (parts_ref s 58 hs _).mono ?_
    rintro e w1 ⟨v, rfl, hb1, hown⟩
    have hP1 : 1 ≤ (piecesB s 58).length := by rw [piecesB_len]; omega
    obtain ⟨g, cap, rfl, hg1, hg2⟩ := own_some hown hP1
    clear hown
    go_wp2_with fail
    go_ret3
    exact ⟨by rw [HX.out.1, HX.out.2.1, HX.out.2.2]; rfl, hb1⟩
  obtain ⟨hhas, hpair⟩ := pieces_pair h2
  have HI := Lib.hid (image_pair hhas)
  have hx1 := fstB_size s 58
  have hy1 := sndB_size s 58
  go_enter Tryd.func8, Tryd.ntmps8
  go_wp2_with fail
  refine (parts_ref s 58 hs _).mono ?_
  rintro e w1 ⟨v, rfl, hb1, hown⟩
  rw [h2] at hown
  obtain ⟨g, cap, rfl, hg1, hg2⟩ := own_some hown (by omega)
  have hc0 := hown.cellAt 0 (by omega)
  have hc1 := hown.cellAt 1 (by omega)
  rw [hpair] at hc0 hc1
  simp only [List.map_cons, List.map_nil, List.getElem?_cons_zero, List.getElem?_cons_succ] at hc0 hc1
  clear hown hpair h2 hhas
  have HB := Lib.hid hb1
  clear hb1
  have hR : repoB s = if imageB s then fstB s 58 else ⟨#[]⟩ := rfl
  have hT : tagB' s = if imageB s then sndB s 58 else ⟨#[]⟩ := rfl
  have HR := Lib.hid hR
  have HT := Lib.hid hT
  clear hR hT
  generalize fstB s 58 = x at *
  generalize sndB s 58 = y at *
  by_cases hx24 : x.size ≤ 24
  rotate_left
  · have hq : (24 : Int) < x.size := by omega
    have HX := Lib.hid (noImage (by rw [HI.out, decide_eq_false hx24]; rfl))
    go_wp2_with fail
    go_ret3
    exact ⟨by rw [HX.out.1, HX.out.2.1, HX.out.2.2]; rfl, HB.out⟩
  have hq : ¬ (24 : Int) < x.size := by omega
  by_cases hy0 : 1 ≤ y.size
  rotate_left
  · have hq1 : (y.size : Int) < 1 := by omega
    have HX := Lib.hid (noImage (by rw [HI.out, decide_eq_false hy0]; simp))
    go_wp2_with fail
    go_ret3
    exact ⟨by rw [HX.out.1, HX.out.2.1, HX.out.2.2]; rfl, HB.out⟩
  have hq1 : ¬ (y.size : Int) < 1 := by omega
  by_cases hy8 : y.size ≤ 8
  rotate_left
  · have hq2 : (8 : Int) < y.size := by omega
    have HX := Lib.hid (noImage (by rw [HI.out, decide_eq_false hy8]; simp))
    go_wp2_with fail
    go_ret3
    exact ⟨by rw [HX.out.1, HX.out.2.1, HX.out.2.2]; rfl, HB.out⟩
  have hq2 : ¬ (8 : Int) < y.size := by omega
  rw [decide_eq_true hx24, decide_eq_true hy0, decide_eq_true hy8, ← tagTo_all, Bool.true_and, Bool.true_and, Bool.true_and] at HI
  have K0 := Lib.hid hc0
  have K1 := Lib.hid hc1
  go_wp2_with fail
  refine (names_ref x (by omega) _).mono ?_
  rintro e w2 ⟨rfl, hb2⟩
  have hd0 := (hb2.cell (p := ⟨g, 0, none⟩) hg2).trans K0.out
  have hd1 := (hb2.cell (p := ⟨g, 1, none⟩) hg2).trans K1.out
  have HB2 := Lib.hid (HB.out.trans (hb2.mono HB.out.size))
  clear hb2 hc0 hc1 K0 K1 HB
  generalize namesL (piecesB x 47) = ok at *
  go_wp2_with fail
  go_loop [7, 8] (fun b i => ∃ k : Nat, k ≤ y.size ∧ i = .int .i64 k ∧ b = .bool (ok && tagTo y.data.toList k)) (fun _ i => y.size - (intOf i).toNat)
  case atStart => exact ⟨0, by omega, rfl, by simp [tagTo]⟩
  case round =>
    obtain ⟨k, hk, rfl, rfl⟩ := hrel
    by_cases hlt : k < y.size
    · have HS := Lib.hid (tagTo_step y k hlt)
      have hout : ∀ b : Bool, (ok && tagTo y.data.toList (k + 1)) = b → Value.bool b = Value.bool (ok && tagTo y.data.toList (k + 1)) := fun b h => by rw [h]
      have HO := Lib.hid hout
      clear hout
      cases hb : (ok && tagTo y.data.toList k) with
      | false =>
        have HF := Lib.hid (show (ok && tagTo y.data.toList (k + 1)) = false by rw [HS.out, ← Bool.and_assoc, hb]; rfl)
        go_wp2_with fail
        go_round
        case rel => exact ⟨k + 1, by omega, by go_num, HO.out _ HF.out⟩
        case measure => simp [intOf]; omega
      | true =>
        have HF := Lib.hid (show (ok && tagTo y.data.toList (k + 1)) = tagB y[k].toNat by rw [HS.out, ← Bool.and_assoc, hb]; rfl)
        rw [tagB_split] at HF
        go_wp2_with fail
        refine (small_ref y[k].toNat y[k].toNat_lt _).mono ?_
        rintro e w' ⟨rfl, rfl⟩
        cases hsm : small y[k].toNat with
        | true =>
          go_wp2_with fail
          go_round
          case rel => exact ⟨k + 1, by omega, by go_num, HO.out _ (by rw [HF.out, hsm]; rfl)⟩
          case measure => simp [intOf]; omega
        | false =>
          by_cases e1 : y[k].toNat = 45
          · have q1 : ((y[k].toNat : Int) == 45) = true := by rw [e1]; rfl
            go_wp2_with fail
            go_round
            case rel => exact ⟨k + 1, by omega, by go_num, HO.out _ (by rw [HF.out, hsm, e1]; rfl)⟩
            case measure => simp [intOf]; omega
          · have q1 : ((y[k].toNat : Int) == 45) = false := beq_false_of_ne (by omega)
            by_cases e2 : y[k].toNat = 46
            · have q2 : ((y[k].toNat : Int) == 46) = true := by rw [e2]; rfl
              go_wp2_with fail
              go_round
              case rel => exact ⟨k + 1, by omega, by go_num, HO.out _ (by rw [HF.out, hsm, e2]; rfl)⟩
              case measure => simp [intOf]; omega
            · have q2 : ((y[k].toNat : Int) == 46) = false := beq_false_of_ne (by omega)
              have p1 : (y[k].toNat == 45) = false := by simpa using e1
              have p2 : (y[k].toNat == 46) = false := by simpa using e2
              have HG := Lib.hid (show (ok && tagTo y.data.toList (k + 1)) = false by rw [HF.out, hsm, p1, p2]; rfl)
              go_wp2_with fail
              go_round
              case rel => exact ⟨k + 1, by omega, by go_num, HO.out _ HG.out⟩
              case measure => simp [intOf]; omega
    · obtain rfl : k = y.size := by omega
      cases hb : (ok && tagTo y.data.toList y.size) with
      | false =>
        have HX := Lib.hid (noImage (by rw [HI.out, hb]))
        go_wp2_with fail
        go_ret3
        exact ⟨by rw [HX.out.1, HX.out.2.1, HX.out.2.2]; rfl, HB2.out⟩
      | true =>
        have HX := Lib.hid (show imageB s = true by rw [HI.out, hb])
        rw [HX.out, if_pos rfl] at HR HT
        go_wp2_with fail
        go_quiet (fail)
        all_goals
          go_wp2_with fail
          go_ret3
          exact ⟨by rw [HX.out, HR.out, HT.out]; rfl, by first | exact HB2.out.drew | exact HB2.out.trans (Kit.below_drewN _ _ _)⟩
end Text
end Go.Proofs.YtjcfajfeodabbaaDoor
