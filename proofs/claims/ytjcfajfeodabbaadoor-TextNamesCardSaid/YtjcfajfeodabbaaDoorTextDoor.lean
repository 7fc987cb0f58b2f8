/-
  The contracts of package text's exported functions Name, Key, Val, Image, Split, Same: each tells what the document's words say; all that was there is left as it was. Conditions: the table and internal/bytealg.MaxLen hold what they may (Laid); a text that is cut has at most 4294967280 bytes.
-/
import Derived.Test.YtjcfajfeodabbaaDoorTextParts
namespace Go.Proofs.YtjcfajfeodabbaaDoor
open Go.ChangeShapes Go.WideShapes Go.ChangeAt Go.RowKit
open TextPure
namespace Text

/-- is the text an image? -/
def imageB (s : ByteArray) : Bool := imageL s.data.toList
theorem imageB_eq (s : ByteArray) : imageB s = (hasB s 58 && repoL (fstB s 58).data.toList && tagL (sndB s 58).data.toList) := by
  unfold imageB imageL fstB sndB hasB
  simp

set_option maxRecDepth 100000 in
theorem parts_any (s : ByteArray) (hs : s.size < 4294967281) (w : World) (hL : Laid w) :
    Calls Tryd.prog 26 #[.string s] w fun e w' => e = .returned (.tuple #[.string (fstB s 58), .string (sndB s 58), .bool (imageB s)]) ∧ Below w.heap.size w w' := by
  have HE := Lib.hid (imageB_eq s)
  have h1 := Lib.hid (show (fstB s 58).size < 4294967281 by have := fstB_size s 58; omega)
  have h2 := Lib.hid (show (sndB s 58).size ≤ maxLen by have := sndB_size s 58; unfold maxLen; omega)
  have HL := Lib.hid hL
  clear hL
  go_enter Tryd.func26, Tryd.ntmps26
  go_wp2_with fail
  refine (cut_any s 58 hs _ HL.out).mono ?_
  rintro e w1 ⟨rfl, hb⟩
  have HB := Lib.hid hb
  have HL1 := Lib.hid (HL.out.below hb)
  clear hb HL
  cases hh : hasB s 58 with
  | false =>
    go_wp2_with fail
    go_ret3
    exact ⟨by rw [HE.out, hh]; rfl, HB.out⟩
  | true =>
    go_wp2_with fail
    refine (isRepo_any (fstB s 58) h1.out _ HL1.out).mono ?_
    rintro e w2 ⟨rfl, hb2⟩
    have HB2 := Lib.hid (HB.out.trans (hb2.mono HB.out.size))
    have HL2 := Lib.hid (HL1.out.below hb2)
    clear hb2 HL1 HB
    cases hr : repoL (fstB s 58).data.toList with
    | false =>
      go_wp2_with fail
      go_ret3
      exact ⟨by rw [HE.out, hh, hr]; rfl, HB2.out⟩
    | true =>
      go_wp2_with fail
      refine (isTag_any (sndB s 58) h2.out _ HL2.out).mono ?_
      rintro e w' ⟨rfl, rfl⟩
      go_wp2_with fail
      go_ret3
      exact ⟨by rw [HE.out, hh, hr]; rfl, HB2.out⟩

theorem name_any (s : ByteArray) (hs : s.size ≤ maxLen) (w : World) (hL : Laid w) :
    Calls Tryd.prog 9 #[.string s] w fun e w' => e = .returned (.int .i64 (codeN (nameL s.data.toList) 30)) ∧ w = w' := by
  have HL := Lib.hid hL
  clear hL
  go_enter Tryd.func9, Tryd.ntmps9
  go_wp2_with fail
  refine (isName_any s hs _ HL.out).mono ?_
  rintro e w' ⟨rfl, rfl⟩
  go_wp2_with fail
  refine (unless_any _ _ _).mono ?_
  rintro e w' ⟨rfl, rfl⟩
  go_wp2_with fail
  go_ret
  exact ⟨rfl, rfl⟩

theorem val_any (s : ByteArray) (hs : s.size ≤ maxLen) (w : World) (hL : Laid w) :
    Calls Tryd.prog 14 #[.string s] w fun e w' => e = .returned (.int .i64 (codeN (valL s.data.toList) 32)) ∧ w = w' := by
  have HL := Lib.hid hL
  clear hL
  go_enter Tryd.func14, Tryd.ntmps14
  go_wp2_with fail
  refine (isVal_any s hs _ HL.out).mono ?_
  rintro e w' ⟨rfl, rfl⟩
  go_wp2_with fail
  refine (unless_any _ _ _).mono ?_
  rintro e w' ⟨rfl, rfl⟩
  go_wp2_with fail
  go_ret
  exact ⟨rfl, rfl⟩

theorem key_any (s : ByteArray) (hs : s.size < 4294967281) (w : World) (hL : Laid w) :
    Calls Tryd.prog 12 #[.string s] w fun e w' => e = .returned (.int .i64 (codeN (keyL s.data.toList) 31)) ∧ Below w.heap.size w w' := by
  have HL := Lib.hid hL
  clear hL
  go_enter Tryd.func12, Tryd.ntmps12
  go_wp2_with fail
  refine (isKey_any s hs _ HL.out).mono ?_
  rintro e w1 ⟨rfl, hb⟩
  go_wp2_with fail
  refine (unless_any _ _ _).mono ?_
  rintro e w' ⟨rfl, rfl⟩
  go_wp2_with fail
  go_ret
  exact ⟨rfl, hb⟩

theorem image_any (s : ByteArray) (hs : s.size < 4294967281) (w : World) (hL : Laid w) :
    Calls Tryd.prog 16 #[.string s] w fun e w' => e = .returned (.int .i64 (codeN (imageB s) 33)) ∧ Below w.heap.size w w' := by
  have HL := Lib.hid hL
  clear hL
  go_enter Tryd.func16, Tryd.ntmps16
  go_wp2_with fail
  refine (parts_any s hs _ HL.out).mono ?_
  rintro e w1 ⟨rfl, hb⟩
  go_wp2_with fail
  refine (unless_any _ _ _).mono ?_
  rintro e w' ⟨rfl, rfl⟩
  go_wp2_with fail
  go_ret
  exact ⟨rfl, hb⟩

/-- an image's repository and tag; of what is none the empty text -/
def repoB (s : ByteArray) : ByteArray := if imageB s then fstB s 58 else ⟨#[]⟩
def tagB' (s : ByteArray) : ByteArray := if imageB s then sndB s 58 else ⟨#[]⟩

set_option maxRecDepth 100000 in
theorem textsplit_any (s : ByteArray) (hs : s.size < 4294967281) (w : World) (hL : Laid w) :
    Calls Tryd.prog 17 #[.string s] w fun e w' => e = .returned (.tuple #[.string (repoB s), .string (tagB' s)]) ∧ Below w.heap.size w w' := by
  have HL := Lib.hid hL
  have h1 := Lib.hid (show (fstB s 58).size ≤ 281474976710656 by have := fstB_size s 58; omega)
  have h2 := Lib.hid (show (sndB s 58).size ≤ 281474976710656 by have := sndB_size s 58; omega)
  clear hL
  go_enter Tryd.func17, Tryd.ntmps17
  go_wp2_with fail
  refine (parts_any s hs _ HL.out).mono ?_
  rintro e w1 ⟨rfl, hb⟩
  have HB := Lib.hid hb
  clear hb
  cases hi : imageB s with
  | false =>
    go_wp2_with fail
    go_ret2
    exact ⟨by unfold repoB tagB'; rw [hi]; rfl, HB.out⟩
  | true =>
    go_wp2_with fail
    refine (clone_any _ h1.out _).mono ?_
    rintro e w2 ⟨rfl, hb2⟩
    have HB2 := Lib.hid (HB.out.trans (hb2.mono HB.out.size))
    clear hb2 HB
    go_wp2_with fail
    refine (clone_any _ h2.out _).mono ?_
    rintro e w3 ⟨rfl, hb3⟩
    have HB3 := Lib.hid (HB2.out.trans (hb3.mono HB2.out.size))
    clear hb3 HB2
    go_wp2_with fail
    go_ret2
    exact ⟨by unfold repoB tagB'; rw [hi]; rfl, HB3.out⟩

/-- are both images of one repository? -/
def sameB (a b : ByteArray) : Bool := imageB a && imageB b && ((fstB a 58).toList == (fstB b 58).toList)

set_option maxRecDepth 100000 in
theorem same_any (a b : ByteArray) (ha : a.size < 4294967281) (hb : b.size < 4294967281) (w : World) (hL : Laid w) :
    Calls Tryd.prog 18 #[.string a, .string b] w fun e w' => e = .returned (.bool (sameB a b)) ∧ Below w.heap.size w w' := by
  have HL := Lib.hid hL
  clear hL
  go_enter Tryd.func18, Tryd.ntmps18
  go_wp2_with fail
  refine (parts_any a ha _ HL.out).mono ?_
  rintro e w1 ⟨rfl, hb1⟩
  have HB := Lib.hid hb1
  have HL1 := Lib.hid (HL.out.below hb1)
  clear hb1 HL
  go_wp2_with fail
  refine (parts_any b hb _ HL1.out).mono ?_
  rintro e w2 ⟨rfl, hb2⟩
  have HB2 := Lib.hid (HB.out.trans (hb2.mono HB.out.size))
  clear hb2 HB HL1
  cases h1 : imageB a with
  | false =>
    go_wp2_with fail
    go_ret
    exact ⟨by unfold sameB; rw [h1]; rfl, HB2.out⟩
  | true =>
    cases h2 : imageB b with
    | false =>
      go_wp2_with fail
      go_ret
      exact ⟨by unfold sameB; rw [h1, h2]; rfl, HB2.out⟩
    | true =>
      go_wp2_with fail
      go_ret
      exact ⟨by unfold sameB; rw [h1, h2]; rfl, HB2.out⟩
end Text
end Go.Proofs.YtjcfajfeodabbaaDoor
