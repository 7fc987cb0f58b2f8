/-
 What follows of what is read and written of calls (pure), and the contract of the example of chapter 8 (provostlaw08.works). Conditions: as AskCheck.
-/
import Derived.Test.YtakdhkhcndeiiaaGreatDoorAskOfX
import Derived.Test.YtakdhkhcndeiiaaGreatDoorAskPut
set_option linter.unusedVariables false
set_option linter.unusedSimpArgs false
namespace Go.Proofs.YtakdhkhcndeiiaaGreatDoor
open Go.ChangeShapes Go.WideShapes Go.ChangeAt Go.RowKit Go.Lib
open LebMath WirePure Sd Wire SpecOwn SpecRef Book Pk
namespace Ak

theorem call_again {c : Cal} (h : (checkC c).1 = 0) (hr : c.rev < 18446744073709551616) : rdC (putC c) = (c, 0, []) := by
 have hb := call_back h hr []
 rw [List.append_nil] at hb
 exact hb
theorem ofC_fine {c : Cal} (h : (checkC c).1 = 0) (hr : c.rev < 18446744073709551616) : ofC (putC c) = fine := by
 have hb := call_again h hr
 have hk1 := (check_fine.1 h).1
 have hk : kindC.rd 0 (putC c) = (c.kind, 0, (fieldsV c.kind).flatMap (putF c)) := by
  unfold putC
  exact kindC.back c.kind _ (int_ok (by omega) (by omega))
 unfold ofC
 rw [hk, if_neg (fun hh => by have : c.kind = 0 := hh.2; omega), hb]
 simp [firstV, newV, endE, fine, h]
theorem ofC_right {l : List UInt8} (h : (ofC l).1 = 0) : (checkC (rdC l).1).1 = 0 ∧ putC (rdC l).1 = l := by
 unfold ofC at h
 split at h
 · simp at h
 · have h1 : endE (rdC l).2.1 (rdC l).2.2 = 0 := by
    by_cases h1 : endE (rdC l).2.1 (rdC l).2.2 = 0
    · exact h1
    · simp [firstV, newV, h1] at h
   have h2 : (checkC (rdC l).1).1 = 0 := by
    by_cases h2 : (checkC (rdC l).1).1 = 0
    · exact h2
    · simp [firstV, newV, h1, fine, h2] at h
   obtain ⟨h3, h4⟩ := endE_zero h1
   have hc := call_canon (l := l) (c := (rdC l).1) (e := (rdC l).2.1) (r := (rdC l).2.2) rfl h3
   rw [h4, List.append_nil] at hc
   exact ⟨h2, hc.symm⟩

def C0 : Cal := { zeroC 12 with id := 5 }
theorem c0_fine : (checkC C0).1 = 0 := by decide +kernel
theorem c0_put : putC C0 = [12, 5] := by decide +kernel
theorem c0_light : LightC C0 := ⟨z0_light, ⟨by simp [C0, zeroC], fun x hx => by simp [C0, zeroC] at hx⟩, by show (0 : Nat) < 300; decide⟩
theorem c0_in (w : World) : C0.In w none 0 none 0 none 0 none :=
 ⟨z0_in w, fun k x hk => (by simp [C0, zeroC] at hk), by simp [C0, zeroC], by show (0 : Nat) < _; decide⟩
theorem of_12 (w : World) (hL : Laid w) :
 Calls Tryz.prog 27 #[.string ⟨#[12, 5]⟩] w fun e w' => Below w.heap.size w w' ∧ ∃ (LA : Option Addr) (lc : Nat) (IA : Option Addr) (ic : Nat) (MA : Option Addr) (mc : Nat) (SA : Option Addr) (sc : Nat), e = .returned (.tuple #[.agg #[.int .i64 12, .int .i64 0, .int .u64 0, .string ⟨#[]⟩, .slice LA 0 lc, .slice IA 0 ic, .slice MA 0 mc, .int .i64 0, .int .i64 0, .int .i64 0, .int .i64 0, .int .i64 0, .int .i64 5, .int .i64 0, .string ⟨#[]⟩, .slice SA 0 sc], .nilIface]) := by
 have h1 : (⟨#[12, 5]⟩ : ByteArray).data.toList = putC C0 := by rw [c0_put]
 refine (ofC_c1 ⟨#[12, 5]⟩ (by decide +kernel) (by decide +kernel) (by rw [h1, ofC_fine c0_fine (by decide)]; rfl) (by show (2 : Nat) ≤ 281474976710656; decide) w hL).mono ?_
 rintro e w' ⟨E, hE, hb, hcase⟩
 rw [h1, ofC_fine c0_fine (by decide), call_again c0_fine (by decide)] at hcase
 rcases hcase with ⟨_, LA, lc, IA, ic, MA, mc, SA, sc, rfl, _⟩ | ⟨hno, _⟩
 · exact ⟨hb, LA, lc, IA, ic, MA, mc, SA, sc, rfl⟩
 · exact absurd rfl hno
theorem of_0 (w : World) (hL : Laid w) :
 Calls Tryz.prog 27 #[.string ⟨#[0]⟩] w fun e w' => ∃ E, e = .returned (.tuple #[.agg #[.int .i64 0, .int .i64 0, .int .u64 0, .string ⟨#[]⟩, .slice none 0 0, .slice none 0 0, .slice none 0 0, .int .i64 0, .int .i64 0, .int .i64 0, .int .i64 0, .int .i64 0, .int .i64 0, .int .i64 0, .string ⟨#[]⟩, .slice none 0 0], E]) ∧ Says (KB 0 w') w' E (80, a_kind) ∧ Below w.heap.size w w' := by
 have h1 : ofC (⟨#[0]⟩ : ByteArray).data.toList = (80, a_kind) := by
  have hk : kindC.rd 0 (⟨#[0]⟩ : ByteArray).data.toList = (0, 0, []) := by decide +kernel
  unfold ofC
  rw [hk, if_pos ⟨rfl, rfl⟩]
 refine (ofC_a ⟨#[0]⟩ (by decide +kernel) (by show (1 : Nat) ≤ 281474976710656; decide) w hL).mono ?_
 rintro e w' ⟨E, hE, hb, hcase⟩
 rw [h1] at hE hcase
 rcases hcase with ⟨h0, _⟩ | ⟨_, rfl⟩
 · simp at h0
 · exact ⟨E, rfl, hE, hb⟩

set_option maxRecDepth 100000 in
set_option maxHeartbeats 2000000 in
theorem works_any (w : World) (hL : Laid w) : Calls Tryz.prog 20 #[] w fun e w' => e = .returned (.bool true) ∧ Below w.heap.size w w' := by
 have HL := Lib.hid hL
 clear hL
 go_enter Tryz.func20, Tryz.ntmps20
 go_wp2_with fail
 refine (bytesC_any C0 none 0 none 0 none 0 none 0 c0_light w HL.out (c0_in w)).mono ?_
 rintro e w1 ⟨hb1, hcase⟩
 rcases hcase with ⟨_, rfl⟩ | ⟨hno, _⟩
 rotate_left
 · exact absurd c0_fine hno
 rw [c0_put]
 have B1 := Lib.hid hb1
 clear hb1
 go_wp2_with fail
 refine (of_12 w1 (HL.out.below B1.out)).mono ?_
 rintro e w2 ⟨hb2, LA, lc, IA, ic, MA, mc, SA, sc, rfl⟩
 have B2 := Lib.hid (B1.out.trans (hb2.mono B1.out.size))
 clear hb2
 go_wp2_with fail
 obtain ⟨w3, hw3⟩ : ∃ v, w2.alloc (.cells #[.int .i64 12, .int .i64 0, .int .u64 0, .string ⟨#[]⟩, .slice LA 0 lc, .slice IA 0 ic, .slice MA 0 mc, .int .i64 0, .int .i64 0, .int .i64 0, .int .i64 0, .int .i64 0, .int .i64 5, .int .i64 0, .string ⟨#[]⟩, .slice SA 0 sc] 41) = v := ⟨_, rfl⟩
 have hb3 : Below w2.heap.size w2 w3 := by rw [← hw3]; exact (Below.refl _ _).alloc (Nat.le_refl _) _
 have X3 := Lib.hid (show w3.heap[w2.heap.size]? = some (.cells #[.int .i64 12, .int .i64 0, .int .u64 0, .string ⟨#[]⟩, .slice LA 0 lc, .slice IA 0 ic, .slice MA 0 mc, .int .i64 0, .int .i64 0, .int .i64 0, .int .i64 0, .int .i64 0, .int .i64 5, .int .i64 0, .string ⟨#[]⟩, .slice SA 0 sc] 41) by rw [← hw3]; exact heap_alloc_new w2 _)
 have B3 := Lib.hid (B2.out.trans (hb3.mono B2.out.size))
 first | rw [hw3] | skip
 obtain ⟨b, hb⟩ : ∃ b, w2.heap.size = b := ⟨_, rfl⟩
 rw [hb] at X3 ⊢
 clear hb hb3 hw3
 refine (of_0 w3 (HL.out.below B3.out)).mono ?_
 rintro e w4 ⟨E, rfl, hE, hb4⟩
 have X4 := Lib.hid ((hb4.block b (lt_of_block X3.out)).trans X3.out)
 have B4 := Lib.hid (B3.out.trans (hb4.mono B3.out.size))
 have HE4 := Lib.hid hE
 clear hE hb4 X3
 have n0 := fun o => box_cell (((Below.refl w4.heap.size w4).alloc (Nat.le_refl _) o).block b (lt_of_block X4.out) |>.trans X4.out) 0 rfl
 have n12 := fun o => box_cell (((Below.refl w4.heap.size w4).alloc (Nat.le_refl _) o).block b (lt_of_block X4.out) |>.trans X4.out) 12 rfl
 go_wp2_with fail
 obtain ⟨w5, hw5⟩ : ∃ v, w4.alloc (.cells #[.int .i64 0, .int .i64 0, .int .u64 0, .string ⟨#[]⟩, .slice none 0 0, .slice none 0 0, .slice none 0 0, .int .i64 0, .int .i64 0, .int .i64 0, .int .i64 0, .int .i64 0, .int .i64 0, .int .i64 0, .string ⟨#[]⟩, .slice none 0 0] 41) = v := ⟨_, rfl⟩
 have hb5 : Below w4.heap.size w4 w5 := by rw [← hw5]; exact (Below.refl _ _).alloc (Nat.le_refl _) _
 have B5 := Lib.hid (B4.out.trans (hb5.mono B4.out.size))
 have HE5 := Lib.hid (says_b HE4.out hb5)
 first | rw [hw5] | skip
 clear hb5 hw5 n0 n12
 refine (code_says HE5.out (HL.out.below B5.out).spec.err).mono ?_
 rintro e w6 ⟨rfl, hb6⟩
 have B6 := Lib.hid (B5.out.trans (hb6.mono B5.out.size))
 clear hb6
 go_wp2_with fail
 refine (name_any 1 w6 (HL.out.below B6.out)).mono ?_
 rintro e w7 ⟨rfl, rfl⟩
 have hn : nameV 1 = ⟨#[114, 117, 110]⟩ := by decide
 rw [hn]
 go_wp2
 go_ret
 exact ⟨rfl, B6.out⟩
end Ak
end Go.Proofs.YtakdhkhcndeiiaaGreatDoor
