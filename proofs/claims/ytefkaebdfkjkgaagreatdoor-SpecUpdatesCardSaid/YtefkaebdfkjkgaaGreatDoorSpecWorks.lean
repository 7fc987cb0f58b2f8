/-
  The contract of provostlaw06.works: the chapter's example holds. All that was there is left as it was. Condition: as SpecStep.
-/
import Derived.Test.YtefkaebdfkjkgaaGreatDoorSpecMine
import Derived.Test.YtefkaebdfkjkgaaGreatDoorSpecFrozen
import Derived.Test.YtefkaebdfkjkgaaGreatDoorSpecPorts
namespace Go.Proofs.YtefkaebdfkjkgaaGreatDoor
open Go.ChangeShapes Go.WideShapes Go.ChangeAt Go.RowKit Go.Lib
open Sd Lists SpecRef
namespace SpecOwn

theorem i64_0 : I64 0 := by unfold I64; decide
theorem i64_3 : I64 3 := by unfold I64; decide
def t_web : ByteArray := ⟨#[119, 101, 98]⟩
def c_one : Ctr := ⟨⟨#[97]⟩, ⟨#[119, 101, 98, 58, 49]⟩, 0, 0, 0, 0, 0, 0, [], 0, 0⟩
def c_two (s : ByteArray) : Ctr := ⟨s, ⟨#[119, 101, 98, 58, 50]⟩, 0, 0, 0, 0, 0, 0, [80], 0, 0⟩
/-- the example, its second container's name being s -/
def PS (s : ByteArray) : Spc := ⟨t_web, [], [], [c_one, c_two s], 3, 0, 0⟩
def t_b : ByteArray := ⟨#[98]⟩
def t_A : ByteArray := ⟨#[65]⟩
theorem ps_light (s : ByteArray) (hs : s.size ≤ 100) : Book.Light (PS s) := by
  refine ⟨⟨show t_web.size ≤ 100 by decide, by simp [PS], by simp [PS], by simp [PS]⟩, ?_, ?_, ?_⟩
  · intro x hx; cases hx
  · intro x hx; cases hx
  · intro x hx
    simp only [PS, List.mem_cons, List.not_mem_nil, or_false] at hx
    rcases hx with rfl | rfl
    · exact ⟨by decide, by decide, by decide⟩
    · exact ⟨hs, show (⟨#[119, 101, 98, 58, 50]⟩ : ByteArray).size ≤ 100 by decide, by simp [c_two]⟩
theorem ps_fine : checkV (PS t_b) = fine := by decide +kernel
theorem ps_wrong : checkV (PS t_A) = (30, ⟨#[109, 97, 105, 110, 91, 49, 93, 46, 110, 97, 109, 101]⟩) := by decide +kernel
theorem ps_frozen : frozenV (PS t_A) (PS t_A) = (0, []) := by decide +kernel

/-- the example's memory -/
def PsIn (w : World) (gM gP : Nat) (s : ByteArray) : Prop :=
  w.heap[gM]? = some (.cells #[.string ⟨#[97]⟩, .string ⟨#[119, 101, 98, 58, 49]⟩, .int .i64 0, .int .i64 0, .int .i64 0, .int .i64 0, .int .i64 0, .int .i64 0, .slice none 0 0, .int .i64 0, .int .i64 0, .string s, .string ⟨#[119, 101, 98, 58, 50]⟩, .int .i64 0, .int .i64 0, .int .i64 0, .int .i64 0, .int .i64 0, .int .i64 0, .slice (some ⟨gP, 0, none⟩) 1 1, .int .i64 0, .int .i64 0] 44 (0, 0)) ∧
  w.heap[gP]? = some (.cells #[.int .i64 80] 3 (0, 0))
theorem PsIn.keep {w w' : World} {gM gP : Nat} {s : ByteArray} (h : PsIn w gM gP s) (hb : Below w.heap.size w w') : PsIn w' gM gP s :=
  ⟨(hb.block gM (lt_of_block h.1)).trans h.1, (hb.block gP (lt_of_block h.2)).trans h.2⟩
theorem PsIn.spec {w : World} {gM gP : Nat} {s : ByteArray} (h : PsIn w gM gP s) : (PS s).In w none 0 none 0 (some ⟨gM, 0, none⟩) 2 := by
  obtain ⟨h1, h2⟩ := h
  have lt1 := lt_of_block h1
  have lt2 := lt_of_block h2
  refine ⟨?_, ?_, ?_, by simp [PS], by simp [PS], by simp [PS], i64_3, i64_0, i64_0⟩
  · intro k x hk; simp [PS] at hk
  · intro k x hk; simp [PS] at hk
  · intro k x hk
    rcases k with _ | _ | k
    · simp only [PS, List.getElem?_cons_zero, Option.some.injEq] at hk
      subst hk
      refine ⟨⟨i64_0, i64_0, i64_0, i64_0, i64_0, i64_0, i64_0, i64_0, by simp [c_one]⟩, ⟨gM, 0, none⟩, none, 0, rfl, lt1, ?_, fun k z hz => by simp [c_one] at hz⟩
      simp [Ctr.cellsAt, c_one, World.cell?, Addr.add, h1]
    · simp only [PS, List.getElem?_cons_zero, List.getElem?_cons_succ, Option.some.injEq] at hk
      subst hk
      refine ⟨⟨i64_0, i64_0, i64_0, i64_0, i64_0, i64_0, i64_0, i64_0, by simp [c_two]⟩, ⟨gM, 0, none⟩, some ⟨gP, 0, none⟩, 1, rfl, lt1, ?_, ?_⟩
      · simp [Ctr.cellsAt, c_two, World.cell?, Addr.add, h1]
      · intro k z hz
        rcases k with _ | k
        · simp [c_two] at hz
          subst hz
          exact ⟨by decide, _, rfl, lt2, by simp [World.cell?, Addr.add, h2]⟩
        · simp [c_two] at hz
    · simp [PS] at hk

theorem heap_two (w : World) (A B C : Obj) : (((w.alloc A).alloc B).alloc C).heap[w.heap.size + 1 + 1]? = some C := by
  have e : ((w.alloc A).alloc B).heap.size = w.heap.size + 1 + 1 := by simp
  rw [← e]; exact heap_alloc_new _ _
theorem heap_one (w : World) (A B C : Obj) : (((w.alloc A).alloc B).alloc C).heap[w.heap.size + 1]? = some B := by
  have e : (w.alloc A).heap.size = w.heap.size + 1 := by simp
  rw [Below.heap_alloc _ _ _ (by simp), ← e]; exact heap_alloc_new _ _
set_option maxRecDepth 100000 in
theorem plain_any (w : World) : Calls Tryz.prog 48 #[] w fun e w' => ∃ gM gP, e = .returned (.agg #[.string t_web, .slice none 0 0, .slice none 0 0, .slice (some ⟨gM, 0, none⟩) 2 2, .int .i64 3, .int .i64 0, .int .i64 0]) ∧ PsIn w' gM gP t_b ∧ w.heap.size ≤ gM ∧ gM < w'.heap.size ∧ Below w.heap.size w w' := by
  go_enter Tryz.func48, Tryz.ntmps48
  go_wp2
  refine bodyPost_ret (v := .agg #[.string t_web, .slice none 0 0, .slice none 0 0, .slice (some ⟨w.heap.size + 1 + 1, 0, none⟩) 2 2, .int .i64 3, .int .i64 0, .int .i64 0]) (by simp [results, Tryz.f48, go_sem, t_web]) rfl ?_
  exact ⟨_, _, rfl, ⟨heap_two _ _ _ _, heap_one _ _ _ _⟩, by omega, by simp, (((Below.refl _ _).alloc (Nat.le_refl _) _).alloc (by simp) _).alloc (by simp; omega) _⟩

set_option maxRecDepth 100000 in
set_option maxHeartbeats 4000000 in
theorem works_any (w : World) (hL : SLaid w) : Calls Tryz.prog 12 #[] w fun e w' => e = .returned (.bool true) ∧ Below w.heap.size w w' := by
  have HL := Lib.hid hL
  clear hL
  go_enter Tryz.func12, Tryz.ntmps12
  go_wp2_with fail
  refine (plain_any w).mono ?_
  rintro e w1 ⟨gM, gP, rfl, hP, hg, hgl, hb1⟩
  have HP1 := Lib.hid hP
  have HB1 := Lib.hid hb1
  clear hP hb1
  go_wp2_with fail
  obtain ⟨w2, hw2⟩ : ∃ w2, w1.alloc (.cells #[.string t_web, .slice none 0 0, .slice none 0 0, .slice (some ⟨gM, 0, none⟩) 2 2, .int .i64 3, .int .i64 0, .int .i64 0] 25) = w2 := ⟨_, rfl⟩
  have hb2 : Below w1.heap.size w1 w2 := by rw [← hw2]; exact (Below.refl _ _).alloc (Nat.le_refl _) _
  have HP2 := Lib.hid (HP1.out.keep hb2)
  have HB2 := Lib.hid (HB1.out.trans (hb2.mono HB1.out.size))
  have HSB2 := Lib.hid (show SBox (PS t_b) none 0 none 0 (some ⟨gM, 0, none⟩) 2 w2 w1.heap.size by rw [← hw2]; exact heap_alloc_new w1 _)
  rw [hw2]
  obtain ⟨bS, hbS⟩ : ∃ b, w1.heap.size = b := ⟨_, rfl⟩
  rw [hbS] at HSB2 hgl ⊢
  clear hw2 hbS hb2
  have hps := ps_fine
  refine (check_any (PS t_b) none 0 none 0 (some ⟨gM, 0, none⟩) 2 (ps_light t_b (by decide)) w2 (HL.out.below HB2.out) HP2.out.spec).mono ?_
  rw [hps]
  rintro e w3 ⟨E1, rfl, hE1, hb3⟩
  obtain rfl : E1 = .nilIface := hE1.nil_iff.2 rfl
  have HP3 := Lib.hid (HP2.out.keep hb3)
  have HB3 := Lib.hid (HB2.out.trans (hb3.mono HB2.out.size))
  have HSB3 := Lib.hid (HSB2.out.below hb3)
  have c3 : w3.cell? ⟨bS, 3, none⟩ = some (.slice (some ⟨gM, 0, none⟩) 2 2) := HSB3.out.cells.c3
  have hM := HP3.out.1
  have hoff : ∀ k, (w3.setCell ⟨gM, 11, none⟩ (.string ⟨#[65]⟩)).cell? ⟨bS, k, none⟩ = w3.cell? ⟨bS, k, none⟩ := fun k => World.cell?_of_block (Below.heap_setCell _ _ _ _ (by show bS ≠ gM; omega))
  have q0 : (w3.setCell ⟨gM, 11, none⟩ (.string ⟨#[65]⟩)).cell? ⟨bS, 0, none⟩ = some (.string t_web) := (hoff 0).trans HSB3.out.cells.c0
  have q1 : (w3.setCell ⟨gM, 11, none⟩ (.string ⟨#[65]⟩)).cell? ⟨bS, 1, none⟩ = some (.slice none 0 0) := (hoff 1).trans HSB3.out.cells.c1
  have q2 : (w3.setCell ⟨gM, 11, none⟩ (.string ⟨#[65]⟩)).cell? ⟨bS, 2, none⟩ = some (.slice none 0 0) := (hoff 2).trans HSB3.out.cells.c2
  have q3 : (w3.setCell ⟨gM, 11, none⟩ (.string ⟨#[65]⟩)).cell? ⟨bS, 3, none⟩ = some (.slice (some ⟨gM, 0, none⟩) 2 2) := (hoff 3).trans HSB3.out.cells.c3
  have q4 : (w3.setCell ⟨gM, 11, none⟩ (.string ⟨#[65]⟩)).cell? ⟨bS, 4, none⟩ = some (.int .i64 3) := (hoff 4).trans HSB3.out.cells.c4
  have q5 : (w3.setCell ⟨gM, 11, none⟩ (.string ⟨#[65]⟩)).cell? ⟨bS, 5, none⟩ = some (.int .i64 0) := (hoff 5).trans HSB3.out.cells.c5
  have q6 : (w3.setCell ⟨gM, 11, none⟩ (.string ⟨#[65]⟩)).cell? ⟨bS, 6, none⟩ = some (.int .i64 0) := (hoff 6).trans HSB3.out.cells.c6
  have HP4 := Lib.hid (show PsIn (w3.setCell ⟨gM, 11, none⟩ (.string ⟨#[65]⟩)) gM gP t_A from ⟨by simpa [t_A] using heap_setCell_same w3 gM 11 _ _ (.string ⟨#[65]⟩) hM, by
    have hne : gP ≠ gM := fun e => by
      have h2 := HP3.out.2
      rw [e, hM] at h2
      simp at h2
    rw [Below.heap_setCell _ _ _ _ (by show gP ≠ gM; exact hne)]
    exact HP3.out.2⟩)
  have HB4 := Lib.hid (HB3.out.setCell (p := ⟨gM, 11, none⟩) hg (.string ⟨#[65]⟩))
  have m0 : w3.cell? ⟨gM, 11, none⟩ = some (.string t_b) := by simp [World.cell?, hM]
  have m1 : w3.frozen? ⟨gM, 11, none⟩ = false := by simp [World.frozen?, hM]
  clear hE1 hb3 hps hM hoff
  go_wp2_with fail
  have hps := ps_wrong
  refine (check_any (PS t_A) none 0 none 0 (some ⟨gM, 0, none⟩) 2 (ps_light t_A (by decide)) _ (HL.out.below HB4.out) HP4.out.spec).mono ?_
  rw [hps]
  rintro e w5 ⟨E2, rfl, hE2, hb5⟩
  obtain ⟨uu, xx, rfl⟩ : ∃ uu xx, E2 = .iface uu xx := by
    rcases hE2.form with h | h
    · have := hE2.nil_iff.1 h
      simp at this
    · exact h
  have HP5 := Lib.hid (HP4.out.keep hb5)
  have HB5 := Lib.hid (HB4.out.trans (hb5.mono HB4.out.size))
  have HSB5 := Lib.hid (show SBox (PS t_A) none 0 none 0 (some ⟨gM, 0, none⟩) 2 w5 bS from (hb5.block bS (by have := HSB3.out.lt; simpa [World.setCell] using this)).trans ((Below.heap_setCell _ _ _ _ (by show bS ≠ gM; omega)).trans HSB3.out))
  have HE5 := Lib.hid hE2
  clear hE2 hb5 hps q0 q1 q2 q3 q4 q5 q6 m0 m1 c3
  go_wp2_with fail
  refine (text_says HE5.out).mono ?_
  rintro e w6 ⟨rfl, hb6⟩
  have HP6 := Lib.hid (HP5.out.keep hb6)
  have HB6 := Lib.hid (HB5.out.trans (hb6.mono HB5.out.size))
  have HSB6 := Lib.hid (HSB5.out.below hb6)
  have HE6 := Lib.hid (HE5.out.below hb6)
  clear hb6
  go_wp2_with fail
  refine (code_says HE6.out (HL.out.below HB6.out).err).mono ?_
  rintro e w7 ⟨rfl, hb7⟩
  have HP7 := Lib.hid (HP6.out.keep hb7)
  have HB7 := Lib.hid (HB6.out.trans (hb7.mono HB6.out.size))
  have HSB7 := Lib.hid (HSB6.out.below hb7)
  clear hb7
  have c0 : w7.cell? ⟨bS, 0, none⟩ = some (.string t_web) := HSB7.out.cells.c0
  have c1 : w7.cell? ⟨bS, 1, none⟩ = some (.slice none 0 0) := HSB7.out.cells.c1
  have c2 : w7.cell? ⟨bS, 2, none⟩ = some (.slice none 0 0) := HSB7.out.cells.c2
  have c3 : w7.cell? ⟨bS, 3, none⟩ = some (.slice (some ⟨gM, 0, none⟩) 2 2) := HSB7.out.cells.c3
  have c4 : w7.cell? ⟨bS, 4, none⟩ = some (.int .i64 3) := HSB7.out.cells.c4
  have c5 : w7.cell? ⟨bS, 5, none⟩ = some (.int .i64 0) := HSB7.out.cells.c5
  have c6 : w7.cell? ⟨bS, 6, none⟩ = some (.int .i64 0) := HSB7.out.cells.c6
  go_wp2_with fail
  refine (ports_any (PS t_A) none 0 none 0 (some ⟨gM, 0, none⟩) 2 (ps_light t_A (by decide)).2.2.2 (by decide) w7 HP7.out.spec).mono ?_
  rintro e w8 ⟨v, rfl, hown, hb8⟩
  obtain ⟨A', c', rfl⟩ := own_form hown
  have HP8 := Lib.hid (HP7.out.keep hb8)
  have HB8 := Lib.hid (HB7.out.trans (hb8.mono HB7.out.size))
  have HSB8 := Lib.hid (HSB7.out.below hb8)
  have hone : ((PS t_A).main.flatMap (·.ports)).length = 1 := by decide
  rw [hone]
  clear hown hb8 hone c0 c1 c2 c3 c4 c5 c6
  have c0 : w8.cell? ⟨bS, 0, none⟩ = some (.string t_web) := HSB8.out.cells.c0
  have c1 : w8.cell? ⟨bS, 1, none⟩ = some (.slice none 0 0) := HSB8.out.cells.c1
  have c2 : w8.cell? ⟨bS, 2, none⟩ = some (.slice none 0 0) := HSB8.out.cells.c2
  have c3 : w8.cell? ⟨bS, 3, none⟩ = some (.slice (some ⟨gM, 0, none⟩) 2 2) := HSB8.out.cells.c3
  have c4 : w8.cell? ⟨bS, 4, none⟩ = some (.int .i64 3) := HSB8.out.cells.c4
  have c5 : w8.cell? ⟨bS, 5, none⟩ = some (.int .i64 0) := HSB8.out.cells.c5
  have c6 : w8.cell? ⟨bS, 6, none⟩ = some (.int .i64 0) := HSB8.out.cells.c6
  go_wp2_with fail
  have himg : ∀ x ∈ (PS t_A).main, x.image.size ≤ 1000 := fun x hx => Nat.le_trans ((ps_light t_A (by decide)).2.2.2 x hx).2.1 (by decide)
  refine (frozen_any (PS t_A) none 0 none 0 (some ⟨gM, 0, none⟩) 2 (PS t_A) none 0 none 0 (some ⟨gM, 0, none⟩) 2 himg himg (by decide) w8 (HL.out.below HB8.out) HP8.out.spec HP8.out.spec).mono ?_
  rw [ps_frozen]
  rintro e w9 ⟨E, rfl, hE, hb9⟩
  obtain rfl : E = .nilIface := by
    rcases hE with ⟨_, _, h⟩ | ⟨h, _⟩
    · exact h
    · exact absurd rfl h
  have HB9 := Lib.hid (HB8.out.trans (hb9.mono HB8.out.size))
  clear hE hb9 c0 c1 c2 c3 c4 c5 c6 himg
  go_wp2
  go_ret
  exact ⟨rfl, HB9.out⟩
end SpecOwn
end Go.Proofs.YtefkaebdfkjkgaaGreatDoor
