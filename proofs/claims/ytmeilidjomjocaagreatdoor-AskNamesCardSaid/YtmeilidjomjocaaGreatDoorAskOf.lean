/-
  The contract of ask.Of: the call that the bytes say, or the first error. Conditions: as AskCheck; the text has at most 2^48 bytes.
-/
import Derived.Test.YtmeilidjomjocaaGreatDoorAskAll
set_option linter.unusedVariables false
set_option linter.unusedSimpArgs false
namespace Go.Proofs.YtmeilidjomjocaaGreatDoor
open Go.ChangeShapes Go.WideShapes Go.ChangeAt Go.RowKit Go.Lib
open LebMath WirePure Sd Wire SpecOwn SpecRef Book Pk
namespace Ak

/-- a call's lists in blocks from B on -/
structure CalUp (B : Nat) (c : Cal) (w : World) (LA IA MA SA : Option Addr) : Prop where
  spec : SpcUp B c.spec w LA IA MA
  sel : Lbls w SA c.sel
  sfrom : From B SA
  rev : c.rev < 18446744073709551616
  light : LightC c
theorem CalUp.in {B : Nat} {c : Cal} {w : World} {LA IA MA SA : Option Addr} {lc ic mc : Nat} (h : CalUp B c w LA IA MA SA) : c.In w LA lc IA ic MA mc SA :=
  ⟨h.spec.in, h.sel, by have := h.light.sel.1; omega, by have := h.light.data; omega, h.rev⟩
theorem CalUp.below {B : Nat} {c : Cal} {w v : World} {LA IA MA SA : Option Addr} (h : CalUp B c w LA IA MA SA) (hb : Below w.heap.size w v) : CalUp B c v LA IA MA SA := ⟨h.spec.below hb, h.sel.below hb, h.sfrom, h.rev, h.light⟩
theorem CalUp.aside {B g : Nat} {c : Cal} {w v : World} {LA IA MA SA : Option Addr} (h : CalUp B c w LA IA MA SA) (hg : g < B) (hk : Wire.Aside g w v) : CalUp B c v LA IA MA SA := ⟨h.spec.aside hg hk, lbls_aside h.sel h.sfrom hg hk, h.sfrom, h.rev, h.light⟩
theorem CalUp.only {B b : Nat} {c : Cal} {w v : World} {LA IA MA SA : Option Addr} (h : CalUp B c w LA IA MA SA) (ho : Only b w v) (hb : b < B) : CalUp B c v LA IA MA SA := ⟨ho.spc h.spec hb (Nat.le_refl _), ho.lbls h.sel (fun a ha => by have := h.sfrom a ha; omega), h.sfrom, h.rev, h.light⟩
theorem CalUp.less {B B' : Nat} {c : Cal} {w : World} {LA IA MA SA : Option Addr} (h : CalUp B c w LA IA MA SA) (hB : B' ≤ B) : CalUp B' c w LA IA MA SA := ⟨spc_less h.spec hB, h.sel, fun a ha => Nat.le_trans hB (h.sfrom a ha), h.rev, h.light⟩
theorem CallAt.up {b B : Nat} {c : Cal} {w : World} (h : CallAt b B c w) : ∃ (LA : Option Addr) (lc : Nat) (IA : Option Addr) (ic : Nat) (MA : Option Addr) (mc : Nat) (SA : Option Addr) (sc : Nat), w.heap[b]? = some (.cells #[.int .i64 c.kind, .int .i64 c.uid, .int .u64 c.rev, .string c.spec.name, .slice LA c.spec.labels.length lc, .slice IA c.spec.init.length ic, .slice MA c.spec.main.length mc, .int .i64 c.spec.restart, .int .i64 c.spec.grace, .int .i64 c.spec.prio, .int .i64 c.grace, .int .i64 c.ctr, .int .i64 c.id, .int .i64 c.most, .string c.data, .slice SA c.sel.length sc] 51 (0, 0)) ∧ CalUp B c w LA IA MA SA := by
  obtain ⟨LA, lc, IA, ic, MA, mc, SA, sc, h1, h2, h3, h4, h5, h6⟩ := h
  exact ⟨LA, lc, IA, ic, MA, mc, SA, sc, h1, h2, h3, h4, h5, h6⟩
theorem z0_light : Light Z0 := LightB_iff.1 (by decide +kernel)
theorem zero_light (k : Int) : LightC (zeroC k) := ⟨z0_light, ⟨by simp [zeroC], fun x hx => by simp [zeroC] at hx⟩, by show (0 : Nat) < 300; decide⟩
theorem zero_up (B : Nat) (w : World) : SpcUp B Z0 w none none none :=
  ⟨fun k x hk => (by simp [Z0] at hk), fun a ha => (by cases ha), fun k x hk => (by simp [Z0] at hk), fun k x hk => (by simp [Z0] at hk), ⟨⟨by simp [Z0], by simp [Z0], by simp [Z0]⟩, by unfold I64 Z0; decide, by unfold I64 Z0; decide, by unfold I64 Z0; decide⟩⟩
theorem zero_at {b B : Nat} {k : Int} {w : World} (h : w.heap[b]? = some (.cells #[.int .i64 k, .int .i64 0, .int .u64 0, .string ⟨#[]⟩, .slice none 0 0, .slice none 0 0, .slice none 0 0, .int .i64 0, .int .i64 0, .int .i64 0, .int .i64 0, .int .i64 0, .int .i64 0, .int .i64 0, .string ⟨#[]⟩, .slice none 0 0] 51 (0, 0))) : CallAt b B (zeroC k) w :=
  ⟨none, 0, none, 0, none, 0, none, 0, h, zero_up B w, fun k x hk => (by simp [zeroC] at hk), fun a ha => (by cases ha), by show (0 : Nat) < _; decide, zero_light k⟩
theorem zero_in (k : Int) (w : World) : (zeroC k).In w none 0 none 0 none 0 none :=
  ⟨z0_in w, fun k x hk => (by simp [zeroC] at hk), by simp [zeroC], by show (0 : Nat) ≤ _; decide, by show (0 : Nat) < _; decide⟩

/-- a call's value, by name (short terms) -/
def cval (c : Cal) (LA : Option Addr) (lc : Nat) (IA : Option Addr) (ic : Nat) (MA : Option Addr) (mc : Nat) (SA : Option Addr) (sc : Nat) : Value := .agg #[.int .i64 c.kind, .int .i64 c.uid, .int .u64 c.rev, .string c.spec.name, .slice LA c.spec.labels.length lc, .slice IA c.spec.init.length ic, .slice MA c.spec.main.length mc, .int .i64 c.spec.restart, .int .i64 c.spec.grace, .int .i64 c.spec.prio, .int .i64 c.grace, .int .i64 c.ctr, .int .i64 c.id, .int .i64 c.most, .string c.data, .slice SA c.sel.length sc]
/-- a box without a slice in its second cell is no error's step -/
theorem isin_num {D : Nat → Prop} {w v : World} {E : Value} {c : Int} {p : List ByteArray} {b : Nat} {q : IntKind} {z : Int} (h : IsIn D w E c p) (ho : Only b w v) (h0 : w.cell? ⟨b, 0, none⟩ = some (.int q z)) : IsIn (KB 0 v) v E c p := by
  induction h with
  | code c => exact .code c
  | step b' E s c p hd h2 h3 hr ih =>
    by_cases e : b' = b
    · subst e
      rw [h0] at h2
      cases h2
    · have hk := ho.block b' e
      exact .step b' E s c p (Nat.zero_le _) ((World.cell?_of_block (w := w) (a := ⟨b', 0, none⟩) hk).trans h2) ((World.cell?_of_block (w := w) (a := ⟨b', 1, none⟩) hk).trans h3) ih
theorem _root_.Go.Proofs.YtmeilidjomjocaaGreatDoor.Pk.Only.says3 {D : Nat → Prop} {w v : World} {E : Value} {y : Say} {b : Nat} {q : IntKind} {z : Int} {xs : List Value} {t : TypeId} (ho : Only b w v) (h : Says D w E y) (hz : w.heap[b]? = some (.cells (Value.int q z :: xs).toArray t (0, 0))) : Says (KB 0 v) v E y := by
  rcases h with h | ⟨h0, hs, p, h1, h2, h4⟩
  · exact .inl h
  · exact .inr ⟨h0, hs, p, isin_num h1 ho (q := q) (z := z) (by simp [World.cell?, hz]), h2, h4⟩
/-- what each operation leaves -/
def FOf (g : Nat) (e1 : Int) (l1 : List UInt8) (c : Cal) (LA : Option Addr) (lc : Nat) (IA : Option Addr) (ic : Nat) (MA : Option Addr) (mc : Nat) (SA : Option Addr) (sc : Nat) : Nat → Value → World → Prop
  | 0 => fun v _ => v = .pointer (some ⟨g, 0, none⟩)
  | 1 => fun v _ => v = .int .i64 (endE e1 l1)
  | 2 => TextK (KR g) t_wire
  | 3 => SaysK (KR g) (newV (endE e1 l1) t_wire)
  | 4 => fun v _ => v = cval c LA lc IA ic MA mc SA sc
  | 5 => SaysK (KR g) (checkC c)
  | 6 => RowK (KR g) [newV (endE e1 l1) t_wire, checkC c]
  | 7 => SaysK (KR g) (firstV [newV (endE e1 l1) t_wire, checkC c])
  | _ => SaysK (KR g) (firstV [newV (endE e1 l1) t_wire, checkC c])
theorem FOf_keep (g : Nat) (e1 : Int) (l1 : List UInt8) (c : Cal) (LA : Option Addr) (lc : Nat) (IA : Option Addr) (ic : Nat) (MA : Option Addr) (mc : Nat) (SA : Option Addr) (sc : Nat) (i : Nat) (v : Value) (w w' : World) (h : FOf g e1 l1 c LA lc IA ic MA mc SA sc i v w) (hb : AR g w w') : FOf g e1 l1 c LA lc IA ic MA mc SA sc i v w' := by
  unfold FOf at h ⊢
  split at h <;> first | exact h | exact TextK.keep h (kr_keep hb.1) | exact SaysK.keep h (kr_keep hb.1) | exact RowK.keep h (kr_keep hb.1)
def ofPlan (g : Nat) (e1 : Int) (l1 : List UInt8) (c : Cal) (LA : Option Addr) (lc : Nat) (IA : Option Addr) (ic : Nat) (MA : Option Addr) (mc : Nat) (SA : Option Addr) (sc : Nat) : Line.Plan where
  A := AR g
  refl := fun w => ⟨Wire.Aside.refl g w, fun h => h⟩
  trans := fun h k => ⟨h.1.trans k.1, fun x => k.2 (h.2 x)⟩
  below := fun h => ⟨Wire.Aside.of_below h, fun ⟨z, hz⟩ => ⟨z, (h.cell (World.block_lt_of_cell? _ _ hz)).trans hz⟩⟩
  cs := [1]
  G := fun j w => if j = 0 then Rd w g e1 l1 else Rd w g (endE e1 l1) l1
  F := FOf g e1 l1 c LA lc IA ic MA mc SA sc
  keepG := fun j w w' hg hb => by
    split at hg
    · next e => rw [if_pos e]; exact hg.below hb
    · next e => rw [if_neg e]; exact hg.below hb
  keepF := fun i v w w' hf hb => FOf_keep g e1 l1 c LA lc IA ic MA mc SA sc i v w w' hf hb
theorem of_quiet {g : Nat} {e1 : Int} {l1 : List UInt8} {c : Cal} {LA : Option Addr} {lc : Nat} {IA : Option Addr} {ic : Nat} {MA : Option Addr} {mc : Nat} {SA : Option Addr} {sc : Nat} {i : Nat} (hi : i ≠ 1) : i ∉ (ofPlan g e1 l1 c LA lc IA ic MA mc SA sc).cs := by simpa [ofPlan] using hi
theorem results_of (tmps : Array Value) (w : World) (b : Nat) (E : Value) (m0 m1 m2 m7 m8 m9 m10 m11 m12 m13 : Int) (s3 s14 : ByteArray) (A4 A5 A6 A15 : Option Addr) (l4 l5 l6 l15 k4 k5 k6 k15 : Nat)
    (h2 : tmps.getD 2 undef = .pointer (some ⟨b, 0, none⟩)) (h3 : tmps.getD 3 undef = E)
    (c0 : w.cell? ⟨b, 0, none⟩ = some (.int .i64 m0)) (c1 : w.cell? ⟨b, 1, none⟩ = some (.int .i64 m1)) (c2 : w.cell? ⟨b, 2, none⟩ = some (.int .u64 m2)) (c3 : w.cell? ⟨b, 3, none⟩ = some (.string s3))
    (c4 : w.cell? ⟨b, 4, none⟩ = some (.slice A4 l4 k4)) (c5 : w.cell? ⟨b, 5, none⟩ = some (.slice A5 l5 k5)) (c6 : w.cell? ⟨b, 6, none⟩ = some (.slice A6 l6 k6))
    (c7 : w.cell? ⟨b, 7, none⟩ = some (.int .i64 m7)) (c8 : w.cell? ⟨b, 8, none⟩ = some (.int .i64 m8)) (c9 : w.cell? ⟨b, 9, none⟩ = some (.int .i64 m9)) (c10 : w.cell? ⟨b, 10, none⟩ = some (.int .i64 m10)) (c11 : w.cell? ⟨b, 11, none⟩ = some (.int .i64 m11))
    (c12 : w.cell? ⟨b, 12, none⟩ = some (.int .i64 m12)) (c13 : w.cell? ⟨b, 13, none⟩ = some (.int .i64 m13)) (c14 : w.cell? ⟨b, 14, none⟩ = some (.string s14)) (c15 : w.cell? ⟨b, 15, none⟩ = some (.slice A15 l15 k15)) :
    (results Tryz.f33 tmps).run Tryz.prog w = .ok (.tuple #[.agg #[.int .i64 m0, .int .i64 m1, .int .u64 m2, .string s3, .slice A4 l4 k4, .slice A5 l5 k5, .slice A6 l6 k6, .int .i64 m7, .int .i64 m8, .int .i64 m9, .int .i64 m10, .int .i64 m11, .int .i64 m12, .int .i64 m13, .string s14, .slice A15 l15 k15], E]) w := by
  simp only [Array.getD_eq_getD_getElem?] at h2 h3
  simp [results, Tryz.results33, go_sem, h2, h3, c0, c1, c2, c3, c4, c5, c6, c7, c8, c9, c10, c11, c12, c13, c14, c15]

theorem rdFs_take (fl : List Int) (c : Cal) (e : Int) (l : List UInt8) (j : Nat) (f : Int) (hf : fl[j]? = some f) : rdFs (fl.take (j + 1)) c e l = rdF f (rdFs (fl.take j) c e l).1 (rdFs (fl.take j) c e l).2.1 (rdFs (fl.take j) c e l).2.2 := by
  rw [List.take_add_one, hf]
  exact rdFs_snoc _ f c e l

set_option maxRecDepth 100000 in
set_option maxHeartbeats 4000000 in
theorem ofC_a (s : ByteArray) (hx : (kindC.rd 0 s.data.toList).2.1 = 0 ∧ (kindC.rd 0 s.data.toList).1 = 0) (hl : Few s.data.toList) (w : World) (hL : Laid w) :
    Calls Tryz.prog 33 #[.string s] w fun e w' => ∃ E, Says (KB 0 w') w' E (ofC s.data.toList) ∧ Below w.heap.size w w' ∧
      (((ofC s.data.toList).1 = 0 ∧ ∃ (LA : Option Addr) (lc : Nat) (IA : Option Addr) (ic : Nat) (MA : Option Addr) (mc : Nat) (SA : Option Addr) (sc : Nat), e = .returned (.tuple #[.agg #[.int .i64 (rdC s.data.toList).1.kind, .int .i64 (rdC s.data.toList).1.uid, .int .u64 (rdC s.data.toList).1.rev, .string (rdC s.data.toList).1.spec.name, .slice LA (rdC s.data.toList).1.spec.labels.length lc, .slice IA (rdC s.data.toList).1.spec.init.length ic, .slice MA (rdC s.data.toList).1.spec.main.length mc, .int .i64 (rdC s.data.toList).1.spec.restart, .int .i64 (rdC s.data.toList).1.spec.grace, .int .i64 (rdC s.data.toList).1.spec.prio, .int .i64 (rdC s.data.toList).1.grace, .int .i64 (rdC s.data.toList).1.ctr, .int .i64 (rdC s.data.toList).1.id, .int .i64 (rdC s.data.toList).1.most, .string (rdC s.data.toList).1.data, .slice SA (rdC s.data.toList).1.sel.length sc], .nilIface]) ∧ CalUp w.heap.size (rdC s.data.toList).1 w' LA IA MA SA) ∨
       ((ofC s.data.toList).1 ≠ 0 ∧ e = .returned (.tuple #[.agg #[.int .i64 0, .int .i64 0, .int .u64 0, .string ⟨#[]⟩, .slice none 0 0, .slice none 0 0, .slice none 0 0, .int .i64 0, .int .i64 0, .int .i64 0, .int .i64 0, .int .i64 0, .int .i64 0, .int .i64 0, .string ⟨#[]⟩, .slice none 0 0], E]))) := by
  have HL := Lib.hid hL
  have HFW := Lib.hid hl
  obtain ⟨⟨k, e0, l0⟩, hqk⟩ : ∃ t, kindC.rd 0 s.data.toList = t := ⟨_, rfl⟩
  have HQK := Lib.hid hqk
  obtain ⟨⟨c, e1, l1⟩, hqc⟩ : ∃ t, rdFs (fieldsV k) (zeroC k) e0 l0 = t := ⟨_, rfl⟩
  have HQC := Lib.hid hqc
  have HRC := Lib.hid (show rdC s.data.toList = (c, e1, l1) by unfold rdC; rw [hqk]; exact hqc)
  have HFW0 := Lib.hid (few (C := kindC) hqk hl)
  have hkr := kindC.okay 0 s.data.toList
  rw [hqk] at hkr
  have hkr' := int_rng (show (intC 12 (by decide)).ok k from hkr)
  rw [HRC.out]
  obtain ⟨w1, hw1⟩ : ∃ v, w.alloc (.cells #[.int .i64 0, .int .i64 0, .int .u64 0, .string ⟨#[]⟩, .slice none 0 0, .slice none 0 0, .slice none 0 0, .int .i64 0, .int .i64 0, .int .i64 0, .int .i64 0, .int .i64 0, .int .i64 0, .int .i64 0, .string ⟨#[]⟩, .slice none 0 0] 51) = v := ⟨_, rfl⟩
  have B1 := Lib.hid (show Below w.heap.size w w1 by rw [← hw1]; exact (Below.refl _ _).alloc (Nat.le_refl _) _)
  have Z1 := Lib.hid (show w1.heap[w.heap.size]? = some (.cells #[.int .i64 0, .int .i64 0, .int .u64 0, .string ⟨#[]⟩, .slice none 0 0, .slice none 0 0, .slice none 0 0, .int .i64 0, .int .i64 0, .int .i64 0, .int .i64 0, .int .i64 0, .int .i64 0, .int .i64 0, .string ⟨#[]⟩, .slice none 0 0] 51) by rw [← hw1]; exact heap_alloc_new w _)
  clear hL hl hqk hqc hkr
  go_enter Tryz.func33, Tryz.ntmps33
  go_wp2_with fail
  refine (read_any s w1).mono ?_
  rintro e w2 ⟨rfl, h2, hb2, _⟩
  clear hw1
  obtain ⟨b0, hb0⟩ : ∃ b, w.heap.size = b := ⟨_, rfl⟩
  obtain ⟨g, hg⟩ : ∃ b, w1.heap.size = b := ⟨_, rfl⟩
  have hz2 := (hb2.block w.heap.size (lt_of_block Z1.out)).trans Z1.out
  have hbg : b0 < g := by rw [← hb0, ← hg]; exact lt_of_block Z1.out
  rw [hb0] at hz2 ⊢
  rw [hg] at h2 ⊢
  have R2 := Lib.hid h2
  have B2 := Lib.hid (B1.out.trans (hb2.mono B1.out.size))
  have Z2 := Lib.hid hz2
  have HB0 := Lib.hid hb0
  clear h2 hb2 hz2 hb0 hg
  go_wp2_with fail
  refine (num_rd g 12 12 (by decide) (by decide) (by decide) 0 s.data.toList HFW.out k e0 l0 HQK.out w2 R2.out).mono ?_
  rintro e w3 ⟨rfl, h3, k3⟩
  have B3 := Lib.hid (B2.out.trans (k3.below (fun i hi => ⟨Nat.lt_of_lt_of_le hi B2.out.size, by have := HB0.out; omega⟩)))
  have Z3 := Lib.hid ((k3.block b0 ⟨lt_of_block Z2.out, by omega⟩).trans Z2.out)
  have R3 := Lib.hid h3
  have hg3 : g < w3.heap.size := h3.lt
  clear h3 k3 B2 Z2 R2
  go_wp2_with fail
  obtain ⟨w4, hw4⟩ : ∃ v, w3.alloc (.cells #[.int .i64 k, .int .i64 0, .int .u64 0, .string ⟨#[]⟩, .slice none 0 0, .slice none 0 0, .slice none 0 0, .int .i64 0, .int .i64 0, .int .i64 0, .int .i64 0, .int .i64 0, .int .i64 0, .int .i64 0, .string ⟨#[]⟩, .slice none 0 0] 51) = v := ⟨_, rfl⟩
  have hb4 : Below w3.heap.size w3 w4 := by rw [← hw4]; exact (Below.refl _ _).alloc (Nat.le_refl _) _
  have SB4 := Lib.hid (show w4.heap[w3.heap.size]? = some (.cells #[.int .i64 k, .int .i64 0, .int .u64 0, .string ⟨#[]⟩, .slice none 0 0, .slice none 0 0, .slice none 0 0, .int .i64 0, .int .i64 0, .int .i64 0, .int .i64 0, .int .i64 0, .int .i64 0, .int .i64 0, .string ⟨#[]⟩, .slice none 0 0] 51) by rw [← hw4]; exact heap_alloc_new w3 _)
  have Z4 := Lib.hid ((hb4.block b0 (lt_of_block Z3.out)).trans Z3.out)
  have R4 := Lib.hid (R3.out.below hb4)
  have B4 := Lib.hid (B3.out.trans (hb4.mono B3.out.size))
  rw [hw4]
  obtain ⟨bS, hbS⟩ : ∃ b, w3.heap.size = b := ⟨_, rfl⟩
  rw [hbS] at SB4 hg3 ⊢
  have hbS4 : bS < w4.heap.size := lt_of_block SB4.out
  clear hb4 hw4 hbS Z3 R3 B3
  refine (code_any g e0 l0 w4 R4.out).mono ?_
  rintro e w5 ⟨rfl, rfl⟩
  rw [HQK.out] at hx
  obtain ⟨rfl, rfl⟩ : e0 = 0 ∧ k = 0 := hx
  have HOFC := Lib.hid (show ofC s.data.toList = (80, a_kind) by unfold ofC; rw [HQK.out]; rw [if_pos ⟨rfl, rfl⟩])
  have hck : checkC (zeroC 0) = (80, a_kind) := by unfold checkC; rw [if_pos (.inl (by decide))]
  have y0 := box_cell SB4.out 0 rfl
  have y1 := box_cell SB4.out 1 rfl
  have y2 := box_cell SB4.out 2 rfl
  have y3 := box_cell SB4.out 3 rfl
  have y4 := box_cell SB4.out 4 rfl
  have y5 := box_cell SB4.out 5 rfl
  have y6 := box_cell SB4.out 6 rfl
  have y7 := box_cell SB4.out 7 rfl
  have y8 := box_cell SB4.out 8 rfl
  have y9 := box_cell SB4.out 9 rfl
  have y10 := box_cell SB4.out 10 rfl
  have y11 := box_cell SB4.out 11 rfl
  have y12 := box_cell SB4.out 12 rfl
  have y13 := box_cell SB4.out 13 rfl
  have y14 := box_cell SB4.out 14 rfl
  have y15 := box_cell SB4.out 15 rfl
  go_wp2_with fail
  have hrun := checkC_any (zeroC 0) none 0 none 0 none 0 none 0 (zero_light 0) w4 (HL.out.below B4.out) (zero_in 0 w4)
  rw [hck] at hrun
  refine hrun.mono ?_
  rintro e w6 ⟨E, rfl, hE, hb6⟩
  have HE := Lib.hid hE
  have B6 := Lib.hid (B4.out.trans (hb6.mono B4.out.size))
  have z6 := (hb6.block b0 (lt_of_block Z4.out)).trans Z4.out
  have HVZ := Lib.hid z6
  clear hE hb6 hrun hck y0 y1 y2 y3 y4 y5 y6 y7 y8 y9 y10 y11 y12 y13 y14 y15
  have vc0 := box_cell z6 0 rfl
  have vf0 := box_free z6 0
  obtain ⟨v1, ve1⟩ : ∃ v, w6.setCell ⟨b0, 0, none⟩ (.int .i64 0) = v := ⟨_, rfl⟩
  have vz1 := box_set z6 0 (.int .i64 0) (B := #[.int .i64 0, .int .i64 0, .int .u64 0, .string ⟨#[]⟩, .slice none 0 0, .slice none 0 0, .slice none 0 0, .int .i64 0, .int .i64 0, .int .i64 0, .int .i64 0, .int .i64 0, .int .i64 0, .int .i64 0, .string ⟨#[]⟩, .slice none 0 0]) rfl
  rw [ve1] at vz1
  have vo1 : Only b0 w6 v1 := by rw [← ve1]; exact (Only.refl b0 w6).set 0 _
  have vc1 := box_cell vz1 1 rfl
  have vf1 := box_free vz1 1
  obtain ⟨v2, ve2⟩ : ∃ v, v1.setCell ⟨b0, 1, none⟩ (.int .i64 0) = v := ⟨_, rfl⟩
  have vz2 := box_set vz1 1 (.int .i64 0) (B := #[.int .i64 0, .int .i64 0, .int .u64 0, .string ⟨#[]⟩, .slice none 0 0, .slice none 0 0, .slice none 0 0, .int .i64 0, .int .i64 0, .int .i64 0, .int .i64 0, .int .i64 0, .int .i64 0, .int .i64 0, .string ⟨#[]⟩, .slice none 0 0]) rfl
  rw [ve2] at vz2
  have vo2 : Only b0 w6 v2 := by rw [← ve2]; exact vo1.set 1 _
  have vc2 := box_cell vz2 2 rfl
  have vf2 := box_free vz2 2
  obtain ⟨v3, ve3⟩ : ∃ v, v2.setCell ⟨b0, 2, none⟩ (.int .u64 0) = v := ⟨_, rfl⟩
  have vz3 := box_set vz2 2 (.int .u64 0) (B := #[.int .i64 0, .int .i64 0, .int .u64 0, .string ⟨#[]⟩, .slice none 0 0, .slice none 0 0, .slice none 0 0, .int .i64 0, .int .i64 0, .int .i64 0, .int .i64 0, .int .i64 0, .int .i64 0, .int .i64 0, .string ⟨#[]⟩, .slice none 0 0]) rfl
  rw [ve3] at vz3
  have vo3 : Only b0 w6 v3 := by rw [← ve3]; exact vo2.set 2 _
  have vc3 := box_cell vz3 3 rfl
  have vf3 := box_free vz3 3
  obtain ⟨v4, ve4⟩ : ∃ v, v3.setCell ⟨b0, 3, none⟩ (.string ⟨#[]⟩) = v := ⟨_, rfl⟩
  have vz4 := box_set vz3 3 (.string ⟨#[]⟩) (B := #[.int .i64 0, .int .i64 0, .int .u64 0, .string ⟨#[]⟩, .slice none 0 0, .slice none 0 0, .slice none 0 0, .int .i64 0, .int .i64 0, .int .i64 0, .int .i64 0, .int .i64 0, .int .i64 0, .int .i64 0, .string ⟨#[]⟩, .slice none 0 0]) rfl
  rw [ve4] at vz4
  have vo4 : Only b0 w6 v4 := by rw [← ve4]; exact vo3.set 3 _
  have vc4 := box_cell vz4 4 rfl
  have vf4 := box_free vz4 4
  obtain ⟨v5, ve5⟩ : ∃ v, v4.setCell ⟨b0, 4, none⟩ (.slice none 0 0) = v := ⟨_, rfl⟩
  have vz5 := box_set vz4 4 (.slice none 0 0) (B := #[.int .i64 0, .int .i64 0, .int .u64 0, .string ⟨#[]⟩, .slice none 0 0, .slice none 0 0, .slice none 0 0, .int .i64 0, .int .i64 0, .int .i64 0, .int .i64 0, .int .i64 0, .int .i64 0, .int .i64 0, .string ⟨#[]⟩, .slice none 0 0]) rfl
  rw [ve5] at vz5
  have vo5 : Only b0 w6 v5 := by rw [← ve5]; exact vo4.set 4 _
  have vc5 := box_cell vz5 5 rfl
  have vf5 := box_free vz5 5
  obtain ⟨v6, ve6⟩ : ∃ v, v5.setCell ⟨b0, 5, none⟩ (.slice none 0 0) = v := ⟨_, rfl⟩
  have vz6 := box_set vz5 5 (.slice none 0 0) (B := #[.int .i64 0, .int .i64 0, .int .u64 0, .string ⟨#[]⟩, .slice none 0 0, .slice none 0 0, .slice none 0 0, .int .i64 0, .int .i64 0, .int .i64 0, .int .i64 0, .int .i64 0, .int .i64 0, .int .i64 0, .string ⟨#[]⟩, .slice none 0 0]) rfl
  rw [ve6] at vz6
  have vo6 : Only b0 w6 v6 := by rw [← ve6]; exact vo5.set 5 _
  have vc6 := box_cell vz6 6 rfl
  have vf6 := box_free vz6 6
  obtain ⟨v7, ve7⟩ : ∃ v, v6.setCell ⟨b0, 6, none⟩ (.slice none 0 0) = v := ⟨_, rfl⟩
  have vz7 := box_set vz6 6 (.slice none 0 0) (B := #[.int .i64 0, .int .i64 0, .int .u64 0, .string ⟨#[]⟩, .slice none 0 0, .slice none 0 0, .slice none 0 0, .int .i64 0, .int .i64 0, .int .i64 0, .int .i64 0, .int .i64 0, .int .i64 0, .int .i64 0, .string ⟨#[]⟩, .slice none 0 0]) rfl
  rw [ve7] at vz7
  have vo7 : Only b0 w6 v7 := by rw [← ve7]; exact vo6.set 6 _
  have vc7 := box_cell vz7 7 rfl
  have vf7 := box_free vz7 7
  obtain ⟨v8, ve8⟩ : ∃ v, v7.setCell ⟨b0, 7, none⟩ (.int .i64 0) = v := ⟨_, rfl⟩
  have vz8 := box_set vz7 7 (.int .i64 0) (B := #[.int .i64 0, .int .i64 0, .int .u64 0, .string ⟨#[]⟩, .slice none 0 0, .slice none 0 0, .slice none 0 0, .int .i64 0, .int .i64 0, .int .i64 0, .int .i64 0, .int .i64 0, .int .i64 0, .int .i64 0, .string ⟨#[]⟩, .slice none 0 0]) rfl
  rw [ve8] at vz8
  have vo8 : Only b0 w6 v8 := by rw [← ve8]; exact vo7.set 7 _
  have vc8 := box_cell vz8 8 rfl
  have vf8 := box_free vz8 8
  obtain ⟨v9, ve9⟩ : ∃ v, v8.setCell ⟨b0, 8, none⟩ (.int .i64 0) = v := ⟨_, rfl⟩
  have vz9 := box_set vz8 8 (.int .i64 0) (B := #[.int .i64 0, .int .i64 0, .int .u64 0, .string ⟨#[]⟩, .slice none 0 0, .slice none 0 0, .slice none 0 0, .int .i64 0, .int .i64 0, .int .i64 0, .int .i64 0, .int .i64 0, .int .i64 0, .int .i64 0, .string ⟨#[]⟩, .slice none 0 0]) rfl
  rw [ve9] at vz9
  have vo9 : Only b0 w6 v9 := by rw [← ve9]; exact vo8.set 8 _
  have vc9 := box_cell vz9 9 rfl
  have vf9 := box_free vz9 9
  obtain ⟨v10, ve10⟩ : ∃ v, v9.setCell ⟨b0, 9, none⟩ (.int .i64 0) = v := ⟨_, rfl⟩
  have vz10 := box_set vz9 9 (.int .i64 0) (B := #[.int .i64 0, .int .i64 0, .int .u64 0, .string ⟨#[]⟩, .slice none 0 0, .slice none 0 0, .slice none 0 0, .int .i64 0, .int .i64 0, .int .i64 0, .int .i64 0, .int .i64 0, .int .i64 0, .int .i64 0, .string ⟨#[]⟩, .slice none 0 0]) rfl
  rw [ve10] at vz10
  have vo10 : Only b0 w6 v10 := by rw [← ve10]; exact vo9.set 9 _
  have vc10 := box_cell vz10 10 rfl
  have vf10 := box_free vz10 10
  obtain ⟨v11, ve11⟩ : ∃ v, v10.setCell ⟨b0, 10, none⟩ (.int .i64 0) = v := ⟨_, rfl⟩
  have vz11 := box_set vz10 10 (.int .i64 0) (B := #[.int .i64 0, .int .i64 0, .int .u64 0, .string ⟨#[]⟩, .slice none 0 0, .slice none 0 0, .slice none 0 0, .int .i64 0, .int .i64 0, .int .i64 0, .int .i64 0, .int .i64 0, .int .i64 0, .int .i64 0, .string ⟨#[]⟩, .slice none 0 0]) rfl
  rw [ve11] at vz11
  have vo11 : Only b0 w6 v11 := by rw [← ve11]; exact vo10.set 10 _
  have vc11 := box_cell vz11 11 rfl
  have vf11 := box_free vz11 11
  obtain ⟨v12, ve12⟩ : ∃ v, v11.setCell ⟨b0, 11, none⟩ (.int .i64 0) = v := ⟨_, rfl⟩
  have vz12 := box_set vz11 11 (.int .i64 0) (B := #[.int .i64 0, .int .i64 0, .int .u64 0, .string ⟨#[]⟩, .slice none 0 0, .slice none 0 0, .slice none 0 0, .int .i64 0, .int .i64 0, .int .i64 0, .int .i64 0, .int .i64 0, .int .i64 0, .int .i64 0, .string ⟨#[]⟩, .slice none 0 0]) rfl
  rw [ve12] at vz12
  have vo12 : Only b0 w6 v12 := by rw [← ve12]; exact vo11.set 11 _
  have vc12 := box_cell vz12 12 rfl
  have vf12 := box_free vz12 12
  obtain ⟨v13, ve13⟩ : ∃ v, v12.setCell ⟨b0, 12, none⟩ (.int .i64 0) = v := ⟨_, rfl⟩
  have vz13 := box_set vz12 12 (.int .i64 0) (B := #[.int .i64 0, .int .i64 0, .int .u64 0, .string ⟨#[]⟩, .slice none 0 0, .slice none 0 0, .slice none 0 0, .int .i64 0, .int .i64 0, .int .i64 0, .int .i64 0, .int .i64 0, .int .i64 0, .int .i64 0, .string ⟨#[]⟩, .slice none 0 0]) rfl
  rw [ve13] at vz13
  have vo13 : Only b0 w6 v13 := by rw [← ve13]; exact vo12.set 12 _
  have vc13 := box_cell vz13 13 rfl
  have vf13 := box_free vz13 13
  obtain ⟨v14, ve14⟩ : ∃ v, v13.setCell ⟨b0, 13, none⟩ (.int .i64 0) = v := ⟨_, rfl⟩
  have vz14 := box_set vz13 13 (.int .i64 0) (B := #[.int .i64 0, .int .i64 0, .int .u64 0, .string ⟨#[]⟩, .slice none 0 0, .slice none 0 0, .slice none 0 0, .int .i64 0, .int .i64 0, .int .i64 0, .int .i64 0, .int .i64 0, .int .i64 0, .int .i64 0, .string ⟨#[]⟩, .slice none 0 0]) rfl
  rw [ve14] at vz14
  have vo14 : Only b0 w6 v14 := by rw [← ve14]; exact vo13.set 13 _
  have vc14 := box_cell vz14 14 rfl
  have vf14 := box_free vz14 14
  obtain ⟨v15, ve15⟩ : ∃ v, v14.setCell ⟨b0, 14, none⟩ (.string ⟨#[]⟩) = v := ⟨_, rfl⟩
  have vz15 := box_set vz14 14 (.string ⟨#[]⟩) (B := #[.int .i64 0, .int .i64 0, .int .u64 0, .string ⟨#[]⟩, .slice none 0 0, .slice none 0 0, .slice none 0 0, .int .i64 0, .int .i64 0, .int .i64 0, .int .i64 0, .int .i64 0, .int .i64 0, .int .i64 0, .string ⟨#[]⟩, .slice none 0 0]) rfl
  rw [ve15] at vz15
  have vo15 : Only b0 w6 v15 := by rw [← ve15]; exact vo14.set 14 _
  have vc15 := box_cell vz15 15 rfl
  have vf15 := box_free vz15 15
  obtain ⟨v16, ve16⟩ : ∃ v, v15.setCell ⟨b0, 15, none⟩ (.slice none 0 0) = v := ⟨_, rfl⟩
  have vz16 := box_set vz15 15 (.slice none 0 0) (B := #[.int .i64 0, .int .i64 0, .int .u64 0, .string ⟨#[]⟩, .slice none 0 0, .slice none 0 0, .slice none 0 0, .int .i64 0, .int .i64 0, .int .i64 0, .int .i64 0, .int .i64 0, .int .i64 0, .int .i64 0, .string ⟨#[]⟩, .slice none 0 0]) rfl
  rw [ve16] at vz16
  have vo16 : Only b0 w6 v16 := by rw [← ve16]; exact vo15.set 15 _
  have vr0 := box_cell vz16 0 rfl
  have vr1 := box_cell vz16 1 rfl
  have vr2 := box_cell vz16 2 rfl
  have vr3 := box_cell vz16 3 rfl
  have vr4 := box_cell vz16 4 rfl
  have vr5 := box_cell vz16 5 rfl
  have vr6 := box_cell vz16 6 rfl
  have vr7 := box_cell vz16 7 rfl
  have vr8 := box_cell vz16 8 rfl
  have vr9 := box_cell vz16 9 rfl
  have vr10 := box_cell vz16 10 rfl
  have vr11 := box_cell vz16 11 rfl
  have vr12 := box_cell vz16 12 rfl
  have vr13 := box_cell vz16 13 rfl
  have vr14 := box_cell vz16 14 rfl
  have vr15 := box_cell vz16 15 rfl
  have vO := Lib.hid vo16
  clear vz1 vo1 vz2 vo2 vz3 vo3 vz4 vo4 vz5 vo5 vz6 vo6 vz7 vo7 vz8 vo8 vz9 vo9 vz10 vo10 vz11 vo11 vz12 vo12 vz13 vo13 vz14 vo14 vz15 vo15 vz16 vo16
  clear z6
  go_wp2_with fail
  refine bodyPost_ret (v := .tuple #[.agg #[.int .i64 0, .int .i64 0, .int .u64 0, .string ⟨#[]⟩, .slice none 0 0, .slice none 0 0, .slice none 0 0, .int .i64 0, .int .i64 0, .int .i64 0, .int .i64 0, .int .i64 0, .int .i64 0, .int .i64 0, .string ⟨#[]⟩, .slice none 0 0], E]) ?hres rfl ?_
  case hres => simp [results, Tryz.results33, go_sem, vr0, vr1, vr2, vr3, vr4, vr5, vr6, vr7, vr8, vr9, vr10, vr11, vr12, vr13, vr14, vr15]
  exact ⟨E, by rw [HOFC.out]; exact vO.out.says3 HE.out HVZ.out, vO.out.below B6.out (by have := HB0.out; omega), .inr ⟨by rw [HOFC.out]; decide, rfl⟩⟩

end Ak
end Go.Proofs.YtmeilidjomjocaaGreatDoor
