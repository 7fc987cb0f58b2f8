/-
  The contracts of the laws' own helpers SpoilInts, SpoilLabels, SpoilSpec: what they write lies in the blocks from lo to hi; a cell there keeps its kind, a slice stays the same slice. Condition: the cells that are written are not frozen.
-/
import Derived.Test.YtefkaebdfkjkgaaGreatDoorSpecCopy
set_option linter.unusedVariables false
set_option linter.unusedSimpArgs false
namespace Go.Proofs.YtefkaebdfkjkgaaGreatDoor
open Go.ChangeShapes Go.WideShapes Go.ChangeAt Go.RowKit Go.Lib
open Sd Lists SpecOwn
namespace Book

/-- what was there is as it was, but for texts and numbers in the blocks from lo to hi, which are texts and numbers still -/
structure Kin (lo hi : Nat) (w v : World) : Prop where
  os : v.os = w.os
  tape : v.tape = w.tape
  output : v.output = w.output
  size : w.heap.size ≤ v.heap.size
  block : ∀ b, b < w.heap.size → (b < lo ∨ hi ≤ b) → v.heap[b]? = w.heap[b]?
  froz : ∀ p : Addr, p.block < w.heap.size → v.frozen? p = w.frozen? p
  sl : ∀ p A n c, w.cell? p = some (.slice A n c) → v.cell? p = some (.slice A n c)
  str : ∀ p s, w.cell? p = some (.string s) → ∃ t, v.cell? p = some (.string t)
  num : ∀ p z, w.cell? p = some (.int .i64 z) → ∃ y, v.cell? p = some (.int .i64 y)
theorem cell_lt {w : World} {p : Addr} {u : Value} (h : w.cell? p = some u) : p.block < w.heap.size := World.block_lt_of_cell? w _ h
theorem cell_spot {w : World} {p : Addr} {u : Value} (h : w.cell? p = some u) : p.spot = none := by
  unfold World.cell? at h
  split at h
  · split at h
    · cases h
    · cases hs : p.spot with
      | none => rfl
      | some x => simp_all
  · cases h
theorem Kin.of_below {lo hi : Nat} {w v : World} (h : Below w.heap.size w v) : Kin lo hi w v :=
  ⟨h.os, h.tape, h.output, h.size, fun b hb _ => h.block b hb, fun p hp => h.frozen hp,
    fun p A n c hc => (h.cell (cell_lt hc)).trans hc, fun p s hc => ⟨s, (h.cell (cell_lt hc)).trans hc⟩, fun p s hc => ⟨s, (h.cell (cell_lt hc)).trans hc⟩⟩
theorem Kin.trans {lo hi : Nat} {a b c : World} (h : Kin lo hi a b) (k : Kin lo hi b c) : Kin lo hi a c :=
  ⟨k.os.trans h.os, k.tape.trans h.tape, k.output.trans h.output, Nat.le_trans h.size k.size,
    fun i hi ho => (k.block i (Nat.lt_of_lt_of_le hi h.size) ho).trans (h.block i hi ho), fun p hp => (k.froz p (Nat.lt_of_lt_of_le hp h.size)).trans (h.froz p hp),
    fun p A n c hc => k.sl p A n c (h.sl p A n c hc),
    fun p s hc => by obtain ⟨t, ht⟩ := h.str p s hc; exact k.str p t ht, fun p s hc => by obtain ⟨t, ht⟩ := h.num p s hc; exact k.num p t ht⟩
theorem cell_set {w : World} {p q : Addr} {u v : Value} (h : w.cell? p = some v) (hq : q.spot = none) : (w.setCell p u).cell? q = if q = p then some u else w.cell? q := by
  have hp := cell_spot h
  obtain ⟨pb, po, ps⟩ := p
  obtain ⟨qb, qo, qs⟩ := q
  simp only at hp hq
  subst hp hq
  unfold World.cell? World.setCell at *
  by_cases hb : qb = pb
  · subst hb
    simp only [Array.getElem?_modify]
    cases hw : w.heap[qb]? with
    | none => simp [hw] at h
    | some o =>
      cases o with
      | cells c e f =>
        simp [hw] at h
        have hl : po < c.size := by
          rcases Nat.lt_or_ge po c.size with hl | hl
          · exact hl
          · rw [Array.getElem?_eq_none hl] at h; cases h
        by_cases ho : qo = po
        · subst ho
          simp [hl]
        · simp [Ne.symm ho]
      | _ => simp [hw] at h
  · have hn : ¬ pb = qb := fun e => hb e.symm
    simp [Array.getElem?_modify, hn]
theorem Kin.set {lo hi : Nat} {w v : World} (h : Kin lo hi w v) {p : Addr} {u y : Value} (h1 : lo ≤ p.block) (h2 : p.block < hi) (hc : v.cell? p = some y) (hk : (∃ s t, y = .string s ∧ u = .string t) ∨ ∃ a b, y = .int .i64 a ∧ u = .int .i64 b) : Kin lo hi w (v.setCell p u) := by
  refine h.trans ⟨rfl, rfl, rfl, by simp, fun b hb ho => Below.heap_setCell v p u b (by rcases ho with ho | ho <;> omega), fun q _ => by simp, ?_, ?_, ?_⟩
  · intro q A n c hq
    rw [cell_set hc (cell_spot hq)]
    by_cases e : q = p
    · subst e
      rw [hq] at hc
      injection hc with hc
      rcases hk with ⟨s, t, rfl, _⟩ | ⟨s, t, rfl, _⟩ <;> cases hc
    · rw [if_neg e]; exact hq
  · intro q s hq
    rw [cell_set hc (cell_spot hq)]
    by_cases e : q = p
    · subst e
      rw [hq] at hc
      injection hc with hc
      rcases hk with ⟨s, t, rfl, rfl⟩ | ⟨s, t, rfl, _⟩
      · exact ⟨t, if_pos rfl⟩
      · cases hc
    · exact ⟨s, by rw [if_neg e]; exact hq⟩
  · intro q s hq
    rw [cell_set hc (cell_spot hq)]
    by_cases e : q = p
    · subst e
      rw [hq] at hc
      injection hc with hc
      rcases hk with ⟨s, t, rfl, _⟩ | ⟨s, t, rfl, rfl⟩
      · cases hc
      · exact ⟨t, if_pos rfl⟩
    · exact ⟨s, by rw [if_neg e]; exact hq⟩

/-- n numbers that may be written -/
def WNums (lo hi : Nat) (w : World) (A : Option Addr) (n : Nat) : Prop := ∀ k : Nat, k < n → ∃ a z, A = some a ∧ lo ≤ a.block ∧ a.block < hi ∧ w.cell? (a.add k) = some (.int .i64 z) ∧ w.frozen? (a.add k) = false
/-- n labels that may be written -/
def WLbls (lo hi : Nat) (w : World) (A : Option Addr) (n : Nat) : Prop := ∀ k : Nat, k < n → ∃ a s t, A = some a ∧ lo ≤ a.block ∧ a.block < hi ∧ w.cell? (a.add (k * 2)) = some (.string s) ∧ w.cell? ⟨(a.add (k * 2)).block, (a.add (k * 2)).off + 1, none⟩ = some (.string t) ∧ w.frozen? (a.add (k * 2)) = false ∧ w.frozen? ⟨(a.add (k * 2)).block, (a.add (k * 2)).off + 1, none⟩ = false
/-- n containers whose names and ports may be written -/
def WCtrs (lo hi : Nat) (w : World) (A : Option Addr) (n : Nat) : Prop := ∀ k : Nat, k < n → ∃ a s P m c, A = some a ∧ lo ≤ a.block ∧ a.block < hi ∧ w.cell? (a.add (k * 11)) = some (.string s) ∧ w.frozen? (a.add (k * 11)) = false ∧ w.cell? ⟨(a.add (k * 11)).block, (a.add (k * 11)).off + 8, none⟩ = some (.slice P m c) ∧ m ≤ 1000 ∧ WNums lo hi w P m
theorem WNums.kin {lo hi : Nat} {w v : World} {A : Option Addr} {n : Nat} (h : WNums lo hi w A n) (k : Kin lo hi w v) : WNums lo hi v A n := by
  intro j hj
  obtain ⟨a, z, hA, h1, h2, hc, hf⟩ := h j hj
  obtain ⟨y, hy⟩ := k.num _ _ hc
  exact ⟨a, y, hA, h1, h2, hy, (k.froz _ (cell_lt hc)).trans hf⟩
theorem WLbls.kin {lo hi : Nat} {w v : World} {A : Option Addr} {n : Nat} (h : WLbls lo hi w A n) (k : Kin lo hi w v) : WLbls lo hi v A n := by
  intro j hj
  obtain ⟨a, s, t, hA, h1, h2, hc, hd, hf, hg⟩ := h j hj
  obtain ⟨y, hy⟩ := k.str _ _ hc
  obtain ⟨x, hx⟩ := k.str _ _ hd
  exact ⟨a, y, x, hA, h1, h2, hy, hx, (k.froz _ (cell_lt hc)).trans hf, (k.froz _ (cell_lt hd)).trans hg⟩
theorem WCtrs.kin {lo hi : Nat} {w v : World} {A : Option Addr} {n : Nat} (h : WCtrs lo hi w A n) (k : Kin lo hi w v) : WCtrs lo hi v A n := by
  intro j hj
  obtain ⟨a, s, P, m, c, hA, h1, h2, hc, hf, hp, hm, hn⟩ := h j hj
  obtain ⟨y, hy⟩ := k.str _ _ hc
  exact ⟨a, y, P, m, c, hA, h1, h2, hy, (k.froz _ (cell_lt hc)).trans hf, k.sl _ _ _ _ hp, hm, hn.kin k⟩

set_option maxRecDepth 100000 in
theorem spoilInts_any (lo hi : Nat) (A : Option Addr) (n c : Nat) (hn : n ≤ 1000000) (w : World) (h : WNums lo hi w A n) :
    Calls Tryz.prog 19 #[.slice A n c] w fun e w' => e = .returned (.tuple #[]) ∧ Kin lo hi w w' := by
  have H := Lib.hid h
  have hn' : (n : Int) ≤ 1000000 := by omega
  clear h
  go_enter Tryz.func19, Tryz.ntmps19
  go_wp2
  go_loopw [5] (fun i wl => ∃ k : Nat, k ≤ n ∧ i = .int .i64 k ∧ Hid (Kin lo hi w wl)) (fun i _ => n - (RowKit.intOf i).toNat)
  case atStart => exact ⟨0, Nat.zero_le _, rfl, Kin.of_below (Below.refl _ _)⟩
  case round =>
    obtain ⟨k, hk, rfl, HK⟩ := hrel
    by_cases hlt : k < n
    · have hj : (k : Int) < (n : Int) := by omega
      obtain ⟨a, z, rfl, h1, h2, hc, hf⟩ := (H.out.kin HK.out) k hlt
      have HN := Lib.hid (HK.out.set (p := a.add k) (u := .int .i64 (-99)) (by rw [add_block]; exact h1) (by rw [add_block]; exact h2) hc (.inr ⟨_, _, rfl, rfl⟩))
      go_wp2
      go_roundw
      case rel => exact ⟨k + 1, by omega, by go_num, HN.out⟩
      case measure => simp [RowKit.intOf]; omega
    · go_wp2
      go_end0
      exact ⟨rfl, HK.out⟩

set_option maxRecDepth 100000 in
theorem spoilLabels_any (lo hi : Nat) (A : Option Addr) (n c : Nat) (hn : n ≤ 1000000) (w : World) (h : WLbls lo hi w A n) :
    Calls Tryz.prog 56 #[.slice A n c] w fun e w' => e = .returned (.tuple #[]) ∧ Kin lo hi w w' := by
  have H := Lib.hid h
  have hn' : (n : Int) ≤ 1000000 := by omega
  clear h
  go_enter Tryz.func56, Tryz.ntmps56
  go_wp2
  go_loopw [5] (fun i wl => ∃ k : Nat, k ≤ n ∧ i = .int .i64 k ∧ Hid (Kin lo hi w wl)) (fun i _ => n - (RowKit.intOf i).toNat)
  case atStart => exact ⟨0, Nat.zero_le _, rfl, Kin.of_below (Below.refl _ _)⟩
  case round =>
    obtain ⟨k, hk, rfl, HK⟩ := hrel
    by_cases hlt : k < n
    · have hj : (k : Int) < (n : Int) := by omega
      obtain ⟨a, s, t, rfl, h1, h2, hc, hd, hf, hg⟩ := (H.out.kin HK.out) k hlt
      have hN := HK.out.set (p := a.add (k * 2)) (u := .string ⟨#[115, 112, 111, 105, 108, 116]⟩) (by rw [add_block]; exact h1) (by rw [add_block]; exact h2) hc (.inl ⟨_, _, rfl, rfl⟩)
      have hd' : (wr.setCell (a.add (k * 2)) (.string ⟨#[115, 112, 111, 105, 108, 116]⟩)).cell? ⟨(a.add (k * 2)).block, (a.add (k * 2)).off + 1, none⟩ = some (.string t) := by
        rw [cell_set hc rfl, if_neg (fun e => by have := congrArg Addr.off e; simp at this)]
        exact hd
      have HN := Lib.hid (hN.set (p := ⟨(a.add (k * 2)).block, (a.add (k * 2)).off + 1, none⟩) (u := .string ⟨#[]⟩) (by rw [add_block]; exact h1) (by rw [add_block]; exact h2) hd' (.inl ⟨_, _, rfl, rfl⟩))
      clear hN
      go_wp2
      go_roundw
      case rel => exact ⟨k + 1, by omega, by go_num, HN.out⟩
      case measure => simp [RowKit.intOf]; omega
    · go_wp2
      go_end0
      exact ⟨rfl, HK.out⟩

theorem Kin.below {lo hi B : Nat} {w v : World} (h : Kin lo hi w v) (hB : B ≤ lo) (hs : B ≤ w.heap.size) : Below B w v :=
  ⟨h.os, h.tape, h.output, h.size, fun i hi => h.block i (by omega) (.inl (by omega))⟩
theorem Kin.ab {lo hi : Nat} {w v : World} (h : Kin lo hi w v) : Ab hi w v := ⟨h.size, fun i h1 h2 => h.block i h2 (.inr h1)⟩
theorem thawed {w : World} {A : Option Addr} {a p : Addr} {u : Value} (hT : Thaw w A) (hA : A = some a) (hb : p.block = a.block) (hc : w.cell? p = some u) : w.frozen? p = false := by
  have hs := cell_spot hc
  obtain ⟨pb, po, ps⟩ := p
  simp only at hs hb
  subst hs hb
  exact (hT a hA).2 po
theorem wnums {lo hi : Nat} {w : World} {A : Option Addr} {l : List Int} (h : Nums .i64 w A l) (hF : From lo A) (hT : Thaw w A) (hh : w.heap.size ≤ hi) : WNums lo hi w A l.length := by
  intro k hk
  obtain ⟨_, a, hA, ha, hc⟩ := h k _ (List.getElem?_eq_getElem hk)
  exact ⟨a, _, hA, hF a hA, by omega, hc, thawed hT hA (by rw [add_block]) hc⟩
theorem wlbls {lo hi : Nat} {w : World} {A : Option Addr} {l : List Lbl} (h : Lbls w A l) (hF : From lo A) (hT : Thaw w A) (hh : w.heap.size ≤ hi) : WLbls lo hi w A l.length := by
  intro k hk
  obtain ⟨a, hA, ha, h0, h1⟩ := h.at hk
  exact ⟨a, _, _, hA, hF a hA, by omega, h0, h1, thawed hT hA (by rw [add_block]) h0, thawed hT hA (by show (a.add (k * 2)).block = _; rw [add_block]) h1⟩
theorem wctrs {lo hi : Nat} {w : World} {A : Option Addr} {l : List Ctr} (h : CtrsFrom lo w A l) (hp : ∀ x ∈ l, x.ports.length ≤ 1000) (hh : w.heap.size ≤ hi) : WCtrs lo hi w A l.length := by
  intro k hk
  obtain ⟨hf, a, P, c, hA, h1, h2, hc, hn, hP, tA, tP, _⟩ := h k _ (List.getElem?_eq_getElem hk)
  obtain ⟨c0, c1, c2, c3, c4, c5, c6, c7, c8, _⟩ := hc
  exact ⟨a, _, P, _, c, hA, h1, by omega, c0, thawed tA hA (by rw [add_block]) c0, c8, hp _ (List.getElem_mem hk), wnums hn hP tP hh⟩

set_option maxRecDepth 100000 in
set_option maxHeartbeats 1000000 in
theorem spoilSpec_any (lo hi : Nat) (s : ByteArray) (LA : Option Addr) (ln lc : Nat) (IA : Option Addr) (n ic : Nat) (MA : Option Addr) (mn mc : Nat) (r g p : Int) (hl : ln ≤ 1000) (hn : n ≤ 1000) (hm : mn ≤ 1000) (w : World) (hhi : hi ≤ w.heap.size) (hL : WLbls lo hi w LA ln) (hI : WCtrs lo hi w IA n) (hM : WCtrs lo hi w MA mn) :
    Calls Tryz.prog 20 #[.agg #[.string s, .slice LA ln lc, .slice IA n ic, .slice MA mn mc, .int .i64 r, .int .i64 g, .int .i64 p]] w fun e w' => e = .returned (.tuple #[]) ∧ Kin lo hi w w' := by
  have HL := Lib.hid hL
  have HI := Lib.hid hI
  have HM := Lib.hid hM
  have hn' : (n : Int) ≤ 1000 := by omega
  have hm' : (mn : Int) ≤ 1000 := by omega
  clear hL hI hM
  go_enter Tryz.func20, Tryz.ntmps20
  go_wp2_with fail
  obtain ⟨w1, hw1⟩ : ∃ w1, w.alloc (.cells #[.string s, .slice LA ln lc, .slice IA n ic, .slice MA mn mc, .int .i64 r, .int .i64 g, .int .i64 p] 25) = w1 := ⟨_, rfl⟩
  have HK1 := Lib.hid (show Kin lo hi w w1 by rw [← hw1]; exact Kin.of_below ((Below.refl _ _).alloc (Nat.le_refl _) _))
  have HB1 := Lib.hid (show w1.heap[w.heap.size]? = some (.cells #[.string s, .slice LA ln lc, .slice IA n ic, .slice MA mn mc, .int .i64 r, .int .i64 g, .int .i64 p] 25 (0, 0)) by rw [← hw1]; exact heap_alloc_new w _)
  obtain ⟨b, hb⟩ : ∃ b, w.heap.size = b := ⟨_, rfl⟩
  rw [hw1]
  rw [hb] at HB1 ⊢
  have hhb : hi ≤ b := by omega
  clear hw1 hb
  have hbox : ∀ v, Kin lo hi w1 v → v.heap[b]? = some (.cells #[.string s, .slice LA ln lc, .slice IA n ic, .slice MA mn mc, .int .i64 r, .int .i64 g, .int .i64 p] 25 (0, 0)) := fun v hv => (hv.block b (lt_of_block HB1.out) (.inr hhb)).trans HB1.out
  have HBOX := Lib.hid hbox
  clear hbox
  have d1 : w1.cell? ⟨b, 1, none⟩ = some (.slice LA ln lc) := by simp [World.cell?, HB1.out]
  go_wp2_with fail
  refine (spoilLabels_any lo hi LA ln lc (by omega) w1 (HL.out.kin HK1.out)).mono ?_
  rintro e w2 ⟨rfl, hk2⟩
  have HK2 := Lib.hid hk2
  clear hk2 d1
  have d2 : w2.cell? ⟨b, 2, none⟩ = some (.slice IA n ic) := by simp [World.cell?, HBOX.out w2 HK2.out]
  go_wp2_with fail
  go_loopw [10] (fun i wl => ∃ k : Nat, k ≤ n ∧ i = .int .i64 k ∧ Hid (Kin lo hi w1 wl)) (fun i _ => n - (RowKit.intOf i).toNat)
  case atStart => exact ⟨0, Nat.zero_le _, rfl, HK2.out⟩
  case round =>
    obtain ⟨k, hk, rfl, HK⟩ := hrel
    by_cases hlt : k < n
    · have hj : (k : Int) < (n : Int) := by omega
      obtain ⟨a, s0, P, m, c, rfl, h1, h2, hc, hf, hp, hm0, hw⟩ := (HI.out.kin (HK1.out.trans HK.out)) k hlt
      have HW := Lib.hid hw
      have e2 : wr.cell? ⟨b, 2, none⟩ = some (.slice (some a) n ic) := by simp [World.cell?, HBOX.out wr HK.out]
      clear hw
      go_wp2_with fail
      refine (spoilInts_any lo hi P m c (by omega) wr HW.out).mono ?_
      rintro e w3 ⟨rfl, hk3⟩
      have HK3 := Lib.hid (HK.out.trans hk3)
      obtain ⟨s1, hc1⟩ := hk3.str _ _ hc
      have hf1 := (hk3.froz _ (cell_lt hc)).trans hf
      have e3 : w3.cell? ⟨b, 2, none⟩ = some (.slice (some a) n ic) := by simp [World.cell?, HBOX.out w3 HK3.out]
      have HN := Lib.hid (HK3.out.set (p := a.add (k * 11)) (u := .string ⟨#[115, 112, 111, 105, 108, 116]⟩) (by rw [add_block]; exact h1) (by rw [add_block]; exact h2) hc1 (.inl ⟨_, _, rfl, rfl⟩))
      clear hk3 hc hf hp e2
      go_wp2
      go_roundw
      case rel => exact ⟨k + 1, by omega, by go_num, HN.out⟩
      case measure => simp [RowKit.intOf]; omega
    · have e2 : wr.cell? ⟨b, 3, none⟩ = some (.slice MA mn mc) := by simp [World.cell?, HBOX.out wr HK.out]
      go_wp2_with fail
      go_loopw [29] (fun i wl => ∃ k : Nat, k ≤ mn ∧ i = .int .i64 k ∧ Hid (Kin lo hi w1 wl)) (fun i _ => mn - (RowKit.intOf i).toNat)
      case atStart => exact ⟨0, Nat.zero_le _, rfl, HK.out⟩
      case round =>
        obtain ⟨k2, hk2, rfl, HKK⟩ := hrel
        by_cases hlt2 : k2 < mn
        · have hj : (k2 : Int) < (mn : Int) := by omega
          obtain ⟨a, s0, P, m, c, rfl, h1, h2, hc, hf, hp, hm0, hw⟩ := (HM.out.kin (HK1.out.trans HKK.out)) k2 hlt2
          have HW := Lib.hid hw
          have e2 : wr.cell? ⟨b, 3, none⟩ = some (.slice (some a) mn mc) := by simp [World.cell?, HBOX.out wr HKK.out]
          clear hw
          go_wp2_with fail
          refine (spoilInts_any lo hi P m c (by omega) wr HW.out).mono ?_
          rintro e w3 ⟨rfl, hk3⟩
          have HK3 := Lib.hid (HKK.out.trans hk3)
          obtain ⟨s1, hc1⟩ := hk3.str _ _ hc
          have hf1 := (hk3.froz _ (cell_lt hc)).trans hf
          have e3 : w3.cell? ⟨b, 3, none⟩ = some (.slice (some a) mn mc) := by simp [World.cell?, HBOX.out w3 HK3.out]
          have HN := Lib.hid (HK3.out.set (p := a.add (k2 * 11)) (u := .string ⟨#[115, 112, 111, 105, 108, 116]⟩) (by rw [add_block]; exact h1) (by rw [add_block]; exact h2) hc1 (.inl ⟨_, _, rfl, rfl⟩))
          clear hk3 hc hf hp e2
          go_wp2
          go_roundw
          case rel => exact ⟨k2 + 1, by omega, by go_num, HN.out⟩
          case measure => simp [RowKit.intOf]; omega
        · go_wp2
          go_end0
          exact ⟨rfl, HK1.out.trans HKK.out⟩
end Book
end Go.Proofs.YtefkaebdfkjkgaaGreatDoor
