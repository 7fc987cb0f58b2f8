/-
  The contract of spec.clones: containers in memory of the call's own, their ports too. All that was there is left as it was. Condition: there are not too many; they are light.
-/
import Derived.Test.YtefkaebdfkjkgaaGreatDoorSpecClone
import Derived.Deep.RegionHeld3
import Derived.RegionTactic
namespace Go.Proofs.YtefkaebdfkjkgaaGreatDoor
open Go.ChangeShapes Go.WideShapes Go.ChangeAt Go.RowKit Go.Lib
open Sd Lists
namespace SpecOwn

/-- containers in blocks from B on, their ports too -/
def CtrsFrom (B : Nat) (w : World) (A : Option Addr) (l : List Ctr) : Prop := ∀ (k : Nat) (x : Ctr), l[k]? = some x → x.Fits ∧ ∃ a P c, A = some a ∧ B ≤ a.block ∧ a.block < w.heap.size ∧ x.cellsAt P c w (a.add (k * 11)) ∧ Nums .i64 w P x.ports ∧ From B P ∧ Thaw w A ∧ Thaw w P ∧ ∀ p, P = some p → p.block ≠ a.block

/-- a row being cloned: those ahead of k have ports of their own -/
structure Half (w : World) (wr : World) (A : Option Addr) (c : Nat) (l : List Ctr) (k : Nat) (M : List Held) : Prop where
  own : wr.ownsRow w.heap.size 44 11 (.slice A l.length c) l.length (flat M)
  xs : M.map (·.x) = l
  done : ∀ (j : Nat) (t : Held), M[j]? = some t → j < k → t.Ok wr ∧ From w.heap.size t.P ∧ Thaw wr t.P ∧ ∀ a g, t.P = some a → A = some g → a.block ≠ g.block
  todo : ∀ (j : Nat) (t : Held), M[j]? = some t → k ≤ j → t.Ok w
  below : Below w.heap.size w wr

/-- a container's copy in a box of its own -/
def CB (t : Held) (b : Nat) (wr w' : World) : Prop := w'.heap[b]? = some (.cells #[.string t.x.name, .string t.x.image, .int .i64 t.x.rc, .int .i64 t.x.rm, .int .i64 t.x.rp, .int .i64 t.x.lc, .int .i64 t.x.lm, .int .i64 t.x.lp, .slice t.P t.x.ports.length t.c, .int .i64 t.x.ev, .int .i64 t.x.fl] 44 (0, 0)) ∧ w'.cell? ⟨b, 0, none⟩ = some (.string t.x.name) ∧ w'.cell? ⟨b, 1, none⟩ = some (.string t.x.image) ∧ w'.frozen? ⟨b, 0, none⟩ = false ∧ w'.frozen? ⟨b, 1, none⟩ = false ∧ Below b wr w'
theorem cb_of {t : Held} {b : Nat} {wr w' : World} (h : w'.heap[b]? = some (.cells #[.string t.x.name, .string t.x.image, .int .i64 t.x.rc, .int .i64 t.x.rm, .int .i64 t.x.rp, .int .i64 t.x.lc, .int .i64 t.x.lm, .int .i64 t.x.lp, .slice t.P t.x.ports.length t.c, .int .i64 t.x.ev, .int .i64 t.x.fl] 44 (0, 0))) (hb : Below b wr w') : CB t b wr w' :=
  ⟨h, by simp [World.cell?, h], by simp [World.cell?, h], by simp [World.frozen?, h], by simp [World.frozen?, h], hb⟩
theorem cb_keep {t : Held} {b : Nat} {wr w w' : World} (hb : Below w.heap.size w w') (h : CB t b wr w) : CB t b wr w' := cb_of ((hb.block b (lt_of_block h.1)).trans h.1) (h.2.2.2.2.2.trans (hb.mono (Nat.le_of_lt (lt_of_block h.1))))
theorem cb_s0 {t : Held} {b : Nat} {wr w : World} (h : CB t b wr w) : CB t b wr (w.setCell ⟨b, 0, none⟩ (.string t.x.name)) := cb_of (by simpa using heap_setCell_same w b 0 _ _ (.string t.x.name) h.1) (h.2.2.2.2.2.setCell (p := ⟨b, 0, none⟩) (Nat.le_refl _) _)
theorem cb_s1 {t : Held} {b : Nat} {wr w : World} (h : CB t b wr w) : CB t b wr (w.setCell ⟨b, 1, none⟩ (.string t.x.image)) := cb_of (by simpa using heap_setCell_same w b 1 _ _ (.string t.x.image) h.1) (h.2.2.2.2.2.setCell (p := ⟨b, 1, none⟩) (Nat.le_refl _) _)
theorem cb_drew {t : Held} {b : Nat} {wr w : World} (h : CB t b wr w) : CB t b wr w.drew := cb_of h.1 h.2.2.2.2.2.drew
theorem cb_new (t : Held) (w : World) : CB t w.heap.size w (w.alloc (.cells #[.string t.x.name, .string t.x.image, .int .i64 t.x.rc, .int .i64 t.x.rm, .int .i64 t.x.rp, .int .i64 t.x.lc, .int .i64 t.x.lm, .int .i64 t.x.lp, .slice t.P t.x.ports.length t.c, .int .i64 t.x.ev, .int .i64 t.x.fl] 44)) := cb_of (heap_alloc_new w _) ((Below.refl _ w).alloc (Nat.le_refl _) _)

theorem set_skip (t : Held) (X : List Value) (k i : Nat) (v : Value) : (t.cells ++ X).set ((k + 1) * 11 + i) v = t.cells ++ X.set (k * 11 + i) v := by
  rw [List.set_append_right _ _ (by rw [t.cells_length]; omega), t.cells_length, show (k + 1) * 11 + i - 11 = k * 11 + i by omega]
theorem flat_set : ∀ (M : List Held) (k : Nat) (u : Held), k < M.length → flat (M.set k u) = (((((((((((flat M).set (k * 11 + 0) (.string u.x.name)).set (k * 11 + 1) (.string u.x.image)).set (k * 11 + 2) (.int .i64 u.x.rc)).set (k * 11 + 3) (.int .i64 u.x.rm)).set (k * 11 + 4) (.int .i64 u.x.rp)).set (k * 11 + 5) (.int .i64 u.x.lc)).set (k * 11 + 6) (.int .i64 u.x.lm)).set (k * 11 + 7) (.int .i64 u.x.lp)).set (k * 11 + 8) (.slice u.P u.x.ports.length u.c)).set (k * 11 + 9) (.int .i64 u.x.ev)).set (k * 11 + 10) (.int .i64 u.x.fl)
  | [], _, _, h => by simp at h
  | t :: M, 0, u, _ => rfl
  | t :: M, k + 1, u, h => by
    rw [List.set_cons_succ, flat, flat_set M k u (by simpa using h), flat]
    simp only [set_skip]

/-- all but block g is as it was -/
structure Kg (g : Nat) (w v : World) : Prop where
  os : v.os = w.os
  tape : v.tape = w.tape
  output : v.output = w.output
  size : w.heap.size ≤ v.heap.size
  block : ∀ b, b ≠ g → v.heap[b]? = w.heap[b]?
theorem Kg.refl (g : Nat) (w : World) : Kg g w w := ⟨rfl, rfl, rfl, Nat.le_refl _, fun _ _ => rfl⟩
theorem Kg.set {g : Nat} {w v : World} (h : Kg g w v) (j : Nat) (u : Value) : Kg g w (v.setCell ⟨g, j, none⟩ u) :=
  ⟨h.os, h.tape, h.output, by simpa using h.size, fun b hb => (Below.heap_setCell v ⟨g, j, none⟩ u b hb).trans (h.block b hb)⟩
theorem Kg.below {g B : Nat} {a w v : World} (h : Kg g w v) (hb : Below B a w) (hg : B ≤ g) : Below B a v :=
  hb.trans ⟨h.os, h.tape, h.output, h.size, fun k hk => h.block k (by omega)⟩
theorem Kg.nums {g : Nat} {w v : World} (h : Kg g w v) {P : Option Addr} {l : List Int} (hn : Nums .i64 w P l) (hne : ∀ a, P = some a → a.block ≠ g) : Nums .i64 v P l := by
  intro j z hj
  obtain ⟨hw, a, ha, hla, hca⟩ := hn j z hj
  refine ⟨hw, a, ha, Nat.lt_of_lt_of_le hla h.size, ?_⟩
  rw [World.cell?_of_block (w := w) (h.block _ (by rw [add_block]; exact hne a ha))]
  exact hca
theorem Kg.thaw {g : Nat} {w v : World} (h : Kg g w v) {P : Option Addr} (hn : Thaw w P) (hne : ∀ a, P = some a → a.block ≠ g) : Thaw v P := hn.block h.size fun a ha => h.block _ (hne a ha)
theorem row_at {v : World} {B : Nat} {e : TypeId} {g n cap : Nat} {xs : List Value} (h : v.ownsRow B e 11 (.slice (some ⟨g, 0, none⟩) n cap) n xs) (j : Nat) (hj : j < n * 11) : ∃ u, v.cell? ⟨g, j, none⟩ = some u := by
  rw [h.cellAt j hj]
  have hl := h.1
  exact ⟨_, List.getElem?_eq_getElem (by omega)⟩

set_option maxRecDepth 100000 in
set_option maxHeartbeats 4000000 in
theorem clones_any (A : Option Addr) (c : Nat) (l : List Ctr) (hl : l.length ≤ 1000) (hlight : ∀ x ∈ l, x.name.size ≤ 1000 ∧ x.image.size ≤ 1000 ∧ x.ports.length ≤ 1000) (w : World) (h : Ctrs w A l) :
    Calls Tryz.prog 51 #[.slice A l.length c] w fun e w' => ∃ A' c', e = .returned (.slice A' l.length c') ∧ CtrsFrom w.heap.size w' A' l ∧ l.length ≤ c' ∧ Below w.heap.size w w' := by
  obtain ⟨L, hLx, hat⟩ := ctrs_held h
  have hLl : L.length = l.length := by rw [← hLx, List.length_map]
  have HLI := Lib.hid hlight
  have HAT := Lib.hid hat
  have HLX := Lib.hid hLx
  have hnone : A = none → l.length = 0 := fun e => by
    rcases Nat.eq_zero_or_pos l.length with h0 | h0
    · exact h0
    · obtain ⟨_, a, ha, _⟩ := hat 0 _ (List.getElem?_eq_getElem (by omega))
      rw [e] at ha; cases ha
  have hsrc : ∀ (j : Nat) u, (flat L)[j]? = some u → ∃ a, A = some a ∧ a.block < w.heap.size ∧ w.cell? (a.add j) = some u := fun j u hu => by
    have hj := (List.getElem?_eq_some_iff.1 hu).1
    rw [flat_length] at hj
    obtain ⟨_, a, ha, hla, _⟩ := hat 0 _ (List.getElem?_eq_getElem (by omega))
    refine ⟨a, ha, hla, flat_src (fun k t hk => ?_) j u hu⟩
    obtain ⟨_, a', ha', _, hc⟩ := hat k t hk
    rw [ha] at ha'
    injection ha' with ha'
    subst ha'
    exact hc
  have hlen : (flat L).length = l.length * 11 := by rw [flat_length, hLl]
  have HRUN := Lib.hid (sliceCtrs_any A c l.length (by omega) L hlen w hnone hsrc)
  have hl' : (l.length : Int) ≤ 1000 := by omega
  clear h hlight hat hLx hnone hsrc hlen
  go_enter Tryz.func51, Tryz.ntmps51
  go_wp2_with fail
  refine HRUN.out.mono ?_
  rintro e w1 ⟨A', c', rfl, hown, hcc, hb1⟩
  have HH := Lib.hid (show Half w w1 A' c' l 0 L from ⟨hown, HLX.out, fun j t _ hj => absurd hj (by omega), fun j t hj _ => (HAT.out j t hj).1, hb1⟩)
  clear hown hb1
  go_wp2_with fail
  go_loopw [9] (fun i wr => ∃ (k : Nat) (M : List Held), k ≤ l.length ∧ i = .int .i64 k ∧ Hid (Half w wr A' c' l k M)) (fun i _ => l.length - (RowKit.intOf i).toNat)
  case atStart => exact ⟨0, L, Nat.zero_le _, rfl, HH.out⟩
  case round =>
    obtain ⟨k, M, hk, rfl, HM⟩ := hrel
    by_cases hlt : k < l.length
    · have hka : (k : Int) < (l.length : Int) := by omega
      have hMl : M.length = l.length := by rw [← HM.out.xs, List.length_map]
      have hkM : k < M.length := by omega
      obtain ⟨t, ht⟩ : ∃ t, M[k] = t := ⟨_, rfl⟩
      have hMk : M[k]? = some t := by rw [List.getElem?_eq_getElem hkM, ht]
      have htx : l[k]? = some t.x := by rw [← HM.out.xs, List.getElem?_map, hMk]; rfl
      have hlx := HLI.out t.x (List.mem_of_getElem? htx)
      rcases HM.out.own.2 with ⟨e1, h0⟩ | ⟨g, cap, cur, e1, e2, e3, e4⟩
      · omega
      · injection e1 with e1 e5 e6
        subst e1
        subst e6
        have hgl := lt_of_block e3
        have hc : ∀ j, j < 11 → wr.cell? ⟨g, k * 11 + j, none⟩ = t.cells[j]? := fun j hj => by
          rw [HM.out.own.cellAt (k * 11 + j) (by omega), flat_at hMk j hj]
        have e0 : (⟨g, 0, none⟩ : Addr).add (k * 11) = ⟨g, k * 11, none⟩ := by unfold Addr.add; split <;> simp_all
        have f0 : wr.cell? ⟨g, k * 11, none⟩ = some (.string t.x.name) := hc 0 (by omega)
        have f1 : wr.cell? ⟨g, k * 11 + 1, none⟩ = some (.string t.x.image) := hc 1 (by omega)
        have f2 : wr.cell? ⟨g, k * 11 + 2, none⟩ = some (.int .i64 t.x.rc) := hc 2 (by omega)
        have f3 : wr.cell? ⟨g, k * 11 + 3, none⟩ = some (.int .i64 t.x.rm) := hc 3 (by omega)
        have f4 : wr.cell? ⟨g, k * 11 + 4, none⟩ = some (.int .i64 t.x.rp) := hc 4 (by omega)
        have f5 : wr.cell? ⟨g, k * 11 + 5, none⟩ = some (.int .i64 t.x.lc) := hc 5 (by omega)
        have f6 : wr.cell? ⟨g, k * 11 + 6, none⟩ = some (.int .i64 t.x.lm) := hc 6 (by omega)
        have f7 : wr.cell? ⟨g, k * 11 + 7, none⟩ = some (.int .i64 t.x.lp) := hc 7 (by omega)
        have f8 : wr.cell? ⟨g, k * 11 + 8, none⟩ = some (.slice t.P t.x.ports.length t.c) := hc 8 (by omega)
        have f9 : wr.cell? ⟨g, k * 11 + 9, none⟩ = some (.int .i64 t.x.ev) := hc 9 (by omega)
        have f10 : wr.cell? ⟨g, k * 11 + 10, none⟩ = some (.int .i64 t.x.fl) := hc 10 (by omega)
        clear hc ht
        go_wp2_with fail
        go_region_held3 (fun w' => w'.heap[wr.heap.size]? = some (.cells #[.string t.x.name, .string t.x.image, .int .i64 t.x.rc, .int .i64 t.x.rm, .int .i64 t.x.rp, .int .i64 t.x.lc, .int .i64 t.x.lm, .int .i64 t.x.lp, .slice t.P t.x.ports.length t.c, .int .i64 t.x.ev, .int .i64 t.x.fl] 44 (0, 0)) ∧ w'.cell? ⟨wr.heap.size, 0, none⟩ = some (.string t.x.name) ∧ w'.cell? ⟨wr.heap.size, 1, none⟩ = some (.string t.x.image) ∧ w'.frozen? ⟨wr.heap.size, 0, none⟩ = false ∧ w'.frozen? ⟨wr.heap.size, 1, none⟩ = false ∧ Below wr.heap.size wr w')
          (first
            | exact cb_keep hbn (by assumption)
            | exact cb_s0 (by assumption)
            | exact cb_s1 (by assumption)
            | exact cb_drew (cb_new _ _)
            | exact cb_new _ _
            | exact cb_drew (by assumption)
            | go_keep)
          (first
            | (refine (Text.clone_any t.x.name (by omega) _).mono ?_; rintro e wn ⟨rfl, hbn⟩)
            | (refine (Text.clone_any t.x.image (by omega) _).mono ?_; rintro e wn ⟨rfl, hbn⟩))
        · have hfin : CB t wr.heap.size wr ((wn.setCell ⟨wr.heap.size, 0, none⟩ (.string t.x.name)).setCell ⟨wr.heap.size, 1, none⟩ (.string t.x.image)) := by assumption
          obtain ⟨wz, hz⟩ : ∃ wz, (wn.setCell ⟨wr.heap.size, 0, none⟩ (.string t.x.name)).setCell ⟨wr.heap.size, 1, none⟩ (.string t.x.image) = wz := ⟨_, rfl⟩
          rw [hz] at hfin ⊢
          clear hz
          have HB := Lib.hid hfin
          obtain ⟨b0, hb0⟩ : ∃ b0, wr.heap.size = b0 := ⟨_, rfl⟩
          have HN := (HM.out.todo k t hMk (Nat.le_refl _)).ports
          have hbz : Below wr.heap.size wr wz := HB.out.2.2.2.2.2
          have HN' : Nums .i64 wz t.P t.x.ports := Nums.below HN (HM.out.below.trans (hbz.mono HM.out.below.size))
          rw [hb0]
          have k8 : wz.cell? ⟨b0, 8, none⟩ = some (.slice t.P t.x.ports.length t.c) := by rw [← hb0]; simp [World.cell?, HB.out.1]
          have HCI := Lib.hid (cloneInts_any t.P t.c t.x.ports (by omega) wz HN')
          clear HN' HN hbz hfin
          go_wp2_with fail
          refine HCI.out.mono ?_
          rintro e w5 ⟨P', q', rfl, hn5, hf5, ht5, hq5, hb5⟩
          have hcb : w5.heap[b0]? = some (.cells #[.string t.x.name, .string t.x.image, .int .i64 t.x.rc, .int .i64 t.x.rm, .int .i64 t.x.rp, .int .i64 t.x.lc, .int .i64 t.x.lm, .int .i64 t.x.lp, .slice t.P t.x.ports.length t.c, .int .i64 t.x.ev, .int .i64 t.x.fl] 44 (0, 0)) := by
            have h1 := HB.out.1
            rw [hb0] at h1
            exact (hb5.block b0 (lt_of_block h1)).trans h1
          have hbz : Below b0 wr wz := by have h1 := HB.out.2.2.2.2.2; rwa [hb0] at h1
          have hz0 : b0 < wz.heap.size := by have h1 := lt_of_block HB.out.1; omega
          have hb6 : Below b0 wr (w5.setCell ⟨b0, 8, none⟩ (.slice P' t.x.ports.length q')) := (hbz.trans (hb5.mono (by omega))).setCell (p := ⟨b0, 8, none⟩) (Nat.le_refl _) _
          have z0 : w5.frozen? ⟨b0, 8, none⟩ = false := by simp [World.frozen?, hcb]
          have z1 : w5.cell? ⟨b0, 8, none⟩ = some (.slice t.P t.x.ports.length t.c) := by simp [World.cell?, hcb]
          have h6 : (w5.setCell ⟨b0, 8, none⟩ (.slice P' t.x.ports.length q')).heap[b0]? = some (.cells #[.string t.x.name, .string t.x.image, .int .i64 t.x.rc, .int .i64 t.x.rm, .int .i64 t.x.rp, .int .i64 t.x.lc, .int .i64 t.x.lm, .int .i64 t.x.lp, .slice P' t.x.ports.length q', .int .i64 t.x.ev, .int .i64 t.x.fl] 44 (0, 0)) := by simpa using heap_setCell_same w5 b0 8 _ _ (.slice P' t.x.ports.length q') hcb
          have own6 : (w5.setCell ⟨b0, 8, none⟩ (.slice P' t.x.ports.length q')).ownsRow w.heap.size 44 11 (.slice (some ⟨g, 0, none⟩) l.length c') l.length (flat M) := ⟨HM.out.own.1, Or.inr ⟨g, c', cur, rfl, e2, (hb6.block g (by omega)).trans e3, e4⟩⟩
          have hn6 : Nums .i64 (w5.setCell ⟨b0, 8, none⟩ (.slice P' t.x.ports.length q')) P' t.x.ports := by
            intro j z hj
            obtain ⟨hw, a, ha, hla, hca⟩ := hn5 j z hj
            have := hf5 a ha
            refine ⟨hw, a, ha, by simpa using hla, ?_⟩
            rw [World.cell?_setCell_other _ _ _ _ (by intro e; have := congrArg Addr.block e; rw [add_block] at this; simp at this; omega)]
            exact hca
          have q0 : (w5.setCell ⟨b0, 8, none⟩ (.slice P' t.x.ports.length q')).cell? ⟨b0, 0, none⟩ = some (.string t.x.name) := by simp [World.cell?, h6]
          have q1 : (w5.setCell ⟨b0, 8, none⟩ (.slice P' t.x.ports.length q')).cell? ⟨b0, 1, none⟩ = some (.string t.x.image) := by simp [World.cell?, h6]
          have q2 : (w5.setCell ⟨b0, 8, none⟩ (.slice P' t.x.ports.length q')).cell? ⟨b0, 2, none⟩ = some (.int .i64 t.x.rc) := by simp [World.cell?, h6]
          have q3 : (w5.setCell ⟨b0, 8, none⟩ (.slice P' t.x.ports.length q')).cell? ⟨b0, 3, none⟩ = some (.int .i64 t.x.rm) := by simp [World.cell?, h6]
          have q4 : (w5.setCell ⟨b0, 8, none⟩ (.slice P' t.x.ports.length q')).cell? ⟨b0, 4, none⟩ = some (.int .i64 t.x.rp) := by simp [World.cell?, h6]
          have q5 : (w5.setCell ⟨b0, 8, none⟩ (.slice P' t.x.ports.length q')).cell? ⟨b0, 5, none⟩ = some (.int .i64 t.x.lc) := by simp [World.cell?, h6]
          have q6 : (w5.setCell ⟨b0, 8, none⟩ (.slice P' t.x.ports.length q')).cell? ⟨b0, 6, none⟩ = some (.int .i64 t.x.lm) := by simp [World.cell?, h6]
          have q7 : (w5.setCell ⟨b0, 8, none⟩ (.slice P' t.x.ports.length q')).cell? ⟨b0, 7, none⟩ = some (.int .i64 t.x.lp) := by simp [World.cell?, h6]
          have q8 : (w5.setCell ⟨b0, 8, none⟩ (.slice P' t.x.ports.length q')).cell? ⟨b0, 8, none⟩ = some (.slice P' t.x.ports.length q') := by simp [World.cell?, h6]
          have q9 : (w5.setCell ⟨b0, 8, none⟩ (.slice P' t.x.ports.length q')).cell? ⟨b0, 9, none⟩ = some (.int .i64 t.x.ev) := by simp [World.cell?, h6]
          have q10 : (w5.setCell ⟨b0, 8, none⟩ (.slice P' t.x.ports.length q')).cell? ⟨b0, 10, none⟩ = some (.int .i64 t.x.fl) := by simp [World.cell?, h6]
          have hf6 : From b0 P' := fun a ha => by have := hf5 a ha; omega
          have HB6 := Lib.hid hb6
          have HOWN := Lib.hid own6
          have HN6 := Lib.hid hn6
          have HT6 := Lib.hid (show Thaw (w5.setCell ⟨b0, 8, none⟩ (.slice P' t.x.ports.length q')) P' from ((Kg.refl b0 w5).set 8 _).thaw ht5 (fun a ha => by have := hf5 a ha; omega))
          clear ht5
          clear hb6 own6 hn6 hbz h6 hn5 hf5 hb5 HB HCI hcb
          obtain ⟨w6, hw6⟩ : ∃ w6, w5.setCell ⟨b0, 8, none⟩ (.slice P' t.x.ports.length q') = w6 := ⟨_, rfl⟩
          have HSET : ∀ ad u, ad = (⟨b0, 8, none⟩ : Addr) → u = Value.slice P' t.x.ports.length q' → w5.setCell ad u = w6 := by rintro _ _ rfl rfl; exact hw6
          rw [hw6] at HB6 HOWN HN6 HT6 q0 q1 q2 q3 q4 q5 q6 q7 q8 q9 q10
          have hkr : k * 11 + 11 ≤ l.length * 11 := by omega
          have o0 := HOWN.out
          obtain ⟨u0', y0⟩ := row_at o0 (k * 11) (by omega)
          have fz0 := o0.frozenAt (k * 11)
          have o1 := (o0.stored (k * 11) (.string t.x.name)).1
          obtain ⟨v1, hv1⟩ : ∃ v, w6.setCell ⟨g, k * 11, none⟩ (.string t.x.name) = v := ⟨_, rfl⟩
          rw [hv1] at o1
          have g1 : Kg g w6 v1 := by rw [← hv1]; exact (Kg.refl g w6).set _ _
          obtain ⟨u1', y1⟩ := row_at o1 (k * 11 + 1) (by omega)
          have fz1 := o1.frozenAt (k * 11 + 1)
          have o2 := (o1.stored (k * 11 + 1) (.string t.x.image)).1
          obtain ⟨v2, hv2⟩ : ∃ v, v1.setCell ⟨g, k * 11 + 1, none⟩ (.string t.x.image) = v := ⟨_, rfl⟩
          rw [hv2] at o2
          have g2 : Kg g w6 v2 := by rw [← hv2]; exact g1.set _ _
          obtain ⟨u2', y2⟩ := row_at o2 (k * 11 + 2) (by omega)
          have fz2 := o2.frozenAt (k * 11 + 2)
          have o3 := (o2.stored (k * 11 + 2) (.int .i64 t.x.rc)).1
          obtain ⟨v3, hv3⟩ : ∃ v, v2.setCell ⟨g, k * 11 + 2, none⟩ (.int .i64 t.x.rc) = v := ⟨_, rfl⟩
          rw [hv3] at o3
          have g3 : Kg g w6 v3 := by rw [← hv3]; exact g2.set _ _
          obtain ⟨u3', y3⟩ := row_at o3 (k * 11 + 3) (by omega)
          have fz3 := o3.frozenAt (k * 11 + 3)
          have o4 := (o3.stored (k * 11 + 3) (.int .i64 t.x.rm)).1
          obtain ⟨v4, hv4⟩ : ∃ v, v3.setCell ⟨g, k * 11 + 3, none⟩ (.int .i64 t.x.rm) = v := ⟨_, rfl⟩
          rw [hv4] at o4
          have g4 : Kg g w6 v4 := by rw [← hv4]; exact g3.set _ _
          obtain ⟨u4', y4⟩ := row_at o4 (k * 11 + 4) (by omega)
          have fz4 := o4.frozenAt (k * 11 + 4)
          have o5 := (o4.stored (k * 11 + 4) (.int .i64 t.x.rp)).1
          obtain ⟨v5, hv5⟩ : ∃ v, v4.setCell ⟨g, k * 11 + 4, none⟩ (.int .i64 t.x.rp) = v := ⟨_, rfl⟩
          rw [hv5] at o5
          have g5 : Kg g w6 v5 := by rw [← hv5]; exact g4.set _ _
          obtain ⟨u5', y5⟩ := row_at o5 (k * 11 + 5) (by omega)
          have fz5 := o5.frozenAt (k * 11 + 5)
          have o6 := (o5.stored (k * 11 + 5) (.int .i64 t.x.lc)).1
          obtain ⟨v6, hv6⟩ : ∃ v, v5.setCell ⟨g, k * 11 + 5, none⟩ (.int .i64 t.x.lc) = v := ⟨_, rfl⟩
          rw [hv6] at o6
          have g6 : Kg g w6 v6 := by rw [← hv6]; exact g5.set _ _
          obtain ⟨u6', y6⟩ := row_at o6 (k * 11 + 6) (by omega)
          have fz6 := o6.frozenAt (k * 11 + 6)
          have o7 := (o6.stored (k * 11 + 6) (.int .i64 t.x.lm)).1
          obtain ⟨v7, hv7⟩ : ∃ v, v6.setCell ⟨g, k * 11 + 6, none⟩ (.int .i64 t.x.lm) = v := ⟨_, rfl⟩
          rw [hv7] at o7
          have g7 : Kg g w6 v7 := by rw [← hv7]; exact g6.set _ _
          obtain ⟨u7', y7⟩ := row_at o7 (k * 11 + 7) (by omega)
          have fz7 := o7.frozenAt (k * 11 + 7)
          have o8 := (o7.stored (k * 11 + 7) (.int .i64 t.x.lp)).1
          obtain ⟨v8, hv8⟩ : ∃ v, v7.setCell ⟨g, k * 11 + 7, none⟩ (.int .i64 t.x.lp) = v := ⟨_, rfl⟩
          rw [hv8] at o8
          have g8 : Kg g w6 v8 := by rw [← hv8]; exact g7.set _ _
          obtain ⟨u8', y8⟩ := row_at o8 (k * 11 + 8) (by omega)
          have fz8 := o8.frozenAt (k * 11 + 8)
          have o9 := (o8.stored (k * 11 + 8) (.slice P' t.x.ports.length q')).1
          obtain ⟨v9, hv9⟩ : ∃ v, v8.setCell ⟨g, k * 11 + 8, none⟩ (.slice P' t.x.ports.length q') = v := ⟨_, rfl⟩
          rw [hv9] at o9
          have g9 : Kg g w6 v9 := by rw [← hv9]; exact g8.set _ _
          obtain ⟨u9', y9⟩ := row_at o9 (k * 11 + 9) (by omega)
          have fz9 := o9.frozenAt (k * 11 + 9)
          have o10 := (o9.stored (k * 11 + 9) (.int .i64 t.x.ev)).1
          obtain ⟨v10, hv10⟩ : ∃ v, v9.setCell ⟨g, k * 11 + 9, none⟩ (.int .i64 t.x.ev) = v := ⟨_, rfl⟩
          rw [hv10] at o10
          have g10 : Kg g w6 v10 := by rw [← hv10]; exact g9.set _ _
          obtain ⟨u10', y10⟩ := row_at o10 (k * 11 + 10) (by omega)
          have fz10 := o10.frozenAt (k * 11 + 10)
          have o11 := (o10.stored (k * 11 + 10) (.int .i64 t.x.fl)).1
          obtain ⟨v11, hv11⟩ : ∃ v, v10.setCell ⟨g, k * 11 + 10, none⟩ (.int .i64 t.x.fl) = v := ⟨_, rfl⟩
          rw [hv11] at o11
          have g11 : Kg g w6 v11 := by rw [← hv11]; exact g10.set _ _
          have HK := Lib.hid (show Kg g w6 v11 from g11)
          have HO11 := Lib.hid (show v11.ownsRow w.heap.size 44 11 (.slice (some ⟨g, 0, none⟩) l.length c') l.length (flat (M.set k ⟨t.x, P', q'⟩)) by rw [flat_set M k _ hkM]; exact o11)
          clear o0 o1 o2 o3 o4 o5 o6 o7 o8 o9 o10 o11 g1 g2 g3 g4 g5 g6 g7 g8 g9 g10 g11
          go_wp2_with fail
          go_roundw
          case rel =>
            refine ⟨k + 1, M.set k ⟨t.x, P', q'⟩, by omega, by go_num, ?_⟩
            have hM := HM.out
            have hwb : w.heap.size ≤ b0 := by rw [← hb0]; exact hM.below.size
            have hgb : g < b0 := by rw [← hb0]; exact hgl
            have hb6 := HB6.out
            refine Lib.hid ⟨HO11.out, ?_, fun j u hj hjk => ?_, fun j u hj hjk => hM.todo j u (by rwa [List.getElem?_set_ne (by omega)] at hj) (by omega), (HK.out.below (hM.below.trans (hb6.mono hwb)) e2)⟩
            · apply List.ext_getElem?
              intro j
              rw [List.getElem?_map]
              by_cases hjk : k = j
              · subst hjk
                rw [List.getElem?_set_self hkM, htx]; rfl
              · rw [List.getElem?_set_ne hjk, ← List.getElem?_map, hM.xs]
            · by_cases hjj : k = j
              · subst hjj
                rw [List.getElem?_set_self hkM, Option.some.injEq] at hj
                subst hj
                refine ⟨⟨(hM.todo k t hMk (Nat.le_refl _)).fits, HK.out.nums HN6.out (fun a ha => by have := hf6 a ha; omega), hq5⟩, fun a ha => by have := hf6 a ha; omega, HK.out.thaw HT6.out (fun a ha => by have := hf6 a ha; omega), fun a g' ha hg' => ?_⟩
                have := hf6 a ha
                injection hg' with hg'
                subst hg'
                show a.block ≠ g
                omega
              · rw [List.getElem?_set_ne hjj] at hj
                obtain ⟨ho, hf, ht, hne⟩ := hM.done j u hj (by omega)
                exact ⟨⟨ho.fits, HK.out.nums (Nums.below ho.ports (by rw [hb0]; exact hb6)) (fun a ha => hne a _ ha rfl), ho.room⟩, hf, HK.out.thaw (ht.below (by rw [hb0]; exact hb6)) (fun a ha => hne a _ ha rfl), hne⟩
          case measure => simp [RowKit.intOf]; omega
    · have hkk : k = l.length := by omega
      subst hkk
      go_wp2
      go_ret
      refine ⟨A', c', rfl, fun j x hj => ?_, hcc, HM.out.below⟩
      have hjl := (List.getElem?_eq_some_iff.1 hj).1
      have hMj := hj
      rw [← HM.out.xs, List.getElem?_map, Option.map_eq_some_iff] at hMj
      obtain ⟨t, ht, rfl⟩ := hMj
      obtain ⟨ho, hf, hth, hne⟩ := HM.out.done j t ht hjl
      rcases HM.out.own.2 with ⟨e1, h0⟩ | ⟨g, cap, cur, e1, e2, e3, e4⟩
      · omega
      · injection e1 with e1 e5 e6
        subst e1
        have hc : ∀ i, i < 11 → wr.cell? ⟨g, j * 11 + i, none⟩ = t.cells[i]? := fun i hi => by
          rw [HM.out.own.cellAt (j * 11 + i) (by omega), flat_at ht i hi]
        have e0 : (⟨g, 0, none⟩ : Addr).add (j * 11) = ⟨g, j * 11, none⟩ := by unfold Addr.add; split <;> simp_all
        refine ⟨ho.fits, _, t.P, t.c, rfl, e2, lt_of_block e3, ?_, ho.ports, hf, thaw_own HM.out.own, hth, fun p hp => hne p _ hp rfl⟩
        rw [e0]
        exact ⟨hc 0 (by omega), hc 1 (by omega), hc 2 (by omega), hc 3 (by omega), hc 4 (by omega), hc 5 (by omega), hc 6 (by omega), hc 7 (by omega), hc 8 (by omega), hc 9 (by omega), hc 10 (by omega), ho.room⟩
end SpecOwn
end Go.Proofs.YtefkaebdfkjkgaaGreatDoor
