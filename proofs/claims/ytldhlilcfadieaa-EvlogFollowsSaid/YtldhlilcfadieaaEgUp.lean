/-
  The contracts of a log's upTo (by sort.Search) and above: as EgPure says. What was there is left as it was. Condition: the log is one (LgAt), its revisions rise.
-/
import Derived.Test.YtldhlilcfadieaaEgSmall
import Derived.Deep.RegionHeld3
set_option linter.unusedVariables false
set_option linter.unusedSimpArgs false
namespace Go.Proofs.Ytldhlilcfadieaa
open Go.ChangeShapes Go.WideShapes Go.ChangeAt Go.RowKit Go.Lib
open Lists Go.Sort
namespace Eg

theorem LgAt.below {w w' : World} {g : Nat} {D : Nat → Prop} {L : List Evt} {A : Option Addr} {c fl mo : Nat} (h : LgAt w g D L A c fl mo) (hb : Below w.heap.size w w') : LgAt w' g D L A c fl mo :=
  h.move hb.size (fun b hl _ => hb.block b hl) (fun b hd => .inl hd)
theorem Lg.move {w w' : World} {g : Nat} {D D' : Nat → Prop} {rs : List Nat} {fl mo : Nat} (h : Lg w g D rs fl mo) (hs : w.heap.size ≤ w'.heap.size) (hb : ∀ b, b < w.heap.size → ¬ D b → w'.heap[b]? = w.heap[b]?) (hD : ∀ b, D' b → D b ∨ w.heap.size ≤ b) : Lg w' g D' rs fl mo := by
  obtain ⟨L, A, c, hr, h⟩ := h
  exact ⟨L, A, c, hr, h.move hs hb hD⟩
theorem Lg.below {w w' : World} {g : Nat} {D : Nat → Prop} {rs : List Nat} {fl mo : Nat} (h : Lg w g D rs fl mo) (hb : Below w.heap.size w w') : Lg w' g D rs fl mo :=
  h.move hb.size (fun b hl _ => hb.block b hl) (fun b hd => .inl hd)
theorem Lg.lt {w : World} {g : Nat} {D : Nat → Prop} {rs : List Nat} {fl mo : Nat} (h : Lg w g D rs fl mo) : g < w.heap.size := by
  obtain ⟨L, A, c, hr, h⟩ := h
  exact h.lt

set_option maxRecDepth 100000 in
theorem upTo_any {g : Nat} {D : Nat → Prop} {L : List Evt} {A : Option Addr} {c fl mo : Nat} (b : Nat) (w : World) (h : LgAt w g D L A c fl mo) (hl : L.length ≤ 64) (hs : (L.map Evt.rev).Pairwise (· < ·)) :
    Calls Try.prog 16 #[.pointer (some ⟨g, 0, none⟩), .int .u64 (b : Int)] w fun e w' => e = .returned (.int .i64 (upN (L.map Evt.rev) b : Int)) ∧ Below w.heap.size w w' := by
  obtain ⟨W0, hW0⟩ : ∃ W0, W0 = (w.alloc (.cells #[.pointer (some ⟨g, 0, none⟩)] 24)).alloc (.cells #[.int .u64 (b : Int)] 26) := ⟨_, rfl⟩
  have hsize : W0.heap.size = w.heap.size + 1 + 1 := by rw [hW0]; simp
  have ca : W0.cell? ⟨w.heap.size, 0, none⟩ = some (.pointer (some ⟨g, 0, none⟩)) := by rw [hW0]; exact cell_alloc_sl _ (cell_new_sl w _ _)
  have cx : W0.cell? ⟨w.heap.size + 1, 0, none⟩ = some (.int .u64 (b : Int)) := by rw [hW0]; have := cell_new_sl (w.alloc (.cells #[.pointer (some ⟨g, 0, none⟩)] 24)) (.int .u64 (b : Int)) 26; rwa [World.size_alloc] at this
  have hB0 : Below w.heap.size w W0 := by rw [hW0]; exact ((Below.refl _ w).alloc (Nat.le_refl _) _).alloc (by simp) _
  have h0 := h.below hB0
  obtain ⟨c0, _, _⟩ := log_cells h0.box
  have hg := h.lt
  have eg : ∀ args w, (callFunc 26 args).run Try.prog w = .ok (.enter 26 args) w := enters_of Try.func26 (by kernel_rfl) rfl
  obtain ⟨d, hd⟩ : ∃ d : Array Nat, d = (L.map Evt.rev).toArray := ⟨_, rfl⟩
  have hds : d.size = L.length := by rw [hd]; simp
  have hat : ∀ (i : Nat) (x : Evt), L[i]? = some x → d[i]! = x.rev := by
    intro i x hx
    have hi := (List.getElem?_eq_some_iff.1 hx).1
    rw [getElem!_pos d i (by omega)]
    simp only [hd, List.getElem_toArray, List.getElem_map]
    rw [(List.getElem?_eq_some_iff.1 hx).2]
  have hS := Any.sort_Search Try.searchL 26 #[.pointer (some ⟨w.heap.size, 0, none⟩), .pointer (some ⟨w.heap.size + 1, 0, none⟩)] L.length (fun i => decide (b < d[i]!)) W0 eg (by omega)
    (fun m os i hi => by
      obtain ⟨x, hx⟩ : ∃ x, L[i]? = some x := ⟨_, List.getElem?_eq_getElem hi⟩
      obtain ⟨r, hA, hr, hc⟩ := h0.cell hx
      have c1 := hc 1 _ rfl
      rw [hA] at c0
      refine (closure_any w.heap.size (w.heap.size + 1) g r i L.length c b x.rev _ (cell_grown (by simp [hsize]; omega) ca m os) (cell_grown (by simp [hsize]) cx m os) (cell_grown (by simp [hsize]; omega) c0 m os) (cell_grown (by simpa using hr) c1 m os) hi hl).mono ?_
      rintro e w' ⟨he, q, hq⟩
      exact ⟨by rw [he, hat i x hx], q, #[], by rw [hq, grow_empty]⟩)
    (fun i j hij hj hb => by
      obtain ⟨x, hx⟩ : ∃ x, L[i]? = some x := ⟨_, List.getElem?_eq_getElem (by omega)⟩
      obtain ⟨y, hy⟩ : ∃ y, L[j]? = some y := ⟨_, List.getElem?_eq_getElem hj⟩
      simp only [decide_eq_true_eq] at hb ⊢
      rw [hat i x hx] at hb
      rw [hat j y hy]
      rcases Nat.lt_or_ge i j with h1 | h1
      · have := (List.pairwise_iff_getElem.1 hs) i j (by simp; omega) (by simp; omega) h1
        simp only [List.getElem_map] at this
        rw [(List.getElem?_eq_some_iff.1 hx).2, (List.getElem?_eq_some_iff.1 hy).2] at this
        omega
      · have e : i = j := by omega
        subst e
        rw [hx] at hy
        injection hy with hy
        subst hy
        exact hb)
  rw [← hds] at hS
  rw [Lib.countP_range d (fun y => !decide (b < y))] at hS
  have hup : d.toList.countP (fun y => !decide (b < y)) = upN (L.map Evt.rev) b := by rw [hd]; rfl
  rw [hup] at hS
  change Calls Try.prog 25 _ _ _ at hS
  rw [hds] at hS
  obtain ⟨c0', _, _⟩ := log_cells h.box
  have HSZ := Lib.hid hsize
  have HB0 := Lib.hid hB0
  clear hat ca cx eg hd hds hup hs c0 h0 h hsize hB0
  generalize upN (L.map Evt.rev) b = r at hS ⊢
  go_enter Try.func16, Try.ntmps16
  go_wp2_with (go_at_call 25; rw [← hW0]; refine hS.mono ?_; rintro e w' ⟨rfl, q, os, rfl⟩)
  go_ret
  refine ⟨rfl, ?_⟩
  first | rw [← hW0] | skip
  exact HB0.out.trans (below_grown_sl w.heap.size W0 q os (by have := HSZ.out; omega))

/-- event j of a slice at A' -/
def AtEv (w : World) (A' : Option Addr) (j : Nat) (x : Evt) : Prop := ∃ r o, A' = some ⟨r, o, none⟩ ∧ r < w.heap.size ∧ ∀ t v, x.vals[t]? = some v → w.cell? ⟨r, o + j * 15 + t, none⟩ = some v
theorem AtEv.below {w w' : World} {A' : Option Addr} {j : Nat} {x : Evt} (h : AtEv w A' j x) (hb : Below w.heap.size w w') : AtEv w' A' j x := by
  obtain ⟨r, o, h1, h2, h3⟩ := h
  exact ⟨r, o, h1, Nat.lt_of_lt_of_le h2 hb.size, fun t v hv => (hb.cell (p := ⟨r, o + j * 15 + t, none⟩) h2).trans (h3 t v hv)⟩
theorem above_old {g : Nat} {D : Nat → Prop} {rs : List Nat} {fl mo : Nat} (b : Nat) (w : World) (h : Lg w g D rs fl mo) (hb : b < fl) :
    Calls Try.prog 18 #[.pointer (some ⟨g, 0, none⟩), .int .u64 (b : Int)] w fun e w' => e = .returned (.tuple #[.slice none 0 0, .int .i64 120]) ∧ w' = w := by
  obtain ⟨L, A, c, _, h⟩ := h
  obtain ⟨c0, c1, c2⟩ := log_cells h.box
  clear h c0 c2
  go_enter Try.func18, Try.ntmps18
  go_wp2_with fail
  go_ret2
  exact ⟨rfl, rfl⟩
theorem held_drew {w v : World} {g : Nat} {D : Nat → Prop} {L : List Evt} {A : Option Addr} {c fl mo : Nat} {u : Value} (h : LgAt v g D L A c fl mo ∧ v.cell? ⟨g, 0, none⟩ = some u ∧ Below w.heap.size w v) : LgAt v.drew g D L A c fl mo ∧ v.drew.cell? ⟨g, 0, none⟩ = some u ∧ Below w.heap.size w v.drew :=
  ⟨h.1.below (Kit.below_drewN _ _ 1), h.2.1, h.2.2.drew⟩
theorem held_call {w v v' : World} {g : Nat} {D : Nat → Prop} {L : List Evt} {A : Option Addr} {c fl mo : Nat} {u : Value} (h : LgAt v g D L A c fl mo ∧ v.cell? ⟨g, 0, none⟩ = some u ∧ Below w.heap.size w v) (hb : Below v.heap.size v v') : LgAt v' g D L A c fl mo ∧ v'.cell? ⟨g, 0, none⟩ = some u ∧ Below w.heap.size w v' :=
  ⟨h.1.below hb, (hb.cell (p := ⟨g, 0, none⟩) h.1.lt).trans h.2.1, h.2.2.trans (hb.mono h.2.2.size)⟩
set_option maxRecDepth 100000 in
theorem above_new {g : Nat} {D : Nat → Prop} {L : List Evt} {A : Option Addr} {c fl mo : Nat} (b : Nat) (w : World) (h : LgAt w g D L A c fl mo) (hl : L.length ≤ 64) (hs : (L.map Evt.rev).Pairwise (· < ·)) (hb : fl ≤ b) (k : Nat) (hk : upN (L.map Evt.rev) b = k) :
    Calls Try.prog 18 #[.pointer (some ⟨g, 0, none⟩), .int .u64 (b : Int)] w fun e w' => ∃ A' c', e = .returned (.tuple #[.slice A' (L.length - k) c', .int .i64 0]) ∧ L.length - k ≤ c' ∧ (∀ (j : Nat) (x : Evt), L[k + j]? = some x → AtEv w' A' j x) ∧ Below w.heap.size w w' := by
  obtain ⟨c0, c1, c2⟩ := log_cells h.box
  have hkl : k ≤ L.length := by rw [← hk]; have := upN_le (L.map Evt.rev) b; rwa [List.length_map] at this
  obtain ⟨hcap, hcm⟩ := own_cap h.row
  unfold maxLen at hcm
  have HUP := Lib.hid (fun (v : World) (hv : LgAt v g D L A c fl mo) => by have := upTo_any b v hv hl hs; rw [hk] at this; exact this)
  have H := Lib.hid h
  obtain ⟨SA, hSA, hev⟩ : ∃ SA, (if c = k then A else A.map fun a => a.add (k * 15)) = SA ∧ Hid (∀ v, LgAt v g D L A c fl mo → ∀ (j : Nat) (x : Evt), L[k + j]? = some x → AtEv v SA j x) := by
    refine ⟨_, rfl, fun v hv j x hx => ?_⟩
    have hj := (List.getElem?_eq_some_iff.1 hx).1
    obtain ⟨r, rfl, hr, hc⟩ := hv.cell hx
    rw [if_neg (by omega)]
    refine ⟨r, k * 15, by rw [Option.map_some, at_row], hr, fun t u hu => ?_⟩
    rw [show k * 15 + j * 15 + t = (k + j) * 15 + t by omega]
    exact hc t u hu
  have hk0 : (0 : Int) ≤ (k : Int) := by omega
  have hk1 : (k : Int) ≤ (L.length : Int) := by omega
  have hk2 : (L.length : Int) ≤ (c : Int) := by omega
  have hk3 : (c : Int) ≤ 9223372036854775807 := by omega
  have hlt : ¬ (b : Int) < (fl : Int) := by omega
  have HHL := Lib.hid hl
  clear h hk hs hl
  obtain ⟨n, hn⟩ : ∃ n, L.length = n := ⟨_, rfl⟩
  rw [hn] at c0 hk1 hk2 hkl hcap HHL ⊢
  have HN := Lib.hid hn
  clear hn
  cases A with
  | none => 
    have hz : n = 0 ∧ c = 0 := by
      rcases H.out.row.2 with ⟨e1, e2⟩ | ⟨g', cap, cur, e1, _⟩
      · injection e1 with _ e3 e4; rw [HN.out] at e2; exact ⟨e2, e4⟩
      · cases e1
    obtain ⟨rfl, rfl⟩ := hz
    obtain rfl : k = 0 := by omega
    have HL0 := Lib.hid (List.length_eq_zero_iff.1 HN.out)
    clear hSA hk0 hk1 hk2 hk3 hkl hcap hcm
    go_enter Try.func18, Try.ntmps18
    go_wp2_with fail
    go_region_held3 (fun w' => LgAt w' g D L none 0 fl mo ∧ w'.cell? ⟨g, 0, none⟩ = some (.slice none 0 0) ∧ Below w.heap.size w w')
      (first | exact held_call (by assumption) hbn | exact held_drew (by assumption) | exact ⟨H.out.below (Kit.below_drewN _ _ 1), c0, (Below.refl _ _).drew⟩ | exact ⟨H.out, c0, Below.refl _ _⟩ | go_keep)
      ((refine (HUP.out _ (by first | exact H.out.below (Kit.below_drewN _ _ 1) | exact H.out | exact (show LgAt _ g D L none 0 fl mo ∧ _ by assumption).1)).mono ?_; rintro e wn ⟨rfl, hbn⟩))
    have HB := Lib.hid (show Below w.heap.size w wn from (Kit.below_drewN w.heap.size w 1).trans hbn)
    clear hbn
    go_wp2_with fail
    go_ret2
    exact ⟨none, 0, rfl, Nat.le_refl _, (fun j x hx => by rw [HL0.out] at hx; simp at hx), HB.out⟩
  | some a =>
    obtain ⟨r, hr⟩ : ∃ r, a = ⟨r, 0, none⟩ := by
      rcases H.out.row.2 with ⟨e1, e2⟩ | ⟨g', cap, cur, e1, _⟩
      · cases e1
      · injection e1 with e1 _ _; injection e1 with e1; exact ⟨g', e1⟩
    subst hr
    have hSA2 : (if c = k then some (⟨r, 0, none⟩ : Addr) else some ⟨r, k * 15, none⟩) = SA := by rw [← hSA, Option.map_some, at_row]
    have e0 := at_row r k
    clear hSA
    go_enter Try.func18, Try.ntmps18
    go_wp2_with fail
    go_region_held3 (fun w' => LgAt w' g D L (some ⟨r, 0, none⟩) c fl mo ∧ w'.cell? ⟨g, 0, none⟩ = some (.slice (some ⟨r, 0, none⟩) n c) ∧ Below w.heap.size w w')
      (first | exact held_call (by assumption) hbn | exact held_drew (by assumption) | exact ⟨H.out.below (Kit.below_drewN _ _ 1), c0, (Below.refl _ _).drew⟩ | exact ⟨H.out, c0, Below.refl _ _⟩ | go_keep)
      ((refine (HUP.out _ (by first | exact H.out.below (Kit.below_drewN _ _ 1) | exact H.out | exact (show LgAt _ g D L (some ⟨r, 0, none⟩) c fl mo ∧ _ by assumption).1)).mono ?_; rintro e wn ⟨rfl, hbn⟩))
    have HB := Lib.hid (show Below w.heap.size w wn from (Kit.below_drewN w.heap.size w 1).trans hbn)
    have HF := Lib.hid (H.out.below HB.out)
    clear hbn
    go_wp2_with fail
    go_ret2
    exact ⟨SA, c - k, by first | rfl | (simp only [hSA2]), by omega, hev.out wn HF.out, HB.out⟩
end Eg
end Go.Proofs.Ytldhlilcfadieaa
