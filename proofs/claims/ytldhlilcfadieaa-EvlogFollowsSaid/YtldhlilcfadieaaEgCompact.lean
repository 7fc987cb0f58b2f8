/-
  The contract of a log's Compact: as EgPure says. All that is not the log's is as it was. Condition: the log is one (Lg, Good).
-/
import Derived.Test.YtldhlilcfadieaaEgDelete
set_option linter.unusedVariables false
set_option linter.unusedSimpArgs false
namespace Go.Proofs.Ytldhlilcfadieaa
open Go.ChangeShapes Go.WideShapes Go.ChangeAt Go.RowKit Go.Lib
open Lists
namespace Eg

theorem delete_all (r cap k : Nat) (L : List Evt) (w : World) (h : w.ownsRow 0 40 15 (.slice (some ⟨r, 0, none⟩) L.length cap) L.length (flatE L)) (hkn : k ≤ L.length) :
    Calls Try.prog 17 #[.slice (some ⟨r, 0, none⟩) L.length cap, .int .i64 0, .int .i64 k] w fun e w' => e = .returned (.slice (some ⟨r, 0, none⟩) (L.length - k) cap) ∧
      w'.ownsRow 0 40 15 (.slice (some ⟨r, 0, none⟩) (L.drop k).length cap) (L.drop k).length (flatE (L.drop k)) ∧ OnlyB r w w' := by
  by_cases hk : k = 0
  · subst hk
    obtain ⟨hnc, hcm⟩ := own_cap h
    refine (delete_zero (some ⟨r, 0, none⟩) L.length cap hnc (by unfold maxLen at hcm; exact hcm) w).mono ?_
    rintro e w' ⟨rfl, rfl⟩
    exact ⟨rfl, h, OnlyB.refl _ _⟩
  · exact delete_any r cap k L w h (by omega) hkn
/-- a log whose row was cut and whose box was written anew -/
theorem LgAt.cut {w w1 w2 : World} {g r : Nat} {D : Nat → Prop} {L : List Evt} {c fl mo : Nat} (h : LgAt w g D L (some ⟨r, 0, none⟩) c fl mo) (k t : Nat) (hb : Below w.heap.size w w1) (ho : OnlyB r w1 w2)
    (hr : w2.ownsRow 0 40 15 (.slice (some ⟨r, 0, none⟩) (L.drop k).length c) (L.drop k).length (flatE (L.drop k))) :
    LgAt ((w2.setCell ⟨g, 0, none⟩ (.slice (some ⟨r, 0, none⟩) (L.length - k) c)).setCell ⟨g, 1, none⟩ (.int .u64 (t : Int))) g D (L.drop k) (some ⟨r, 0, none⟩) c t mo ∧
    Kp D w ((w2.setCell ⟨g, 0, none⟩ (.slice (some ⟨r, 0, none⟩) (L.length - k) c)).setCell ⟨g, 1, none⟩ (.int .u64 (t : Int))) := by
  obtain ⟨hd, hrg⟩ := h.dr r rfl
  have hg := h.lt
  have hl : (L.drop k).length = L.length - k := List.length_drop
  have hother : ∀ i, i ≠ g → ((w2.setCell ⟨g, 0, none⟩ (.slice (some ⟨r, 0, none⟩) (L.length - k) c)).setCell ⟨g, 1, none⟩ (.int .u64 (t : Int))).heap[i]? = w2.heap[i]? := fun i hi =>
    (Below.heap_setCell _ _ _ _ hi).trans (Below.heap_setCell _ _ _ _ hi)
  have hsz : ((w2.setCell ⟨g, 0, none⟩ (.slice (some ⟨r, 0, none⟩) (L.length - k) c)).setCell ⟨g, 1, none⟩ (.int .u64 (t : Int))).heap.size = w2.heap.size := by simp [World.setCell]
  have hbox : w2.heap[g]? = some (.cells #[.slice (some ⟨r, 0, none⟩) L.length c, .int .u64 (fl : Nat), .int .i64 (mo : Nat)] 54 (0, 0)) := (ho.block g (fun e => hrg e.symm)).trans ((hb.block g hg).trans h.box)
  refine ⟨⟨?_, owns_of hr (fun q hq => by injection hq with hq; subst hq; exact hother _ hrg), h.dg, fun q hq => by injection hq with hq; subst hq; exact ⟨hd, hrg⟩, fun x hx => ?_⟩, ?_⟩
  · have e := box_set (box_set hbox 0 (.slice (some ⟨r, 0, none⟩) (L.length - k) c) rfl) 1 (.int .u64 (t : Int)) rfl
    rw [hl]
    exact e
  · obtain ⟨q1, q2, q3⟩ := h.ev x (List.mem_of_mem_drop hx)
    refine ⟨nums_move q1 (by rw [hsz, ho.size]; exact hb.size) (fun a ha hla => ?_), q2, fun a ha => ?_⟩
    · obtain ⟨p0, p1, p2, p3⟩ := q3 a ha
      exact (hother _ p2).trans ((ho.block _ (fun e => p3 (by rw [e]; rfl))).trans (hb.block _ hla))
    · obtain ⟨p0, p1, p2, p3⟩ := q3 a ha
      exact ⟨by rw [hsz, ho.size]; exact Nat.lt_of_lt_of_le p0 hb.size, p1, p2, p3⟩
  · refine ⟨(by show w2.os = _; rw [ho.os, hb.os]), (by show w2.tape = _; rw [ho.tape, hb.tape]), (by show w2.output = _; rw [ho.output, hb.output]), (by rw [hsz, ho.size]; exact hb.size), fun i hi hdi => ?_⟩
    exact (hother i (fun e => h.dg (by rw [← e]; exact hdi))).trans ((ho.block i (fun e => hd (by rw [← e]; exact hdi))).trans (hb.block i hi))

set_option maxRecDepth 100000 in
set_option maxHeartbeats 1000000 in
theorem compact_any {g : Nat} {D : Nat → Prop} {rs : List Nat} {fl mo : Nat} (to : Nat) (w : World) (h : Lg w g D rs fl mo) (G : Good fl rs mo) :
    Calls Try.prog 9 #[.pointer (some ⟨g, 0, none⟩), .int .u64 (to : Int)] w fun e w' => e = .returned (.int .i64 (cpN rs fl to : Int)) ∧ Lg w' g D (cpR rs fl to) (cpF rs fl to) mo ∧ Kp D w w' := by
  have hl64 : rs.length ≤ 64 := Nat.le_trans G.len G.most
  have HS := Lib.hid (up_sorted G.up)
  obtain ⟨la, hla⟩ : ∃ la, lastN rs fl = la := ⟨_, rfl⟩
  have hll := (le_lastN G.up).1
  rw [hla] at hll
  have HLA := Lib.hid (fun (v : World) (hv : Lg v g D rs fl mo) => by have := last_any v hv hl64; rw [hla] at this; exact this)
  obtain ⟨t, ht⟩ : ∃ t, min to la = t := ⟨_, rfl⟩
  have hmin : min (to : Int) (la : Int) = (t : Int) := by omega
  have H := Lib.hid h
  by_cases hc : t ≤ fl
  · have eN : cpN rs fl to = 0 := by unfold cpN; rw [hla, ht, if_pos hc]
    have eR : cpR rs fl to = rs := by unfold cpR; rw [hla, ht, if_pos hc]
    have eF : cpF rs fl to = fl := by unfold cpF; rw [hla, ht, if_pos hc]
    rw [eN, eR, eF]
    obtain ⟨L, A, c, _, h'⟩ := h
    obtain ⟨c0, c1, c2⟩ := log_cells h'.box
    clear h' eN eR eF ht hla c0 c2
    go_enter Try.func9, Try.ntmps9
    go_wp2_with fail
    refine (HLA.out _ H.out).mono ?_
    rintro e w1 ⟨rfl, n, rfl⟩
    go_wp2_with fail
    go_ret
    exact ⟨rfl, H.out.below (Kit.below_drewN _ _ _), Kp.of_below (Kit.below_drewN _ _ _)⟩
  · have eN : cpN rs fl to = upN rs t := by unfold cpN; rw [hla, ht, if_neg hc]
    have eR : cpR rs fl to = rs.drop (upN rs t) := by unfold cpR; rw [hla, ht, if_neg hc]
    have eF : cpF rs fl to = t := by unfold cpF; rw [hla, ht, if_neg hc]
    rw [eN, eR, eF]
    obtain ⟨L, A, c, hrs, h'⟩ := h
    have hn : 0 < L.length := by
      rcases Nat.eq_zero_or_pos L.length with h0 | h0
      · have := List.length_eq_zero_iff.1 h0
        subst this
        simp at hrs
        subst hrs
        rw [lastN_nil] at hla
        omega
      · exact h0
    obtain ⟨r, rfl⟩ := own_addr h'.row hn
    obtain ⟨c0, c1, c2⟩ := log_cells h'.box
    have hlL : L.length ≤ 64 := by rw [← hrs, List.length_map] at hl64; exact hl64
    obtain ⟨k, hk⟩ : ∃ k, upN rs t = k := ⟨_, rfl⟩
    have hkl : k ≤ L.length := by rw [← hk, ← hrs]; have := upN_le (L.map Evt.rev) t; rwa [List.length_map] at this
    have HUP := Lib.hid (fun (v : World) (hv : LgAt v g D L (some ⟨r, 0, none⟩) c fl mo) => by have := upTo_any t v hv hlL (by rw [hrs]; exact HS.out); rw [hrs, hk] at this; exact this)
    have H' := Lib.hid h'
    have HRS := Lib.hid hrs
    rw [hk]
    have hgl := h'.lt
    have hrl := (owns_lt h'.row (r := r) rfl).2
    obtain ⟨_, hrg⟩ := h'.dr r rfl
    have HKL := Lib.hid hkl
    clear h' hrs eN eR eF ht hla hk hn hl64
    go_enter Try.func9, Try.ntmps9
    go_wp2_with fail
    refine (HLA.out _ H.out).mono ?_
    rintro e w1 ⟨rfl, q, rfl⟩
    have B1 := Lib.hid (show Below w.heap.size w (w.drewN q) from Kit.below_drewN _ _ _)
    go_wp2_with fail
    refine (HUP.out _ (H'.out.below B1.out)).mono ?_
    rintro e w2 ⟨rfl, hb2⟩
    have B2 := Lib.hid (B1.out.trans hb2)
    have HH := Lib.hid (H'.out.below B2.out)
    obtain ⟨c0', c1', c2'⟩ := log_cells HH.out.box
    clear hb2 c0 c1 c2 c2'
    go_wp2_with fail
    refine (delete_all r c k L _ HH.out.row HKL.out).mono ?_
    rintro e w3 ⟨rfl, hr3, ho3⟩
    have hbox : w3.heap[g]? = _ := (ho3.block g (fun e => hrg e.symm)).trans HH.out.box
    obtain ⟨d0, d1, d2⟩ := log_cells hbox
    have f0 := box_free hbox 0
    have f1 := box_free hbox 1
    have HE := Lib.hid (H'.out.cut k t B2.out ho3 hr3)
    clear c0' c1' hbox hr3 ho3 d2
    go_wp2_with fail
    go_ret
    exact ⟨rfl, ⟨_, _, _, by rw [List.map_drop, HRS.out], HE.out.1⟩, HE.out.2⟩
end Eg
end Go.Proofs.Ytldhlilcfadieaa
