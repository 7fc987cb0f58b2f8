/-
  PortPlays: whatever is taken and freed, all answers, and who has which port, are as the document has them. No condition.
-/
import Derived.Test.YtgnfpcacpcnanaaPtWorks
import Derived.Test.YtgnfpcacpcnanaaPtBook
set_option linter.unusedVariables false
set_option linter.unusedSimpArgs false
namespace Go.Proofs.Ytgnfpcacpcnanaa
open Go.ChangeShapes Go.WideShapes Go.ChangeAt Go.RowKit Go.Lib
open Lists
namespace Pt

/-- the table, the document's list, and what was there -/
structure St (w : World) (g : Nat) (wr : World) (L : Tab) (Aq : Option Addr) (cq m : Nat) : Prop where
  hg : w.heap.size ≤ g
  tb : Tb w.heap.size wr g L
  row : wr.ownsRow 0 39 2 (.slice Aq m cq) m (flat L)
  ok : Ok L
  len : L.length = m
  bel : Below w.heap.size w wr
theorem St.below {w wr w' : World} {g : Nat} {L : Tab} {Aq : Option Addr} {cq m : Nat} (h : St w g wr L Aq cq m) (hb : Below wr.heap.size wr w') : St w g w' L Aq cq m :=
  ⟨h.hg, h.tb.below hb, owns_below h.row hb, h.ok, h.len, h.bel.trans (hb.mono h.bel.size)⟩
theorem St.rowL {w wr : World} {g : Nat} {L : Tab} {Aq : Option Addr} {cq m : Nat} (h : St w g wr L Aq cq m) : wr.ownsRow 0 39 2 (.slice Aq L.length cq) L.length (flat L) := by rw [h.len]; exact h.row
/-- both have gone on: the document's list by a call that made new memory, the table by its own call -/
theorem St.step {w wr w2 w3 : World} {g : Nat} {L L' : Tab} {Aq A2 : Option Addr} {cq m c2 m2 : Nat} (h : St w g wr L Aq cq m) (hb : Below wr.heap.size wr w2) (hrow : w2.ownsRow 0 39 2 (.slice A2 m2 c2) m2 (flat L')) (ht : Tb w.heap.size w3 g L') (hk : Kt w.heap.size g w2 w3) (ho : Ok L') (hl : L'.length = m2) : St w g w3 L' A2 c2 m2 :=
  ⟨h.hg, ht, owns_kt hrow hk (h.tb.below hb) (by decide) (by decide), ho, hl, (h.bel.trans (hb.mono h.bel.size)).trans (hk.below (Nat.le_trans h.bel.size hb.size) h.hg)⟩
/-- a row of numbers is written -/
theorem St.spoil {w wr w' : World} {g : Nat} {L : Tab} {Aq : Option Addr} {cq m : Nat} (h : St w g wr L Aq cq m) {B n : Nat} {v : Value} {xs : List Value} (hr : wr.ownsRow B 3 1 v n xs) (hB : w.heap.size ≤ B) (hg : wr.grownBy w' v.ownBlock) : St w g w' L Aq cq m := by
  have ne : ∀ {k : Nat} {cur : Array Value} {t : TypeId}, wr.heap[k]? = some (.cells cur t (0, 0)) → t ≠ 3 → some k ≠ v.ownBlock := fun hk ht e => by
    obtain ⟨_, cur', hc⟩ := owns_at hr e.symm
    rw [hk] at hc
    injection hc with hc
    injection hc with _ hc _
    exact ht hc
  obtain ⟨A, c, ht⟩ := h.tb
  refine ⟨h.hg, ⟨A, c, ht.keep fun k hk hx => ?_⟩, owns_of h.row fun r he => ?_, h.ok, h.len, h.bel.grown hg h.bel.size (fun k hk => Nat.le_trans hB (owns_at hr hk).1)⟩
  · refine hg.block k hk ?_
    rcases hx with rfl | ⟨cur, hc⟩
    · exact ne ht.box (by decide)
    · exact ne hc (by decide)
  · obtain ⟨_, cur, hc⟩ := owns_at h.row he
    exact hg.block r (lt_of_block hc) (ne hc (by decide))
theorem free_le (l : Tab) (o : Int) : (freeL l o).length ≤ l.length := List.length_filter_le _ _
end Pt
namespace PortPlaysWalk
open Pt
theorem bounds_i64 {z : Int} (h : (Lit.int .i64 z).wf = true) : I64 z := by
  simp [Lit.wf, IntKind.min, IntKind.max, IntKind.signed, IntKind.bits] at h
  unfold I64
  omega

set_option maxRecDepth 100000 in
set_option maxHeartbeats 4000000 in
theorem walk (A : Option Addr) (c : Nat) (l : List Ac) (hlen : l.length ≤ 9223372036854775807) (ask most : Int) (w : World) (hA : Acts w A l) :
    Calls Try.prog 3 #[.slice A l.length c, .int .i64 ask, .int .i64 most] w fun e w' => e = .returned (.bool true) ∧ Below w.heap.size w w' := by
  have HA := Lib.hid hA
  have HLE := Lib.hid hlen
  obtain ⟨K, hK1, hK2, hK3⟩ : ∃ K, K ≤ l.length ∧ K ≤ 40 ∧ (K = l.length ∨ (K = 40 ∧ K < l.length)) := by
    by_cases h : l.length ≤ 40
    · exact ⟨l.length, by omega, h, .inl rfl⟩
    · exact ⟨40, by omega, by omega, .inr ⟨rfl, by omega⟩⟩
  have HK := Lib.hid hK3
  obtain ⟨i8, hi8, hz80, hz81, hz82⟩ := info_parts info_in
  clear hA hlen hK3
  have hlen' : (l.length : Int) ≤ 9223372036854775807 := by have := HLE.out; omega
  go_enter Try.func3, Try.ntmps3
  go_wp2_with (go_at_call 5; refine (new_any w).mono ?_; rintro e w1 ⟨rfl, ht, hb⟩; have HS0 := Lib.hid (show St w w.heap.size w1 [] none 0 0 from ⟨Nat.le_refl _, ht _ (Nat.le_refl _), World.ownsRow_nil _ _ _ _, Ok.nil, rfl, hb⟩); clear ht hb)
  obtain ⟨g, hg⟩ : ∃ g, w.heap.size = g := ⟨_, rfl⟩
  have HG := Lib.hid hg
  rw [show St w w.heap.size w1 [] none 0 0 = St w g w1 [] none 0 0 by rw [hg]] at HS0
  rw [hg]
  clear hg
  go_loopw [8, 9] (fun s i wr => ∃ (k : Nat) (Aq : Option Addr) (cq m : Nat) (L : Tab), k ≤ K ∧ s = .slice Aq m cq ∧ i = .int .i64 k ∧ m ≤ 800 ∧ Hid (m ≤ 20 * k) ∧ Hid (St w g wr L Aq cq m)) (fun _ i _ => K - (RowKit.intOf i).toNat)
  case atStart => exact ⟨0, none, 0, 0, [], Nat.zero_le _, rfl, rfl, Nat.zero_le _, Nat.zero_le _, HS0.out⟩
  case round =>
    obtain ⟨k, Aq, cq, m, L, hk, rfl, rfl, hm, HMK, HS⟩ := hrel
    have hm' : (m : Int) ≤ 800 := by omega
    by_cases hkK : k < K
    · obtain ⟨x, hx⟩ : ∃ x, l[k]? = some x := ⟨_, List.getElem?_eq_getElem (by omega)⟩
      obtain ⟨hin, a, rfl, ha, d0, d1, d2⟩ := (HA.out.below HS.out.bel) k x hx
      have hkl : (k : Int) < (l.length : Int) := by omega
      have hk40 : (k : Int) < 40 := by omega
      obtain ⟨u, hu⟩ : ∃ u, wr.alloc (.cells #[.int .i64 x.kind, .int .i64 x.own, .slice x.P x.ps.length x.c] 28) = u := ⟨_, rfl⟩
      have hBu : Below wr.heap.size wr u := by rw [← hu]; exact (Below.refl _ _).alloc (Nat.le_refl _) _
      have hbx : u.heap[wr.heap.size]? = some (.cells #[.int .i64 x.kind, .int .i64 x.own, .slice x.P x.ps.length x.c] 28 (0, 0)) := by rw [← hu]; exact heap_alloc_new wr _
      have HU := Lib.hid hu
      have HBX := Lib.hid hbx
      have HSU := Lib.hid (HS.out.below hBu)
      have HBU := Lib.hid hBu
      have HIN := Lib.hid hin
      have HNU := Lib.hid (nums_below hin.nums hBu)
      have hpl := hin.len
      have hpl' : (x.ps.length : Int) ≤ 9223372036854775807 := by omega
      clear hu hbx hBu hin hx
      by_cases hbig : 20 < x.ps.length
      · have hb' : (20 : Int) < (x.ps.length : Int) := by omega
        obtain ⟨n, hn⟩ : ∃ n, x.ps.length = n := ⟨_, rfl⟩
        rw [hn] at d2 hb' hpl' HU HBX
        clear hn
        go_wp2_with (go_at_call 6; rw [HU.out]; refine (works_any u).mono ?_; rintro e w9 ⟨rfl, hb9⟩; have HB9 := Lib.hid hb9; clear hb9)
        go_ret
        exact ⟨rfl, (HSU.out.below HB9.out).bel⟩
      · have hb' : (x.ps.length : Int) ≤ 20 := by omega
        have hbn : x.ps.length ≤ 20 := by omega
        by_cases hkind : x.kind = 0
        · have hk0 : (x.kind == 0) = true := by simpa using hkind
          clear hkind
          have hRT := reftake_any x.own x.ps x.P x.c u HSU.out.rowL HNU.out (by have := HSU.out.len; omega)
          have HNX := Lib.hid (show ∀ v, Below u.heap.size u v → _ from fun v hv => take_any x.own x.ps x.P x.c v (HSU.out.tb.below hv) HSU.out.ok HIN.out.own.2 (nums_below HNU.out hv) (by have := HSU.out.len; omega))
          have hlt : (takeL L x.own x.ps).length ≤ m + x.ps.length := by have := take_length (l := L) x.own x.ps; have := HSU.out.len; omega
          have HOK2 := Lib.hid (take_ok HSU.out.ok HIN.out.own.2 x.ps)
          generalize takeC L x.own x.ps = cd at hRT HNX
          generalize takeL L x.own x.ps = L' at hRT HNX hlt HOK2
          rw [HSU.out.len] at hRT
          obtain ⟨n, hn⟩ : ∃ n, x.ps.length = n := ⟨_, rfl⟩
          rw [hn] at d2 hb' hbn hpl' HU HBX hRT HNX hlt
          obtain ⟨m2, hm2⟩ : ∃ m2, L'.length = m2 := ⟨_, rfl⟩
          have HM2 := Lib.hid hm2
          rw [hm2] at hRT hlt
          have hm20 : (m2 : Int) ≤ 9223372036854775807 := by omega
          have hm21 : m2 ≤ 100000 := by omega
          have HLT := Lib.hid (show m2 ≤ m + 20 by omega)
          clear hn hm2 hlt hpl
          go_wp2_with (first
            | (go_at_call 7; rw [HU.out]; refine hRT.mono ?_; clear hRT; rintro e w2 ⟨A2, c2, rfl, hrow, hbb⟩; have e0 := (hbb.cell (p := ⟨wr.heap.size, 0, none⟩) (lt_of_block HBX.out)).trans (box_cell HBX.out 0 rfl); have e1 := (hbb.cell (p := ⟨wr.heap.size, 1, none⟩) (lt_of_block HBX.out)).trans (box_cell HBX.out 1 rfl); have e2 := (hbb.cell (p := ⟨wr.heap.size, 2, none⟩) (lt_of_block HBX.out)).trans (box_cell HBX.out 2 rfl); have hT := HNX.out w2 hbb; have HB2 := Lib.hid hbb; have HR2 := Lib.hid hrow; clear hbb hrow)
            | (go_at_call 8; refine hT.mono ?_; clear hT; rintro e w3 ⟨rfl, ht3, hk3⟩; have HS3 := Lib.hid (HSU.out.step HB2.out HR2.out ht3 hk3 HOK2.out HM2.out); clear ht3 hk3)
            | (go_at_call 11; refine (len_any w3 HS3.out.tb).mono ?_; rintro e w4 ⟨rfl, hw4⟩; obtain rfl := hw4.symm; clear hw4; rw [HM2.out])
            | (go_at_call 12; refine (owner_any ask w3 HS3.out.tb HS3.out.ok (by rw [HM2.out]; omega)).mono ?_; rintro e w5 ⟨rfl, hb5⟩; have HS5 := Lib.hid (HS3.out.below hb5); have hRO := refowner_any ask w5 HS5.out.rowL (by rw [HM2.out]; omega); rw [HM2.out] at hRO; clear hb5)
            | (go_at_call 13; refine hRO.mono ?_; clear hRO; rintro e w6 ⟨rfl, hw6⟩; obtain rfl := hw6.symm; clear hw6))
          go_roundw
          case rel => exact ⟨k + 1, A2, c2, m2, L', by omega, rfl, by simp, by have := HLT.out; have := HMK.out; omega, by have := HLT.out; have := HMK.out; unfold Hid; omega, HS5.out⟩
          case measure => simp [RowKit.intOf]; omega
        · have hk0 : (x.kind == 0) = false := by simpa using hkind
          clear hkind
          have hRT := reffree_any x.own u HSU.out.rowL (by have := HSU.out.len; omega)
          have HNX := Lib.hid (show ∀ v, Below u.heap.size u v → _ from fun v hv => free_any x.own v (HSU.out.tb.below hv) (by have := HSU.out.len; omega))
          have hlt : (freeL L x.own).length ≤ m := by have := free_le L x.own; have := HSU.out.len; omega
          have HOK2 := Lib.hid (free_ok HSU.out.ok x.own)
          generalize freeL L x.own = L' at hRT HNX hlt HOK2
          rw [HSU.out.len] at hRT
          have HNX2 := Lib.hid (show ∀ v, Below u.heap.size u v → _ from fun v hv => by have := HNX.out v hv; rw [HSU.out.len] at this; exact this)
          obtain ⟨n, hn⟩ : ∃ n, x.ps.length = n := ⟨_, rfl⟩
          rw [hn] at d2 hb' hbn hpl' HU HBX
          obtain ⟨m2, hm2⟩ : ∃ m2, L'.length = m2 := ⟨_, rfl⟩
          have HM2 := Lib.hid hm2
          rw [hm2] at hRT hlt HNX2
          have hm20 : (m2 : Int) ≤ 9223372036854775807 := by omega
          have hm21 : m2 ≤ 100000 := by omega
          have HLT := Lib.hid (show m2 ≤ m + 20 by omega)
          clear hn hm2 hlt hpl HNX
          go_wp2_with (first
            | (go_at_call 9; rw [HU.out]; refine hRT.mono ?_; clear hRT; rintro e w2 ⟨A2, c2, rfl, hrow, hbb⟩; have e0 := (hbb.cell (p := ⟨wr.heap.size, 0, none⟩) (lt_of_block HBX.out)).trans (box_cell HBX.out 0 rfl); have e1 := (hbb.cell (p := ⟨wr.heap.size, 1, none⟩) (lt_of_block HBX.out)).trans (box_cell HBX.out 1 rfl); have e2 := (hbb.cell (p := ⟨wr.heap.size, 2, none⟩) (lt_of_block HBX.out)).trans (box_cell HBX.out 2 rfl); have hT := HNX2.out w2 hbb; have HB2 := Lib.hid hbb; have HR2 := Lib.hid (owns_base hrow (Nat.zero_le _)); clear hbb hrow)
            | (go_at_call 10; refine hT.mono ?_; clear hT; rintro e w3 ⟨rfl, ht3, hk3⟩; have HS3 := Lib.hid (HSU.out.step HB2.out HR2.out ht3 hk3 HOK2.out HM2.out); clear ht3 hk3)
            | (go_at_call 11; refine (len_any w3 HS3.out.tb).mono ?_; rintro e w4 ⟨rfl, hw4⟩; obtain rfl := hw4.symm; clear hw4; rw [HM2.out])
            | (go_at_call 12; refine (owner_any ask w3 HS3.out.tb HS3.out.ok (by rw [HM2.out]; omega)).mono ?_; rintro e w5 ⟨rfl, hb5⟩; have HS5 := Lib.hid (HS3.out.below hb5); have hRO := refowner_any ask w5 HS5.out.rowL (by rw [HM2.out]; omega); rw [HM2.out] at hRO; clear hb5)
            | (go_at_call 13; refine hRO.mono ?_; clear hRO; rintro e w6 ⟨rfl, hw6⟩; obtain rfl := hw6.symm; clear hw6))
          go_roundw
          case rel => exact ⟨k + 1, A2, c2, m2, L', by omega, rfl, by simp, by have := HLT.out; have := HMK.out; omega, by have := HLT.out; have := HMK.out; unfold Hid; omega, HS5.out⟩
          case measure => simp [RowKit.intOf]; omega
    · have hkk : k = K := by omega
      rcases HK.out with h | ⟨h, h2⟩
      · have f1 : ¬ (k : Int) < (l.length : Int) := by omega
        clear h hkk hkK
        obtain ⟨wz, hwz⟩ : ∃ v, v = wr := ⟨_, rfl⟩
        subst hwz
        go_wp2
        go_loopw [15, 16] (fun s i wr => ∃ (j n : Nat) (A' : Option Addr) (c' : Nat), j ≤ m ∧ s = .slice A' n c' ∧ i = .int .i64 j ∧ n ≤ j ∧ Hid ((heldL (L.take j) ask).length = n) ∧ Hid (wr.ownsRow wz.heap.size 3 1 (.slice A' n c') n ((heldL (L.take j) ask).map (Value.int .i64))) ∧ Hid (Below wz.heap.size wz wr)) (fun _ i _ => m - (RowKit.intOf i).toNat)
        case atStart => exact ⟨0, 0, none, 0, Nat.zero_le _, rfl, rfl, Nat.le_refl _, rfl, World.ownsRow_nil _ _ _ _, Below.refl _ _⟩
        case round =>
          obtain ⟨j, n, A', c', hj, rfl, rfl, hnj, HNN, HO, HW⟩ := hrel
          have HSR := Lib.hid (HS.out.below HW.out)
          by_cases hjm : j < m
          · obtain ⟨y, hy⟩ : ∃ y, L[j]? = some y := ⟨_, List.getElem?_eq_getElem (by have := HS.out.len; omega)⟩
            obtain ⟨r, er, hr, k1, k2⟩ := row_at HSR.out.rowL hy
            have hjm' : (j : Int) < (m : Int) := by omega
            have HSN := Lib.hid (show heldL (L.take (j + 1)) ask = if y.2 = ask then heldL (L.take j) ask ++ [y.1] else heldL (L.take j) ask by rw [List.take_add_one, hy]; exact held_snoc _ _ _)
            have hBw := HW.out.size
            subst er
            clear hy
            by_cases hyo : y.2 = ask
            · have hyo' : (y.2 == ask) = true := by simpa using hyo
              have HS2 := Lib.hid (show heldL (L.take (j + 1)) ask = heldL (L.take j) ask ++ [y.1] by rw [HSN.out, if_pos hyo])
              clear hyo
              go_wp2_with (at_builtin; refine AppendAny.wpList_append_want (by simp [Region.wanted]) _ _ 26 rfl wz.heap.size 3 i8 (.int .i64 0) 1 8 Try.underlying26 hi8 hz80 hz81 hz82 rfl (by decide) (.slice A' n c') n _ rfl (HO.out.alloc _) (some ⟨wr.heap.size, 0, none⟩) 1 1 [.int .i64 y.1] rfl rfl ?q1 (by simp [Value.oneCell']) ?q2 ?q3 ?q4 ?_)
              case q1 =>
                refine .inr ⟨_, rfl, fun t v hv => ?_⟩
                have hb := heap_alloc_new wr (.cells #[.int .i64 y.1] 3)
                rw [at_off, Nat.zero_add]
                match t, hv with
                | 0, hv => simp at hv; rw [← hv]; exact box_cell hb 0 rfl
                | t + 1, hv => simp at hv
              case q2 => unfold maxLen; omega
              case q3 => omega
              case q4 => simp; omega
              intro v' w2 hown hgr
              obtain ⟨A2, c2, rfl⟩ := own_form hown
              have HO2 := Lib.hid (show w2.ownsRow wz.heap.size 3 1 (.slice A2 (n + 1) c2) (n + 1) ((heldL (L.take (j + 1)) ask).map (Value.int .i64)) by rw [HS2.out, List.map_append]; exact hown)
              have HW2 := Lib.hid (show Below wz.heap.size wz w2 from (HW.out.alloc hBw _).grown hgr (by simp; omega) (fun q hq => (owns_at HO.out hq).1))
              have HM2 := Lib.hid (show (heldL (L.take (j + 1)) ask).length = n + 1 by rw [HS2.out, List.length_append, HNN.out]; rfl)
              clear hown hgr
              go_wp2
              go_roundw
              case rel => exact ⟨j + 1, n + 1, A2, c2, by omega, rfl, by simp, by omega, HM2.out, HO2.out, HW2.out⟩
              case measure => simp [RowKit.intOf]; omega
            · have hyo' : (y.2 == ask) = false := by simpa using hyo
              have HS2 := Lib.hid (show heldL (L.take (j + 1)) ask = heldL (L.take j) ask by rw [HSN.out, if_neg hyo])
              clear hyo
              go_wp2
              go_roundw
              case rel => exact ⟨j + 1, n, A', c', by omega, rfl, by simp, by omega, by rw [HS2.out]; exact HNN.out, by rw [HS2.out]; exact HO.out, HW.out⟩
              case measure => simp [RowKit.intOf]; omega
          · have hjm' : ¬ (j : Int) < (m : Int) := by omega
            have HD := Lib.hid (show L.take j = L from List.take_of_length_le (by have := HS.out.len; omega))
            have HN2 := Lib.hid (show (heldL L ask).length = n by have := HNN.out; rw [HD.out] at this; exact this)
            have HO2 := Lib.hid (show wr.ownsRow wz.heap.size 3 1 (.slice A' n c') n ((heldL L ask).map (Value.int .i64)) by have := HO.out; rw [HD.out] at this; exact this)
            have hhe := (callsIn_wide (n := 5)).1 (held_in ask wr HSR.out.tb (by have := HSR.out.len; omega))
            rw [HN2.out] at hhe
            have hm100 : m ≤ 100000 := by omega
            have hn100 : n ≤ 100000 := by omega
            go_wp2_with (first
              | (go_at_call 14; refine hhe.mono ?_; clear hhe; rintro e w2 ⟨A2, c2, rfl, hrow, hbb⟩; have HR2 := Lib.hid hrow; have HS2 := Lib.hid (HSR.out.below hbb); have HO3 := Lib.hid (owns_below HO2.out hbb); have HB2 := Lib.hid hbb; clear hrow hbb)
              | (go_at_call 15; refine (sameInts_any (heldL L ask) n HN2.out hn100 w2 HR2.out HO3.out).mono ?_; rintro e w3 ⟨rfl, hbb⟩; have HR3 := Lib.hid (owns_below HR2.out hbb); have HS3 := Lib.hid (HS2.out.below hbb); clear hbb)
              | (go_at_call 16; refine (spoilInts_any hn100 w3 HR3.out).mono ?_; rintro e w4 ⟨rfl, hgr⟩; have HS4 := Lib.hid (HS3.out.spoil HR3.out HSR.out.bel.size hgr); clear hgr)
              | (go_at_call 17; refine (show Calls Try.prog 17 #[.pointer (some ⟨g, 0, none⟩), .slice Aq m cq, .int .i64 most] w4 _ by have := (callsIn_wide (n := 5)).1 (all_in most w4 HS4.out.tb HS4.out.rowL (by have := HS4.out.len; omega)); rw [HS4.out.len] at this; exact this).mono ?_; rintro e w5 ⟨rfl, hbb⟩; have HS5 := Lib.hid (HS4.out.below hbb); clear hbb)
              | (go_at_call 6; refine (works_any w5).mono ?_; rintro e w6 ⟨rfl, hbb⟩; have HS6 := Lib.hid (HS5.out.below hbb); clear hbb))
            go_ret
            exact ⟨rfl, HS6.out.bel⟩
      · have f1 : (k : Int) < (l.length : Int) := by omega
        have f2 : ¬ (k : Int) < 40 := by omega
        clear h h2 hkk hkK
        obtain ⟨wz, hwz⟩ : ∃ v, v = wr := ⟨_, rfl⟩
        subst hwz
        go_wp2
        go_loopw [15, 16] (fun s i wr => ∃ (j n : Nat) (A' : Option Addr) (c' : Nat), j ≤ m ∧ s = .slice A' n c' ∧ i = .int .i64 j ∧ n ≤ j ∧ Hid ((heldL (L.take j) ask).length = n) ∧ Hid (wr.ownsRow wz.heap.size 3 1 (.slice A' n c') n ((heldL (L.take j) ask).map (Value.int .i64))) ∧ Hid (Below wz.heap.size wz wr)) (fun _ i _ => m - (RowKit.intOf i).toNat)
        case atStart => exact ⟨0, 0, none, 0, Nat.zero_le _, rfl, rfl, Nat.le_refl _, rfl, World.ownsRow_nil _ _ _ _, Below.refl _ _⟩
        case round =>
          obtain ⟨j, n, A', c', hj, rfl, rfl, hnj, HNN, HO, HW⟩ := hrel
          have HSR := Lib.hid (HS.out.below HW.out)
          by_cases hjm : j < m
          · obtain ⟨y, hy⟩ : ∃ y, L[j]? = some y := ⟨_, List.getElem?_eq_getElem (by have := HS.out.len; omega)⟩
            obtain ⟨r, er, hr, k1, k2⟩ := row_at HSR.out.rowL hy
            have hjm' : (j : Int) < (m : Int) := by omega
            have HSN := Lib.hid (show heldL (L.take (j + 1)) ask = if y.2 = ask then heldL (L.take j) ask ++ [y.1] else heldL (L.take j) ask by rw [List.take_add_one, hy]; exact held_snoc _ _ _)
            have hBw := HW.out.size
            subst er
            clear hy
            by_cases hyo : y.2 = ask
            · have hyo' : (y.2 == ask) = true := by simpa using hyo
              have HS2 := Lib.hid (show heldL (L.take (j + 1)) ask = heldL (L.take j) ask ++ [y.1] by rw [HSN.out, if_pos hyo])
              clear hyo
              go_wp2_with (at_builtin; refine AppendAny.wpList_append_want (by simp [Region.wanted]) _ _ 26 rfl wz.heap.size 3 i8 (.int .i64 0) 1 8 Try.underlying26 hi8 hz80 hz81 hz82 rfl (by decide) (.slice A' n c') n _ rfl (HO.out.alloc _) (some ⟨wr.heap.size, 0, none⟩) 1 1 [.int .i64 y.1] rfl rfl ?q1 (by simp [Value.oneCell']) ?q2 ?q3 ?q4 ?_)
              case q1 =>
                refine .inr ⟨_, rfl, fun t v hv => ?_⟩
                have hb := heap_alloc_new wr (.cells #[.int .i64 y.1] 3)
                rw [at_off, Nat.zero_add]
                match t, hv with
                | 0, hv => simp at hv; rw [← hv]; exact box_cell hb 0 rfl
                | t + 1, hv => simp at hv
              case q2 => unfold maxLen; omega
              case q3 => omega
              case q4 => simp; omega
              intro v' w2 hown hgr
              obtain ⟨A2, c2, rfl⟩ := own_form hown
              have HO2 := Lib.hid (show w2.ownsRow wz.heap.size 3 1 (.slice A2 (n + 1) c2) (n + 1) ((heldL (L.take (j + 1)) ask).map (Value.int .i64)) by rw [HS2.out, List.map_append]; exact hown)
              have HW2 := Lib.hid (show Below wz.heap.size wz w2 from (HW.out.alloc hBw _).grown hgr (by simp; omega) (fun q hq => (owns_at HO.out hq).1))
              have HM2 := Lib.hid (show (heldL (L.take (j + 1)) ask).length = n + 1 by rw [HS2.out, List.length_append, HNN.out]; rfl)
              clear hown hgr
              go_wp2
              go_roundw
              case rel => exact ⟨j + 1, n + 1, A2, c2, by omega, rfl, by simp, by omega, HM2.out, HO2.out, HW2.out⟩
              case measure => simp [RowKit.intOf]; omega
            · have hyo' : (y.2 == ask) = false := by simpa using hyo
              have HS2 := Lib.hid (show heldL (L.take (j + 1)) ask = heldL (L.take j) ask by rw [HSN.out, if_neg hyo])
              clear hyo
              go_wp2
              go_roundw
              case rel => exact ⟨j + 1, n, A', c', by omega, rfl, by simp, by omega, by rw [HS2.out]; exact HNN.out, by rw [HS2.out]; exact HO.out, HW.out⟩
              case measure => simp [RowKit.intOf]; omega
          · have hjm' : ¬ (j : Int) < (m : Int) := by omega
            have HD := Lib.hid (show L.take j = L from List.take_of_length_le (by have := HS.out.len; omega))
            have HN2 := Lib.hid (show (heldL L ask).length = n by have := HNN.out; rw [HD.out] at this; exact this)
            have HO2 := Lib.hid (show wr.ownsRow wz.heap.size 3 1 (.slice A' n c') n ((heldL L ask).map (Value.int .i64)) by have := HO.out; rw [HD.out] at this; exact this)
            have hhe := (callsIn_wide (n := 5)).1 (held_in ask wr HSR.out.tb (by have := HSR.out.len; omega))
            rw [HN2.out] at hhe
            have hm100 : m ≤ 100000 := by omega
            have hn100 : n ≤ 100000 := by omega
            go_wp2_with (first
              | (go_at_call 14; refine hhe.mono ?_; clear hhe; rintro e w2 ⟨A2, c2, rfl, hrow, hbb⟩; have HR2 := Lib.hid hrow; have HS2 := Lib.hid (HSR.out.below hbb); have HO3 := Lib.hid (owns_below HO2.out hbb); have HB2 := Lib.hid hbb; clear hrow hbb)
              | (go_at_call 15; refine (sameInts_any (heldL L ask) n HN2.out hn100 w2 HR2.out HO3.out).mono ?_; rintro e w3 ⟨rfl, hbb⟩; have HR3 := Lib.hid (owns_below HR2.out hbb); have HS3 := Lib.hid (HS2.out.below hbb); clear hbb)
              | (go_at_call 16; refine (spoilInts_any hn100 w3 HR3.out).mono ?_; rintro e w4 ⟨rfl, hgr⟩; have HS4 := Lib.hid (HS3.out.spoil HR3.out HSR.out.bel.size hgr); clear hgr)
              | (go_at_call 17; refine (show Calls Try.prog 17 #[.pointer (some ⟨g, 0, none⟩), .slice Aq m cq, .int .i64 most] w4 _ by have := (callsIn_wide (n := 5)).1 (all_in most w4 HS4.out.tb HS4.out.rowL (by have := HS4.out.len; omega)); rw [HS4.out.len] at this; exact this).mono ?_; rintro e w5 ⟨rfl, hbb⟩; have HS5 := Lib.hid (HS4.out.below hbb); clear hbb)
              | (go_at_call 6; refine (works_any w5).mono ?_; rintro e w6 ⟨rfl, hbb⟩; have HS6 := Lib.hid (HS5.out.below hbb); clear hbb))
            go_ret
            exact ⟨rfl, HS6.out.bel⟩
end PortPlaysWalk
end Go.Proofs.Ytgnfpcacpcnanaa
