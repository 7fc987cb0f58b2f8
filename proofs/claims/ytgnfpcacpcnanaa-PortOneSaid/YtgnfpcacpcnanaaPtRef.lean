/-
  The document's answers for tables of ports: who owns a port, ports taken, ports freed, on lists. All that was there is left as it was. Conditions: the list lies in a row, the ports in memory, there are not too many.
-/
import Derived.Test.YtgnfpcacpcnanaaPtTake
import Derived.BigQuiet
import Derived.Deep.QuietTactic
import Derived.Deep.RegionLaw
set_option linter.unusedVariables false
set_option linter.unusedSimpArgs false
namespace Go.Proofs.Ytgnfpcacpcnanaa
open Go.ChangeShapes Go.WideShapes Go.ChangeAt Go.RowKit Go.Lib
open Lists
namespace Pt

theorem info_hd : (Try.prog.info? 39).map (fun i => (i.zero, i.size, i.bytes)) = some (some (.agg #[.int .i64 0, .int .i64 0]), 2, 16) := by kernel_rfl
theorem lo_run (p : Int) : ∀ (l : Tab) (j : Nat), j ≤ l.length → (∀ t x, t < j → l[t]? = some x → x.1 < p) → (∀ x, l[j]? = some x → p ≤ x.1) → lo p l = j
  | [], j, hj, _, _ => by simp at hj; subst hj; rfl
  | x :: l, 0, _, _, h2 => by
    have := h2 x rfl
    unfold lo
    rw [if_neg (by omega)]
  | x :: l, j + 1, hj, h1, h2 => by
    have := h1 0 x (by omega) rfl
    unfold lo
    rw [if_pos this, lo_run p l j (by simpa using hj) (fun t y ht hy => h1 (t + 1) y (by omega) (by simpa using hy)) (fun y hy => h2 y (by simpa using hy))]
theorem src_own {w : World} {base : Nat} {e : TypeId} {A : Option Addr} {n pc : Nat} {xs : List Value} (h : w.ownsRow base e 2 (.slice A n pc) n xs) : (A = none ∧ n = 0 ∧ pc = 0) ∨ ∃ ad, A = some ad ∧ ∀ i u, xs[i]? = some u → w.cell? (ad.add i) = some u := by
  rcases own_addr h with h0 | ⟨r, rfl, _, _⟩
  · exact .inl h0
  · refine .inr ⟨_, rfl, fun i u hu => ?_⟩
    have hl := (List.getElem?_eq_some_iff.1 hu).1
    rw [at_off, Nat.zero_add, h.cellAt i (by have := h.1; omega), hu]
theorem src_take {w : World} {base : Nat} {e : TypeId} {A : Option Addr} {n pc j : Nat} {l : Tab} (h : w.ownsRow base e 2 (.slice A n pc) n (flat l)) (hj : j ≤ n) : (A = none ∧ j = 0 ∧ pc = 0) ∨ ∃ ad, A = some ad ∧ ∀ i u, (flat (l.take j))[i]? = some u → w.cell? (ad.add i) = some u := by
  rcases src_own h with ⟨e1, h0, h1⟩ | ⟨ad, e1, hc⟩
  · exact .inl ⟨e1, by omega, h1⟩
  · refine .inr ⟨ad, e1, fun i u hu => hc i u ?_⟩
    have hi := (List.getElem?_eq_some_iff.1 hu).1
    rw [← flat_take] at hu hi
    rw [List.length_take] at hi
    rwa [List.getElem?_take_of_lt (by omega)] at hu
theorem src_drop {w : World} {base : Nat} {e : TypeId} {A : Option Addr} {n pc j : Nat} {l : Tab} (h : w.ownsRow base e 2 (.slice A n pc) n (flat l)) (hj : j ≤ n) : ∃ SA, (if pc = j then A else A.map (·.add (j * 2))) = SA ∧ ((SA = none ∧ n - j = 0 ∧ pc - j = 0) ∨ ∃ ad, SA = some ad ∧ ∀ i u, (flat (l.drop j))[i]? = some u → w.cell? (ad.add i) = some u) := by
  refine ⟨_, rfl, ?_⟩
  have hll : l.length = n := by have := h.1; rw [flat_length] at this; omega
  have hcap := (own_cap h).1
  rcases own_addr h with ⟨rfl, h0, h1⟩ | ⟨g, rfl, _, _⟩
  · exact .inl ⟨by split <;> rfl, by omega, by omega⟩
  · right
    by_cases hp : pc = j
    · rw [if_pos hp]
      refine ⟨_, rfl, fun i u hu => ?_⟩
      rw [List.drop_eq_nil_of_le (by omega)] at hu
      simp [flat] at hu
    · rw [if_neg hp]
      refine ⟨_, rfl, fun i u hu => ?_⟩
      have hi := (List.getElem?_eq_some_iff.1 hu).1
      rw [flat_length, List.length_drop] at hi
      show w.cell? (((⟨g, 0, none⟩ : Addr).add (j * 2)).add i) = some u
      rw [at_off, at_off, Nat.zero_add, h.cellAt (j * 2 + i) (by omega), ← hu, ← flat_drop, List.getElem?_drop]
set_option maxRecDepth 100000 in
theorem refowner_any {B : Nat} {l : Tab} {A : Option Addr} {c : Nat} (p : Int) (w : World) (h : w.ownsRow B 39 2 (.slice A l.length c) l.length (flat l)) (hn : l.length ≤ 100000) :
    Calls Try.prog 13 #[.slice A l.length c, .int .i64 p] w fun e w' => e = .returned (.int .i64 (ownerL l p)) ∧ w' = w := by
  have H := Lib.hid h
  obtain ⟨R, hR⟩ : ∃ R, ownerL l p = R := ⟨_, rfl⟩
  obtain ⟨n, hln⟩ : ∃ n, l.length = n := ⟨_, rfl⟩
  have HLN := Lib.hid hln
  rw [hln] at hn
  rw [hR, hln]
  have HR := Lib.hid hR
  clear h hR hln
  have hn' : (n : Int) ≤ 100000 := by omega
  go_enter Try.func13, Try.ntmps13
  go_wp2
  go_loopw [5] (fun i wr => ∃ k : Nat, k ≤ n ∧ i = .int .i64 k ∧ wr = w ∧ Hid (R = ownerL (l.drop k) p)) (fun i _ => n - (RowKit.intOf i).toNat)
  case atStart => exact ⟨0, Nat.zero_le _, rfl, by trivial, by unfold Hid; rw [← HR.out, List.drop_zero]⟩
  case round =>
    obtain ⟨k, hk, rfl, rfl, HK⟩ := hrel
    by_cases hkn : k < n
    · obtain ⟨y, hy⟩ : ∃ y, l[k]? = some y := ⟨_, List.getElem?_eq_getElem (by have := HLN.out; omega)⟩
      obtain ⟨r, rfl, hr, k1, k2⟩ := row_at H.out hy
      have hd : l.drop k = y :: l.drop (k + 1) := by
        rw [List.drop_eq_getElem_cons (by have := HLN.out; omega), (List.getElem?_eq_some_iff.1 hy).2]
      have hkn' : (k : Int) < (n : Int) := by omega
      clear hy
      by_cases hyo : y.1 = p
      · have hyo' : (y.1 == p) = true := by simpa using hyo
        have HK2 := Lib.hid (show R = y.2 by rw [HK.out, hd]; unfold ownerL; rw [if_pos hyo])
        clear hyo hd
        go_wp2
        go_ret
        exact ⟨by rw [HK2.out]; rfl, rfl⟩
      · have hyo' : (y.1 == p) = false := by simpa using hyo
        have HK2 := Lib.hid (show R = ownerL (l.drop (k + 1)) p by rw [HK.out, hd]; conv => lhs; unfold ownerL; rw [if_neg hyo])
        clear hyo hd
        go_wp2
        go_roundw
        case rel => exact ⟨k + 1, by omega, by simp, by trivial, HK2.out⟩
        case measure => simp [RowKit.intOf]; omega
    · have hkn' : ¬ (k : Int) < (n : Int) := by omega
      have HK2 := Lib.hid (show R = 0 by rw [HK.out, List.drop_eq_nil_of_le (by have := HLN.out; omega)]; rfl)
      go_wp2
      go_ret
      exact ⟨by rw [HK2.out]; rfl, rfl⟩
set_option maxRecDepth 100000 in
set_option maxHeartbeats 1000000 in
theorem reffree_any {B : Nat} {l : Tab} {A : Option Addr} {c : Nat} (o : Int) (w : World) (h : w.ownsRow B 39 2 (.slice A l.length c) l.length (flat l)) (hn : l.length ≤ 100000) :
    Calls Try.prog 9 #[.slice A l.length c, .int .i64 o] w fun e w' => ∃ A' c', e = .returned (.tuple #[.slice A' (freeL l o).length c', .int .i64 ((l.length : Int) - ((freeL l o).length : Int))]) ∧ w'.ownsRow w.heap.size 39 2 (.slice A' (freeL l o).length c') (freeL l o).length (flat (freeL l o)) ∧ Below w.heap.size w w' := by
  obtain ⟨i0, hi, hz0, hz1, hz2⟩ := info_parts info_hd
  have H := Lib.hid h
  obtain ⟨n, hln⟩ : ∃ n, l.length = n := ⟨_, rfl⟩
  have HLN := Lib.hid hln
  rw [hln] at hn ⊢
  clear h hln
  have hn' : (n : Int) ≤ 100000 := by omega
  go_enter Try.func9, Try.ntmps9
  rw [show (Value.slice A n c) = Value.slice A n c from rfl]
  go_wp2
  go_loopw [6, 7] (fun s i wr => ∃ (k m : Nat) (A' : Option Addr) (c' : Nat), k ≤ n ∧ i = .int .i64 k ∧ s = .slice A' m c' ∧ m ≤ k ∧ Hid ((freeL (l.take k) o).length = m) ∧ Hid (wr.ownsRow w.heap.size 39 2 (.slice A' m c') m (flat (freeL (l.take k) o))) ∧ Hid (Below w.heap.size w wr)) (fun _ i _ => n - (RowKit.intOf i).toNat)
  case atStart => exact ⟨0, 0, none, 0, Nat.zero_le _, rfl, rfl, Nat.le_refl _, rfl, World.ownsRow_nil _ _ _ _, Below.refl _ _⟩
  case round =>
    obtain ⟨k, m, A', c', hk, rfl, rfl, hmk, HM, HO, HW⟩ := hrel
    by_cases hkn : k < n
    · obtain ⟨y, hy⟩ : ∃ y, l[k]? = some y := ⟨_, List.getElem?_eq_getElem (by have := HLN.out; omega)⟩
      have hrr : wr.ownsRow B 39 2 (.slice A l.length c) l.length (flat l) := by rw [HLN.out]; have := H.out; rw [HLN.out] at this; exact owns_below this HW.out
      obtain ⟨r, rfl, hr, k1, k2⟩ := row_at hrr hy
      have HS := Lib.hid (free_step hy o)
      have hkn' : (k : Int) < (n : Int) := by omega
      have hBw := HW.out.size
      clear hy hrr
      by_cases hyo : y.2 = o
      · have hyo' : (y.2 != o) = false := by simpa using hyo
        have HS2 := Lib.hid (show freeL (l.take (k + 1)) o = freeL (l.take k) o by rw [HS.out, if_pos hyo])
        clear hyo
        go_wp2
        go_roundw
        case rel => exact ⟨k + 1, m, A', c', by omega, by simp, rfl, by omega, by rw [HS2.out]; exact HM.out, by rw [HS2.out]; exact HO.out, HW.out⟩
        case measure => simp [RowKit.intOf]; omega
      · have hyo' : (y.2 != o) = true := by simpa using hyo
        have HS2 := Lib.hid (show freeL (l.take (k + 1)) o = freeL (l.take k) o ++ [y] by rw [HS.out, if_neg hyo])
        clear hyo
        go_wp2_with (at_builtin; refine AppendAny.wpList_append_want (by simp [Region.wanted]) _ _ 25 rfl w.heap.size 39 i0 (.agg #[.int .i64 0, .int .i64 0]) 2 16 Try.underlying25 hi hz0 hz1 hz2 rfl (by decide) (.slice A' m c') m _ rfl (HO.out.alloc _) (some ⟨wr.heap.size, 0, none⟩) 1 1 (cells2 y) rfl rfl ?q1 (cells2_one y) ?q2 ?q3 ?q4 ?_)
        case q1 =>
          refine .inr ⟨_, rfl, fun j u hu => ?_⟩
          have hb := heap_alloc_new wr (.cells #[.int .i64 y.1, .int .i64 y.2] 39)
          rw [at_off, Nat.zero_add]
          match j, hu with
          | 0, hu => simp [cells2] at hu; rw [← hu]; exact box_cell hb 0 rfl
          | 1, hu => simp [cells2] at hu; rw [← hu]; exact box_cell hb 1 rfl
          | j + 2, hu => simp [cells2] at hu
        case q2 => unfold maxLen; omega
        case q3 => omega
        case q4 => simp; omega
        intro v' w2 hown hgr
        obtain ⟨A2, c2, rfl⟩ := own_form hown
        have HO2 := Lib.hid (show w2.ownsRow w.heap.size 39 2 (.slice A2 (m + 1) c2) (m + 1) (flat (freeL (l.take (k + 1)) o)) by rw [HS2.out, flat_cat]; exact hown)
        have HW2 := Lib.hid (show Below w.heap.size w w2 from (HW.out.alloc hBw _).grown hgr (by simp; omega) (fun q hq => (owns_at HO.out hq).1))
        have HM2 := Lib.hid (show (freeL (l.take (k + 1)) o).length = m + 1 by rw [HS2.out, List.length_append, HM.out]; rfl)
        clear hown hgr
        go_wp2
        go_roundw
        case rel => exact ⟨k + 1, m + 1, A2, c2, by omega, by simp, rfl, by omega, HM2.out, HO2.out, HW2.out⟩
        case measure => simp [RowKit.intOf]; omega
    · have hkn' : ¬ (k : Int) < (n : Int) := by omega
      have HD := Lib.hid (show l.take k = l from List.take_of_length_le (by have := HLN.out; omega))
      have hmn : (m : Int) ≤ (n : Int) := by omega
      go_wp2
      go_ret2
      have hm := HM.out
      have ho := HO.out
      rw [HD.out] at hm ho
      rw [hm]
      exact ⟨A', c', rfl, ho, HW.out⟩
set_option maxRecDepth 100000 in
set_option maxHeartbeats 4000000 in
theorem reftake_fine {B : Nat} {l : Tab} {A : Option Addr} {c : Nat} (o : Int) (ps : List Int) (P : Option Addr) (pc : Nat) (w : World) (h : w.ownsRow B 39 2 (.slice A l.length c) l.length (flat l)) (hA : Nums .i64 w P ps) (hlen : l.length + ps.length ≤ 100000) (hf : fineB o ps = true) :
    Calls Try.prog 7 #[.slice A l.length c, .int .i64 o, .slice P ps.length pc] w fun e w' => ∃ A' c', e = .returned (.tuple #[.slice A' (takeL l o ps).length c', .int .i64 (takeC l o ps : Int)]) ∧ w'.ownsRow 0 39 2 (.slice A' (takeL l o ps).length c') (takeL l o ps).length (flat (takeL l o ps)) ∧ Below w.heap.size w w' := by
  obtain ⟨i0, hi, hz0, hz1, hz2⟩ := info_parts info_hd
  have H := Lib.hid h
  have HA := Lib.hid hA
  have ho1 : 1 ≤ o := by unfold fineB at hf; simp only [Bool.and_eq_true, decide_eq_true_eq] at hf; exact hf.1
  have HALL := Lib.hid (show ps.all inR = true by unfold fineB at hf; simp only [Bool.and_eq_true] at hf; exact hf.2)
  have HNONE := Lib.hid (show refL o ps l = none → takeC l o ps = 150 ∧ takeL l o ps = l from fun h => by unfold takeC takeL; rw [if_pos hf, if_pos hf, h]; exact ⟨rfl, rfl⟩)
  have HSOME := Lib.hid (show ∀ r, refL o ps l = some r → takeC l o ps = 0 ∧ takeL l o ps = r from fun r h => by unfold takeC takeL; rw [if_pos hf, if_pos hf, h]; exact ⟨rfl, rfl⟩)
  obtain ⟨ln, hll⟩ : ∃ ln, l.length = ln := ⟨_, rfl⟩
  obtain ⟨n, hln⟩ : ∃ n, ps.length = n := ⟨_, rfl⟩
  have HLN := Lib.hid hln
  have HLL := Lib.hid hll
  rw [hll] at hlen H
  rw [hll]
  rw [hln] at hlen ⊢
  clear h hA hll hln hf
  have hlen1 : (n : Int) ≤ 100000 := by omega
  have hlen2 : (ln : Int) ≤ 100000 := by omega
  have hlt1 : decide (o < 1) = false := decide_eq_false (by omega)
  have hge1 : ¬ o < 1 := by omega
  go_enter Try.func7, Try.ntmps7
  go_wp2
  go_loopw [8] (fun i wr => ∃ k : Nat, k ≤ n ∧ i = .int .i64 k ∧ wr = w) (fun i _ => n - (RowKit.intOf i).toNat)
  case atStart => exact ⟨0, Nat.zero_le _, rfl, by trivial⟩
  case round =>
    obtain ⟨k, hk, rfl, rfl⟩ := hrel
    by_cases hkn : k < n
    · obtain ⟨p, hp⟩ : ∃ p, ps[k]? = some p := ⟨_, List.getElem?_eq_getElem (by have := HLN.out; omega)⟩
      obtain ⟨_, a, rfl, ha, k1⟩ := HA.out k p hp
      have hin : 1 ≤ p ∧ p ≤ 65535 := of_decide_eq_true ((List.all_eq_true.1 HALL.out) p (List.mem_of_getElem? hp))
      have hkn' : (k : Int) < (n : Int) := by omega
      have hd1 : decide (p < 1) = false := decide_eq_false (by omega)
      have hd2 : decide (65535 < p) = false := decide_eq_false (by omega)
      clear hin hp
      go_wp2
      go_roundw
      case rel => exact ⟨k + 1, by omega, by simp, by trivial⟩
      case measure => simp [RowKit.intOf]; omega
    · have hkn' : ¬ (k : Int) < (n : Int) := by omega
      obtain ⟨ws, hws⟩ : ∃ v, v = wr := ⟨_, rfl⟩
      subst hws
      go_wp2
      go_loopw [9, 10] (fun s i wq => ∃ (k m : Nat) (A' : Option Addr) (c' : Nat) (out : Tab), k ≤ n ∧ i = .int .i64 k ∧ s = .slice A' m c' ∧ Hid (m = ln + k) ∧ Hid (out.length = m) ∧ Hid (refL o ps l = refL o (ps.drop k) out) ∧ Hid (wq.ownsRow 0 39 2 (.slice A' m c') m (flat out)) ∧ Hid (Below ws.heap.size ws wq)) (fun _ i _ => n - (RowKit.intOf i).toNat)
      case atStart => exact ⟨0, ln, A, c, l, Nat.zero_le _, rfl, rfl, rfl, HLL.out, rfl, owns_base H.out (Nat.zero_le _), Below.refl _ _⟩
      case round =>
        obtain ⟨k, m, A', c', out, hk, rfl, rfl, HMK, HN, HREF, HO, HW⟩ := hrel
        have hm1 : m ≤ 100000 := by have := HMK.out; omega
        have hm2 : (m : Int) ≤ 100000 := by omega
        by_cases hkn2 : k < n
        · obtain ⟨p, hp⟩ : ∃ p, ps[k]? = some p := ⟨_, List.getElem?_eq_getElem (by have := HLN.out; omega)⟩
          obtain ⟨_, a, rfl, ha, k1⟩ := (nums_below HA.out HW.out) k p hp
          have hd : ps.drop k = p :: ps.drop (k + 1) := by
            rw [List.drop_eq_getElem_cons (by have := HLN.out; omega), (List.getElem?_eq_some_iff.1 hp).2]
          have how := refowner_any p wr (l := out) (A := A') (c := c') (by have := HO.out; rw [← HN.out] at this; exact this) (by have := HN.out; omega)
          rw [HN.out] at how
          have hkn3 : (k : Int) < (n : Int) := by omega
          obtain ⟨z, hz⟩ : ∃ z, ownerL out p = z := ⟨_, rfl⟩
          rw [hz] at how
          by_cases hz0 : z = 0
          · have HREF2 := Lib.hid (show refL o ps l = refL o (ps.drop (k + 1)) (insL o p out) by rw [HREF.out, hd]; conv => lhs; unfold refL; rw [if_pos (hz.trans hz0)])
            subst hz0
            have HP := Lib.hid hp
            clear hz hd hp
            obtain ⟨wo, hwo⟩ : ∃ v, v = wr := ⟨_, rfl⟩
            subst hwo
            go_wp2_with (go_at_call 13; refine how.mono ?_; clear how; rintro e w2 ⟨rfl, hw0⟩; obtain rfl := hw0.symm; clear hw0)
            go_loopw [11] (fun jv wi => ∃ j : Nat, j ≤ m ∧ jv = .int .i64 j ∧ Hid (∀ t x, t < j → out[t]? = some x → x.1 < p) ∧ Hid (Below wo.heap.size wo wi)) (fun jv _ => m - (RowKit.intOf jv).toNat)
            case atStart => exact ⟨0, Nat.zero_le _, rfl, (fun t x ht => absurd ht (Nat.not_lt_zero _) : ∀ t x, t < 0 → out[t]? = some x → x.1 < p), Below.refl _ _⟩
            case round =>
              obtain ⟨j, hj, rfl, HJ, BI⟩ := hrel
              obtain ⟨wi, hwi⟩ : ∃ v, v = wr := ⟨_, rfl⟩
              subst hwi
              have HOI := Lib.hid (owns_below HO.out BI.out)
              have k1' := (BI.out.cell (by rw [add_block]; exact ha)).trans k1
              by_cases hjm : j < m
              · obtain ⟨x, hx⟩ : ∃ x, out[j]? = some x := ⟨_, List.getElem?_eq_getElem (by have := HN.out; omega)⟩
                obtain ⟨r, rfl, hr, d1, d2⟩ := row_at (l := out) (A := A') (c := c') (by have := HOI.out; rw [← HN.out] at this; exact this) hx
                have hji : (j : Int) < (m : Int) := by omega
                have hj0 : (0 : Int) ≤ (j : Int) := by omega
                have HX := Lib.hid hx
                clear hx d2
                by_cases hle : x.1 < p
                · have HJ2 := Lib.hid (show ∀ t y, t < j + 1 → out[t]? = some y → y.1 < p from fun t y ht hy => by
                    rcases Nat.lt_or_ge t j with h1 | h1
                    · exact HJ.out t y h1 hy
                    · rw [show t = j by omega, HX.out] at hy
                      injection hy with hy; subst hy; exact hle)
                  go_wp2_with fail
                  go_quiet (fail)
                  go_wp2
                  go_roundw
                  case rel => exact ⟨j + 1, by omega, by simp, HJ2.out, BI.out.trans ((Kit.below_drewN _ _ _).mono BI.out.size)⟩
                  case measure => simp [RowKit.intOf]; omega
                · have HI := Lib.hid (show insL o p out = out.take j ++ (p, o) :: out.drop j by
                    unfold insL
                    rw [lo_run p out j (by have := HN.out; omega) HJ.out (fun y hy => by rw [HX.out] at hy; injection hy with hy; subst hy; omega)])
                  have hle' : decide (x.1 < p) = false := decide_eq_false hle
                  go_wp2_with fail
                  go_quiet (fail)
                  clear d1 hle HJ HX
                  obtain ⟨PA, hPA⟩ : ∃ PA, some (⟨r, 0, none⟩ : Addr) = PA := ⟨_, rfl⟩
                  rw [hPA] at HO HOI ⊢
                  clear hPA
                  obtain ⟨wz, hwz⟩ : ∃ v, wi.drewN nq = v := ⟨_, rfl⟩
                  have BZ := Lib.hid (show Below wo.heap.size wo wz by rw [← hwz]; exact BI.out.trans ((Kit.below_drewN _ _ _).mono BI.out.size))
                  rw [hwz]
                  clear hwz
                  have BWZ := Lib.hid (HW.out.trans (BZ.out.mono HW.out.size))
                  have HOZ := Lib.hid (owns_below HO.out BZ.out)
                  have c0 := (BZ.out.cell (by rw [add_block]; exact ha)).trans k1
                  clear k1' HOI
                  have hbz : Below wz.heap.size wz (wz.drew.alloc (.cells #[.int .i64 p, .int .i64 o] 39)) := (Kit.below_drewN wz.heap.size wz 1).alloc (Nat.le_refl _) _
                  obtain ⟨SA, hsa, hsrc⟩ := src_drop (j := j) (owns_below HOZ.out hbz) (by omega)
                  have HSRC := Lib.hid hsrc
                  have HLD := Lib.hid (show (flat (out.drop j)).length = (m - j) * 2 by rw [flat_length, List.length_drop, HN.out])
                  have HSM := Lib.hid (fun (v : World) hv => src_take (w := v) (base := 0) (e := 39) (A := PA) (n := m) (pc := c') (l := out) (j := j) hv (by omega))
                  have hjc : j ≤ c' := by have := (own_cap HOZ.out).1; omega
                  have hi1 : (j : Int) ≤ (m : Int) := by omega
                  have hi2 : (j : Int) ≤ (c' : Int) := by omega
                  have hi3 : (0 : Int) ≤ (j : Int) := by omega
                  clear hbz hsrc
                  go_wp2_with fail
                  go_region_law (refine AppendAny.step_append_any rfl _ _ 25 rfl wz.heap.size 39 i0 (.agg #[.int .i64 0, .int .i64 0]) 2 16 Try.underlying25 hi hz0 hz1 hz2 rfl (by decide) (.slice (some ⟨wz.heap.size, 0, none⟩) 1 1) 1 [.int .i64 p, .int .i64 o] rfl (World.ownsRow_lit (base := wz.heap.size) (size := 2) (e := 39) wz.drew ([.int .i64 p, .int .i64 o] : List Value).toArray 1 (Nat.le_refl _) (by decide) rfl) SA (m - j) (c' - j) (flat (out.drop j)) rfl HLD.out HSRC.out (flat_one _) (by unfold maxLen; omega) (by omega) (by simp) ?_; intro A1 c1' w1 hown1 hgrow)
                  all_goals
                    have B1 := Lib.hid (show Below wz.heap.size wz w1 from ((Kit.below_drewN wz.heap.size wz 1).alloc (Nat.le_refl _) _).grown hgrow (by simp) (fun q hq => by have e : some wz.heap.size = some q := hq; injection e with e; omega))
                    have HO1 := Lib.hid (show w1.ownsRow wz.heap.size 39 2 (.slice A1 (1 + (m - j)) c1') (1 + (m - j)) (flat ((p, o) :: out.drop j)) from hown1)
                    have HOW := Lib.hid (owns_below HOZ.out B1.out)
                    clear hown1 hgrow c0 hsa
                    have hb1 : Below w1.heap.size w1 (w1.alloc (.cells #[] 39)) := (Below.refl _ _).alloc (Nat.le_refl _) _
                    have HST := Lib.hid (HSM.out _ (owns_below HOW.out hb1))
                    have HLT := Lib.hid (show (flat (out.take j)).length = j * 2 by rw [flat_length, List.length_take, HN.out]; omega)
                    clear hb1
                    go_wp2_with (at_builtin; refine AppendAny.wpList_append_want (by simp [Region.wanted]) _ _ 25 rfl w1.heap.size 39 i0 (.agg #[.int .i64 0, .int .i64 0]) 2 16 Try.underlying25 hi hz0 hz1 hz2 rfl (by decide) _ _ _ rfl (World.ownsRow_lit (base := w1.heap.size) (size := 2) (e := 39) w1 #[] 0 (Nat.le_refl _) (Nat.zero_le _) rfl) PA j c' (flat (out.take j)) rfl HLT.out HST.out (flat_one _) ?q1 ?q2 (by simp) ?_)
                    case q1 => unfold maxLen; omega
                    case q2 => omega
                    intro v2 w2 hown2 hgrow2
                    have HO2 := Lib.hid (show w2.ownsRow w1.heap.size 39 2 v2 j (flat (out.take j)) by simpa using hown2)
                    have B2 := Lib.hid (show Below w1.heap.size w1 w2 from ((Below.refl w1.heap.size w1).alloc (Nat.le_refl _) _).grown hgrow2 (by simp) (fun q hq => by have e : some w1.heap.size = some q := hq; injection e with e; omega))
                    clear hown2 hgrow2
                    have HS1 := Lib.hid (src_own (owns_below HO1.out B2.out))
                    have HL1 := Lib.hid (show (flat ((p, o) :: out.drop j)).length = (1 + (m - j)) * 2 by rw [flat_length, List.length_cons, List.length_drop, HN.out]; omega)
                    have hsw := B2.out.size
                    go_wp2_with (at_builtin; refine AppendAny.wpList_append_want (by simp [Region.wanted]) _ _ 25 rfl w1.heap.size 39 i0 (.agg #[.int .i64 0, .int .i64 0]) 2 16 Try.underlying25 hi hz0 hz1 hz2 rfl (by decide) _ _ _ rfl HO2.out A1 (1 + (m - j)) c1' (flat ((p, o) :: out.drop j)) rfl HL1.out HS1.out (flat_one _) ?q3 ?q4 hsw ?_)
                    case q3 => unfold maxLen; omega
                    case q4 => omega
                    intro v3 w3 hown3 hgrow3
                    have B3 := Lib.hid (show Below w1.heap.size w1 w3 from B2.out.grown hgrow3 hsw (fun q hq => (HO2.out.lt q hq).1))
                    have HO3 := Lib.hid (show w3.ownsRow 0 39 2 v3 (m + 1) (flat (insL o p out)) by
                      have h := owns_base hown3 (Nat.zero_le _)
                      rwa [← flat_cat, ← HI.out, show j + (1 + (m - j)) = m + 1 by omega] at h)
                    clear hown3 hgrow3 hsw
                    obtain ⟨A3, c3, rfl⟩ := own_form HO3.out
                    have B5 := Lib.hid (BWZ.out.trans ((B1.out.trans (B3.out.mono B1.out.size)).mono BWZ.out.size))
                    have HNN := Lib.hid (show (insL o p out).length = m + 1 by rw [ins_length, HN.out])
                    go_wp2_with fail
                    go_roundw
                    case rel => exact ⟨k + 1, m + 1, A3, c3, insL o p out, by omega, by simp, rfl, by have := HMK.out; unfold Hid; omega, HNN.out, HREF2.out, HO3.out, B5.out⟩
                    case measure => simp [RowKit.intOf]; omega
              · have HI := Lib.hid (show insL o p out = out.take j ++ (p, o) :: out.drop j by
                    unfold insL
                    rw [lo_run p out j (by have := HN.out; omega) HJ.out (fun y hy => by rw [List.getElem?_eq_none (by have := HN.out; omega)] at hy; cases hy)])
                have hji : ¬ (j : Int) < (m : Int) := by omega
                go_wp2_with fail
                go_quiet (fail)
                clear HJ
                obtain ⟨PA, hPA⟩ : ∃ PA, A' = PA := ⟨_, rfl⟩
                rw [hPA] at HO HOI ⊢
                clear hPA
                obtain ⟨wz, hwz⟩ : ∃ v, wi.drewN nq = v := ⟨_, rfl⟩
                have BZ := Lib.hid (show Below wo.heap.size wo wz by rw [← hwz]; exact BI.out.trans ((Kit.below_drewN _ _ _).mono BI.out.size))
                rw [hwz]
                clear hwz
                have BWZ := Lib.hid (HW.out.trans (BZ.out.mono HW.out.size))
                have HOZ := Lib.hid (owns_below HO.out BZ.out)
                have c0 := (BZ.out.cell (by rw [add_block]; exact ha)).trans k1
                clear k1' HOI
                have hbz : Below wz.heap.size wz (wz.drew.alloc (.cells #[.int .i64 p, .int .i64 o] 39)) := (Kit.below_drewN wz.heap.size wz 1).alloc (Nat.le_refl _) _
                obtain ⟨SA, hsa, hsrc⟩ := src_drop (j := j) (owns_below HOZ.out hbz) (by omega)
                have HSRC := Lib.hid hsrc
                have HLD := Lib.hid (show (flat (out.drop j)).length = (m - j) * 2 by rw [flat_length, List.length_drop, HN.out])
                have HSM := Lib.hid (fun (v : World) hv => src_take (w := v) (base := 0) (e := 39) (A := PA) (n := m) (pc := c') (l := out) (j := j) hv (by omega))
                have hjc : j ≤ c' := by have := (own_cap HOZ.out).1; omega
                have hi1 : (j : Int) ≤ (m : Int) := by omega
                have hi2 : (j : Int) ≤ (c' : Int) := by omega
                have hi3 : (0 : Int) ≤ (j : Int) := by omega
                clear hbz hsrc
                go_wp2_with fail
                go_region_law (refine AppendAny.step_append_any rfl _ _ 25 rfl wz.heap.size 39 i0 (.agg #[.int .i64 0, .int .i64 0]) 2 16 Try.underlying25 hi hz0 hz1 hz2 rfl (by decide) (.slice (some ⟨wz.heap.size, 0, none⟩) 1 1) 1 [.int .i64 p, .int .i64 o] rfl (World.ownsRow_lit (base := wz.heap.size) (size := 2) (e := 39) wz.drew ([.int .i64 p, .int .i64 o] : List Value).toArray 1 (Nat.le_refl _) (by decide) rfl) SA (m - j) (c' - j) (flat (out.drop j)) rfl HLD.out HSRC.out (flat_one _) (by unfold maxLen; omega) (by omega) (by simp) ?_; intro A1 c1' w1 hown1 hgrow)
                all_goals
                  have B1 := Lib.hid (show Below wz.heap.size wz w1 from ((Kit.below_drewN wz.heap.size wz 1).alloc (Nat.le_refl _) _).grown hgrow (by simp) (fun q hq => by have e : some wz.heap.size = some q := hq; injection e with e; omega))
                  have HO1 := Lib.hid (show w1.ownsRow wz.heap.size 39 2 (.slice A1 (1 + (m - j)) c1') (1 + (m - j)) (flat ((p, o) :: out.drop j)) from hown1)
                  have HOW := Lib.hid (owns_below HOZ.out B1.out)
                  clear hown1 hgrow c0 hsa
                  have hb1 : Below w1.heap.size w1 (w1.alloc (.cells #[] 39)) := (Below.refl _ _).alloc (Nat.le_refl _) _
                  have HST := Lib.hid (HSM.out _ (owns_below HOW.out hb1))
                  have HLT := Lib.hid (show (flat (out.take j)).length = j * 2 by rw [flat_length, List.length_take, HN.out]; omega)
                  clear hb1
                  go_wp2_with (at_builtin; refine AppendAny.wpList_append_want (by simp [Region.wanted]) _ _ 25 rfl w1.heap.size 39 i0 (.agg #[.int .i64 0, .int .i64 0]) 2 16 Try.underlying25 hi hz0 hz1 hz2 rfl (by decide) _ _ _ rfl (World.ownsRow_lit (base := w1.heap.size) (size := 2) (e := 39) w1 #[] 0 (Nat.le_refl _) (Nat.zero_le _) rfl) PA j c' (flat (out.take j)) rfl HLT.out HST.out (flat_one _) ?q1 ?q2 (by simp) ?_)
                  case q1 => unfold maxLen; omega
                  case q2 => omega
                  intro v2 w2 hown2 hgrow2
                  have HO2 := Lib.hid (show w2.ownsRow w1.heap.size 39 2 v2 j (flat (out.take j)) by simpa using hown2)
                  have B2 := Lib.hid (show Below w1.heap.size w1 w2 from ((Below.refl w1.heap.size w1).alloc (Nat.le_refl _) _).grown hgrow2 (by simp) (fun q hq => by have e : some w1.heap.size = some q := hq; injection e with e; omega))
                  clear hown2 hgrow2
                  have HS1 := Lib.hid (src_own (owns_below HO1.out B2.out))
                  have HL1 := Lib.hid (show (flat ((p, o) :: out.drop j)).length = (1 + (m - j)) * 2 by rw [flat_length, List.length_cons, List.length_drop, HN.out]; omega)
                  have hsw := B2.out.size
                  go_wp2_with (at_builtin; refine AppendAny.wpList_append_want (by simp [Region.wanted]) _ _ 25 rfl w1.heap.size 39 i0 (.agg #[.int .i64 0, .int .i64 0]) 2 16 Try.underlying25 hi hz0 hz1 hz2 rfl (by decide) _ _ _ rfl HO2.out A1 (1 + (m - j)) c1' (flat ((p, o) :: out.drop j)) rfl HL1.out HS1.out (flat_one _) ?q3 ?q4 hsw ?_)
                  case q3 => unfold maxLen; omega
                  case q4 => omega
                  intro v3 w3 hown3 hgrow3
                  have B3 := Lib.hid (show Below w1.heap.size w1 w3 from B2.out.grown hgrow3 hsw (fun q hq => (HO2.out.lt q hq).1))
                  have HO3 := Lib.hid (show w3.ownsRow 0 39 2 v3 (m + 1) (flat (insL o p out)) by
                    have h := owns_base hown3 (Nat.zero_le _)
                    rwa [← flat_cat, ← HI.out, show j + (1 + (m - j)) = m + 1 by omega] at h)
                  clear hown3 hgrow3 hsw
                  obtain ⟨A3, c3, rfl⟩ := own_form HO3.out
                  have B5 := Lib.hid (BWZ.out.trans ((B1.out.trans (B3.out.mono B1.out.size)).mono BWZ.out.size))
                  have HNN := Lib.hid (show (insL o p out).length = m + 1 by rw [ins_length, HN.out])
                  go_wp2_with fail
                  go_roundw
                  case rel => exact ⟨k + 1, m + 1, A3, c3, insL o p out, by omega, by simp, rfl, by have := HMK.out; unfold Hid; omega, HNN.out, HREF2.out, HO3.out, B5.out⟩
                  case measure => simp [RowKit.intOf]; omega
          · have HX := Lib.hid (HNONE.out (by rw [HREF.out, hd]; unfold refL; rw [if_neg (fun e => hz0 (hz.symm.trans e))]))
            have hz' : (z != 0) = true := by simpa using hz0
            clear hz0 hz hd hp
            go_wp2_with (go_at_call 13; refine how.mono ?_; clear how; rintro e w2 ⟨rfl, hw0⟩; obtain rfl := hw0.symm; clear hw0)
            go_ret2
            obtain ⟨t1, t2⟩ := HX.out
            refine ⟨A, c, by rw [t1, t2, HLL.out]; rfl, ?_, HW.out⟩
            rw [t2, HLL.out]
            exact owns_base (owns_below H.out HW.out) (Nat.zero_le _)
        · have hkn3 : ¬ (k : Int) < (n : Int) := by omega
          have HX := Lib.hid (HSOME.out out (by rw [HREF.out, List.drop_eq_nil_of_le (by have := HLN.out; omega)]; rfl))
          go_wp2
          go_ret2
          obtain ⟨t1, t2⟩ := HX.out
          refine ⟨A', c', by rw [t1, t2, HN.out]; rfl, ?_, HW.out⟩
          rw [t2, HN.out]
          exact HO.out
end Pt
end Go.Proofs.Ytgnfpcacpcnanaa
