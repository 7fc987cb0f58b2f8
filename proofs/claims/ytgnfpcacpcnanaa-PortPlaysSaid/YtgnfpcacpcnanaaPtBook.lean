/-
  The law's helpers: two lists of the same numbers, a list spoilt, and whether all ports are told, as far as one likes. Conditions: the lists lie in rows, there are not too many.
-/
import Derived.Test.YtgnfpcacpcnanaaPtHeld
import Derived.Test.YtgnfpcacpcnanaaPtActs
set_option linter.unusedVariables false
set_option linter.unusedSimpArgs false
namespace Go.Proofs.Ytgnfpcacpcnanaa
open Go.ChangeShapes Go.WideShapes Go.ChangeAt Go.RowKit Go.Lib
open Lists
namespace Pt

attribute [local go_sem] Oper.semAt_some

set_option maxRecDepth 100000 in
theorem sameInts_any {B1 B2 : Nat} {A1 A2 : Option Addr} {c1 c2 : Nat} (l : List Int) (n : Nat) (hn : l.length = n) (hl : n ≤ 100000) (w : World) (h1 : w.ownsRow B1 3 1 (.slice A1 n c1) n (l.map (Value.int .i64))) (h2 : w.ownsRow B2 3 1 (.slice A2 n c2) n (l.map (Value.int .i64))) :
    Calls Try.prog 15 #[.slice A1 n c1, .slice A2 n c2] w fun e w' => e = .returned (.bool true) ∧ Below w.heap.size w w' := by
  have H1 := Lib.hid h1
  have H2 := Lib.hid h2
  have HN := Lib.hid hn
  have hn' : (n : Int) ≤ 100000 := by omega
  clear h1 h2 hn
  go_enter Try.func15, Try.ntmps15
  go_wp2
  go_loopw [5, 6] (fun s i wr => ∃ k : Nat, k ≤ n ∧ s = .bool true ∧ i = .int .i64 k ∧ Hid (Below w.heap.size w wr)) (fun _ i _ => n - (RowKit.intOf i).toNat)
  case atStart => exact ⟨0, Nat.zero_le _, by simp, rfl, Below.refl _ _⟩
  case round =>
    obtain ⟨k, hk, rfl, rfl, HW⟩ := hrel
    by_cases hkn : k < n
    · obtain ⟨x, hx⟩ : ∃ x, l[k]? = some x := ⟨_, List.getElem?_eq_getElem (by have := HN.out; omega)⟩
      obtain ⟨r1, rfl, hr1, k1⟩ := ints_at (owns_below H1.out HW.out) hx HN.out
      obtain ⟨r2, rfl, hr2, k2⟩ := ints_at (owns_below H2.out HW.out) hx HN.out
      have hkn' : (k : Int) < (n : Int) := by omega
      clear hx
      go_wp2_with fail
      go_quiet (fail)
      go_wp2
      go_roundw
      case rel => exact ⟨k + 1, by omega, by simp, by simp, HW.out.trans ((Kit.below_drewN _ _ _).mono HW.out.size)⟩
      case measure => simp [RowKit.intOf]; omega
    · have hkn' : ¬ (k : Int) < (n : Int) := by omega
      go_wp2
      go_ret
      exact ⟨rfl, HW.out⟩
set_option maxRecDepth 100000 in
theorem spoilInts_any {B : Nat} {A : Option Addr} {c n : Nat} {xs : List Value} (hl : n ≤ 100000) (w : World) (h : w.ownsRow B 3 1 (.slice A n c) n xs) :
    Calls Try.prog 16 #[.slice A n c] w fun e w' => e = .returned (.tuple #[]) ∧ w.grownBy w' (Value.slice A n c).ownBlock := by
  have H := Lib.hid h
  have hn' : (n : Int) ≤ 100000 := by omega
  clear h
  go_enter Try.func16, Try.ntmps16
  go_wp2
  go_loopw [5] (fun i wr => ∃ (k : Nat) (ys : List Value), k ≤ n ∧ i = .int .i64 k ∧ Hid (wr.ownsRow B 3 1 (.slice A n c) n ys) ∧ Hid (w.grownBy wr (Value.slice A n c).ownBlock)) (fun i _ => n - (RowKit.intOf i).toNat)
  case atStart => exact ⟨0, xs, Nat.zero_le _, rfl, H.out, World.grownBy.refl _ _⟩
  case round =>
    obtain ⟨k, ys, hk, rfl, HO, HG⟩ := hrel
    by_cases hkn : k < n
    · rcases own_addr HO.out with ⟨_, h0, _⟩ | ⟨r, rfl, _, hr⟩
      · omega
      · have hlen := HO.out.1
        obtain ⟨y, hy⟩ : ∃ y, ys[k]? = some y := ⟨_, List.getElem?_eq_getElem (by omega)⟩
        have k1 := (HO.out.cellAt k (by omega)).trans hy
        have f1 := HO.out.frozenAt k
        obtain ⟨h5, h6⟩ := HO.out.stored k (.int .i64 (-99))
        have H5 := Lib.hid h5
        have H6 := Lib.hid h6
        have hkn' : (k : Int) < (n : Int) := by omega
        clear h5 h6 hy hlen
        go_wp2
        go_roundw
        case rel => exact ⟨k + 1, _, by omega, by simp, H5.out, HG.out.trans H6.out⟩
        case measure => simp [RowKit.intOf]; omega
    · have hkn' : ¬ (k : Int) < (n : Int) := by omega
      go_wp2
      go_end0
      exact ⟨rfl, HG.out⟩
theorem prefix_next {l pre : Tab} {x : Int × Int} (h : pre <+: l) : pre ++ [x] <+: l ↔ l[pre.length]? = some x := by
  obtain ⟨t, rfl⟩ := h
  rw [List.getElem?_append_right (Nat.le_refl _), Nat.sub_self, List.prefix_append_right_inj]
  cases t with
  | nil => simp
  | cons y t => simp [List.cons_prefix_cons, eq_comm]
theorem kk_set {K : Nat → Prop} {W : World} {b : Nat} (v : Value) (hK : ∀ k, K k → k ≠ b) : Kk K W (W.setCell ⟨b, 0, none⟩ v) := ⟨by simp [World.setCell], fun k hk => Below.heap_setCell _ _ _ _ (hK k hk)⟩
set_option maxRecDepth 100000 in
set_option maxHeartbeats 4000000 in
theorem all_in {B g Bq : Nat} {l : Tab} {Aq : Option Addr} {cq : Nat} (most : Int) (w : World) (h : Tb B w g l) (hq : w.ownsRow Bq 39 2 (.slice Aq l.length cq) l.length (flat l)) (hl : l.length ≤ 100000) :
    CallsIn Fence.wide 5 Try.prog 17 #[.pointer (some ⟨g, 0, none⟩), .slice Aq l.length cq, .int .i64 most] w fun e w' => e = .returned (.bool true) ∧ Below w.heap.size w w' := by
  obtain ⟨n, hln⟩ : ∃ n, l.length = n := ⟨_, rfl⟩
  obtain ⟨u, hu⟩ : ∃ u, ((w.alloc (.cells #[.slice Aq n cq] 25)).alloc (.cells #[.int .i64 most] 3)).alloc (.cells #[.bool false] 4) = u := ⟨_, rfl⟩
  have hus : u.heap.size = w.heap.size + 1 + 1 + 1 := by rw [← hu]; simp
  have hBu : Below w.heap.size w u := by rw [← hu]; exact (((Below.refl _ _).alloc (Nat.le_refl _) _).alloc (by simp) _).alloc (by simp; omega) _
  have b1 : Boxed u w.heap.size 25 (.slice Aq n cq) := by rw [← hu]; exact ((Boxed.new w 25 (.slice Aq n cq)).alloc _).alloc _
  have b2 : Boxed u (w.heap.size + 1) 3 (.int .i64 most) := by rw [← hu]; have := (Boxed.new (w.alloc (.cells #[.slice Aq n cq] 25)) 3 (.int .i64 most)).alloc (.cells #[.bool false] 4); rwa [World.size_alloc] at this
  have b3 : Boxed u (w.heap.size + 1 + 1) 4 (.bool false) := by rw [← hu]; have := Boxed.new ((w.alloc (.cells #[.slice Aq n cq] 25)).alloc (.cells #[.int .i64 most] 3)) 4 (.bool false); rwa [World.size_alloc, World.size_alloc] at this
  have hal := callsIn_wide (n := 4) |>.2 (allIt_any u (h.below hBu) hl)
  have heq : ∀ (a : Addr) (v : World), (binOp BinOp.eql 63 (Value.func (Fn.func 38) #[] #[Value.pointer (some a)]) Value.nilFunc).run Try.prog v = .ok (.bool false) v := fun a v => by kernel_rfl
  have HQ := Lib.hid hq
  have HLN := Lib.hid hln
  have HL := Lib.hid hl
  rw [hln] at hl HQ ⊢
  have hqb : ∀ r, (Value.slice Aq n cq).ownBlock = some r → r < w.heap.size := fun r hr => by obtain ⟨_, cur, hc⟩ := owns_at HQ.out hr; exact lt_of_block hc
  clear h hq hln
  have hn' : (n : Int) ≤ 100000 := by omega
  have HU := Lib.hid hu
  have HUS := Lib.hid hus
  have HBU := Lib.hid hBu
  have HB1 := Lib.hid b1
  have HB2 := Lib.hid b2
  have HB3 := Lib.hid b3
  clear hu hus hBu b1 b2 b3
  refine callsIn_of_wp_marks Try.func17 rfl trivial ?_ rfl
  simp only [Try.ntmps17, List.size_toArray, List.length_cons, List.length_nil, Nat.reduceAdd, Nat.reduceSub, Array.replicate_succ, Array.replicate_zero, List.push_toArray, List.append_toArray, List.nil_append, List.cons_append]
  gi_wp2_with (refine ⟨trivial, ?_⟩; gi_at_call 26; rw [HU.out]; refine hal.mono ?_; clear hal; rintro e w1 ⟨b, A, c, rfl, hge, hbx, hrow, hbb⟩; have HBB := Lib.hid hbb; have HBX := Lib.hid hbx; have HROW := Lib.hid hrow; clear hbb hbx hrow)
  have g0 : u.grownBy w1 none := ⟨HBB.out.os, HBB.out.tape, HBB.out.output, HBB.out.size, fun k hk _ => HBB.out.block k hk⟩
  obtain ⟨w2, hw2⟩ : ∃ w2, w1.alloc (.cells #[.int .i64 0] 3) = w2 := ⟨_, rfl⟩
  have b1 : Boxed w2 w.heap.size 25 (.slice Aq n cq) := by rw [← hw2]; exact (HB1.out.kept g0 (by simp)).alloc _
  have b2 : Boxed w2 (w.heap.size + 1) 3 (.int .i64 most) := by rw [← hw2]; exact (HB2.out.kept g0 (by simp)).alloc _
  have b3 : Boxed w2 (w.heap.size + 1 + 1) 4 (.bool false) := by rw [← hw2]; exact (HB3.out.kept g0 (by simp)).alloc _
  have b4 : Boxed w2 w1.heap.size 3 (.int .i64 0) := by rw [← hw2]; exact Boxed.new w1 3 (.int .i64 0)
  have hsz1 : w.heap.size + 1 + 1 + 1 ≤ w1.heap.size := by have := HBB.out.size; rw [HUS.out] at this; exact this
  have hs2 : w2.heap.size = w1.heap.size + 1 := by rw [← hw2]; simp
  have hbw : Below w1.heap.size w1 w2 := by rw [← hw2]; exact (Below.refl _ _).alloc (Nat.le_refl _) _
  have hb1 : Below w.heap.size w w2 := (HBU.out.trans (HBB.out.mono (by rw [HUS.out]; omega))).trans (hbw.mono (by omega))
  rw [hw2]
  clear hw2
  have hge' : w.heap.size + 1 + 1 + 1 ≤ b := by rw [HUS.out] at hge; exact hge
  have hblt := lt_of_block HBX.out
  obtain ⟨K, hK⟩ : ∃ K : Nat → Prop, K = fun k => It b (.slice A l.length c) k ∨ k = w.heap.size ∨ k = w.heap.size + 1 ∨ (Value.slice Aq n cq).ownBlock = some k := ⟨_, rfl⟩
  have hKlt : ∀ k, K k → k ≠ w.heap.size + 1 + 1 ∧ k < w1.heap.size := by
    rw [hK]
    rintro k ((rfl | he) | rfl | rfl | he)
    · exact ⟨by omega, hblt⟩
    · obtain ⟨h1, cur, hc⟩ := owns_at HROW.out he
      rw [HUS.out] at h1
      exact ⟨by omega, lt_of_block hc⟩
    · exact ⟨by omega, by omega⟩
    · exact ⟨by omega, by omega⟩
    · have := hqb k he; exact ⟨by omega, by omega⟩
  have hKc : ∀ k, K k → ∃ o : Obj, w2.heap[k]? = some o ∧ o.isCells = true := by
    rw [hK]
    rintro k (hk | rfl | rfl | he)
    · obtain ⟨cur, t, hc, _⟩ := it_cells HBX.out HROW.out k hk
      exact ⟨_, (hbw.block k (lt_of_block hc)).trans hc, rfl⟩
    · exact ⟨_, b1, rfl⟩
    · exact ⟨_, b2, rfl⟩
    · obtain ⟨_, cur, hc⟩ := owns_at HQ.out he
      exact ⟨_, (hb1.block k (lt_of_block hc)).trans hc, rfl⟩
  have hI : ∀ k, It b (.slice A l.length c) k → K k := fun k hk => by rw [hK]; exact .inl hk
  have hK1 : K w.heap.size := by rw [hK]; exact .inr (.inl rfl)
  have hK2 : K (w.heap.size + 1) := by rw [hK]; exact .inr (.inr (.inl rfl))
  have hK3 : ∀ k, (Value.slice Aq n cq).ownBlock = some k → K k := fun k hk => by rw [hK]; exact .inr (.inr (.inr hk))
  clear hK
  refine wpIn_rangeFunc_ownG rfl (by omega) (gf := 38) (lb := #[.pointer (some ⟨b, 0, none⟩)]) rfl trivial (enters_of Try.func38 (by kernel_rfl) rfl)
    (all_stops 4 (by omega) b _ l A c w1 HBX.out HROW.out HL.out) Kk.trans (fun W l' o' o'' h => Kk.put (n := w1.heap.size) (fun k hk => (hKlt k (hI k hk)).2) W l' o' o'' (by omega)) hbw (fun _ => rfl)
    (fun (pre : Tab) W => (pre <+: l ∧ (W.cell? ⟨w1.heap.size, 0, none⟩ = some (.int .i64 (pre.length : Int)) ∧ W.frozen? ⟨w1.heap.size, 0, none⟩ = false) ∧ (W.cell? ⟨w.heap.size + 1 + 1, 0, none⟩ = some (.bool false) ∧ W.frozen? ⟨w.heap.size + 1 + 1, 0, none⟩ = false)) ∧ (Kk K w2 W ∧ Below w.heap.size w W))
    (fun c pre W => (c = .ret ∧ (pre <+: l → W.cell? ⟨w.heap.size + 1 + 1, 0, none⟩ = some (.bool true))) ∧ Below w.heap.size w W)
    (OwnFrom.and (Own.from (fun s A B row hs hg hr => ⟨hs.1, ⟨cell_kept hs.2.1.1 hg hr, (frozen_kept hs.2.1.1 hg hr).trans hs.2.1.2⟩, ⟨cell_kept hs.2.2.1 hg hr, (frozen_kept hs.2.2.1 hg hr).trans hs.2.2.2⟩⟩) _) (OwnFrom.and (kk_own hKc) (ownFrom_below (Nat.le_refl _) (by omega))))
    (fun c => OwnFrom.and (Own.from (fun s A B row hs hg hr => ⟨hs.1, fun h => cell_kept (hs.2 h) hg hr⟩) _) (ownFrom_below (Nat.le_refl _) (by omega)))
    ⟨⟨List.nil_prefix, ⟨b4.cell, b4.frozen⟩, ⟨b3.cell, b3.frozen⟩⟩, Kk.refl _ _, hb1⟩
    (fun x => { tmps := #[.pointer (some ⟨g, 0, none⟩), .slice Aq n cq, .int .i64 most, undef, .pointer (some ⟨w.heap.size, 0, none⟩), .pointer (some ⟨w.heap.size + 1, 0, none⟩), .pointer (some ⟨w.heap.size + 1 + 1, 0, none⟩), .func (.func 38) #[] #[.pointer (some ⟨b, 0, none⟩)], .pointer (some ⟨w1.heap.size, 0, none⟩), .int .i64 x.1, .int .i64 x.2, .pointer (some ⟨g, 0, none⟩), .func (.func 38) #[] #[.pointer (some ⟨b, 0, none⟩)], .func (.func 38) #[] #[.pointer (some ⟨b, 0, none⟩)], .bool false, .func (.func 38) #[] #[.pointer (some ⟨b, 0, none⟩)], .int .i64 x.1, .int .i64 x.2, undef, undef, undef, undef, undef, undef, undef, undef, undef, undef, undef, undef, undef, undef, undef, undef, undef, undef, undef, undef, undef, undef, undef, undef, undef, undef, undef, undef, undef, undef, undef], defers := [] }) ?assign ?body ?done ?stop
  case assign =>
    intro l x W K hK
    gi_wp2
    exact hK
  case body =>
    rintro l0 pre x W ⟨⟨hpre, ⟨hk0, hf0⟩, ⟨hr0, hfr⟩⟩, hKK, hB⟩ hlt
    have hqc : W.cell? ⟨w.heap.size, 0, none⟩ = some (.slice Aq n cq) := (World.cell?_of_block (hKK.2 _ hK1)).trans b1.cell
    have hmc : W.cell? ⟨w.heap.size + 1, 0, none⟩ = some (.int .i64 most) := (World.cell?_of_block (hKK.2 _ hK2)).trans b2.cell
    have hplt : pre.length < n := by rw [← HLN.out]; exact hlt
    have hp' : (pre.length : Int) < (n : Int) := by omega
    have hp2 : ¬ (n : Int) ≤ (pre.length : Int) := by omega
    obtain ⟨y, hy⟩ : ∃ y, l[pre.length]? = some y := ⟨_, List.getElem?_eq_getElem hlt⟩
    have hqW : W.ownsRow Bq 39 2 (.slice Aq l.length cq) l.length (flat l) := by
      have h1 : w2.ownsRow Bq 39 2 (.slice Aq n cq) n (flat l) := owns_below HQ.out hb1
      have := owns_of h1 (fun r hr => hKK.2 r (hK3 r hr))
      rw [← HLN.out] at this
      exact this
    obtain ⟨r, er, hr, k1, k2⟩ := row_at hqW hy
    have hne1 : w.heap.size ≠ w1.heap.size := by omega
    have hne2 : w.heap.size + 1 ≠ w1.heap.size := by omega
    have hne3 : w.heap.size + 1 + 1 ≠ w1.heap.size := by omega
    have HP := Lib.hid (prefix_next (x := x) hpre)
    have HY := Lib.hid hy
    clear hqW hy hlt
    by_cases hx1 : y.1 = x.1
    · by_cases hx2 : y.2 = x.2
      · have hb1 : (y.1 != x.1) = false := by simpa using hx1
        have hb2 : (y.2 != x.2) = false := by simpa using hx2
        have HPX := Lib.hid (show pre ++ [x] <+: l by rw [HP.out, HY.out, Prod.ext hx1 hx2])
        clear hx1 hx2
        by_cases hm : (pre.length : Int) + 1 = most
        · have hbm : ((pre.length : Int) + 1 == most) = true := by simpa using hm
          clear hm
          gi_wp2
          refine ⟨((KeepsOthers.setCell _ _ _).trans (KeepsOthers.setCell _ _ _)).from _, ⟨rfl, fun _ => World.cell?_setCell_same' _ _ _ ?_⟩, (hB.setCell (p := ⟨w1.heap.size, 0, none⟩) (by show w.heap.size ≤ w1.heap.size; omega) _).setCell (p := ⟨w.heap.size + 1 + 1, 0, none⟩) (by show w.heap.size ≤ w.heap.size + 1 + 1; omega) _⟩
          rw [World.cell?_setCell_other _ _ _ _ (by simp <;> omega), hr0]; rfl
        · have hbm : ((pre.length : Int) + 1 == most) = false := by simpa using hm
          clear hm
          gi_wp2
          refine ⟨(KeepsOthers.setCell _ _ _).from _, kk_set _ (fun k hk => by have := (hKlt k (hI k hk)).2; omega), ⟨HPX.out, ⟨?_, ?_⟩, ⟨?_, ?_⟩⟩, hKK.trans (kk_set _ (fun k hk => by have := (hKlt k hk).2; omega)), hB.setCell (p := ⟨w1.heap.size, 0, none⟩) (by show w.heap.size ≤ w1.heap.size; omega) _⟩
          · rw [World.cell?_setCell_same' _ _ _ (by rw [hk0]; rfl)]; simp
          · rw [World.frozen?_setCell]; exact hf0
          · rw [World.cell?_setCell_other _ _ _ _ (by simp <;> omega)]; exact hr0
          · rw [World.frozen?_setCell]; exact hfr
      · have hb1 : (y.1 != x.1) = false := by simpa using hx1
        have hb2 : (y.2 != x.2) = true := by simpa using hx2
        have HPX := Lib.hid (show ¬ (pre ++ [x] <+: l) by rw [HP.out, HY.out]; intro e; injection e with e; exact hx2 (by rw [e]))
        clear hx1 hx2
        gi_wp2
        exact ⟨(KeepsOthers.setCell _ _ _).from _, ⟨rfl, fun h => absurd h HPX.out⟩, hB.setCell (p := ⟨w.heap.size + 1 + 1, 0, none⟩) (by show w.heap.size ≤ w.heap.size + 1 + 1; omega) _⟩
    · have hb1 : (y.1 != x.1) = true := by simpa using hx1
      have HPX := Lib.hid (show ¬ (pre ++ [x] <+: l) by rw [HP.out, HY.out]; intro e; injection e with e; exact hx1 (by rw [e]))
      clear hx1
      gi_wp2
      exact ⟨(KeepsOthers.setCell _ _ _).from _, ⟨rfl, fun h => absurd h HPX.out⟩, hB.setCell (p := ⟨w.heap.size + 1 + 1, 0, none⟩) (by show w.heap.size ≤ w.heap.size + 1 + 1; omega) _⟩
  case done =>
    rintro D ys W hD rfl ⟨⟨hpre, ⟨hk0, hf0⟩, ⟨hr0, hfr⟩⟩, hKK, hB⟩ hK
    rw [HLN.out] at hk0
    have hqc : W.cell? ⟨w.heap.size, 0, none⟩ = some (.slice Aq n cq) := (World.cell?_of_block (hKK.2 _ hK1)).trans b1.cell
    gi_wp2
    have hK' := (KeepsOthers.setCell W ⟨w.heap.size + 1 + 1, 0, none⟩ (.bool true)).same D _ hK rfl
    refine ⟨by simp, .inl ⟨_, _, rfl, run_takeDeferred hK', ?_⟩⟩
    have hc5 := cell_kept (World.cell?_setCell_same' W ⟨w.heap.size + 1 + 1, 0, none⟩ (.bool true) (by rw [hr0]; rfl)) (grownBy_putObj' _ D (.deferred none)) (fun r e => by cases e; exact ⟨_, hK', rfl⟩)
    refine ⟨.bool true, ?_, rfl, (hB.setCell (p := ⟨w.heap.size + 1 + 1, 0, none⟩) (by show w.heap.size ≤ w.heap.size + 1 + 1; omega) _).trans (belowK_b (w := w) (Nat.le_refl _) _ D _ _ (by omega) hK' rfl rfl)⟩
    simp [results, Try.f17, go_sem, hc5]
  case stop =>
    rintro D c pre W hD hpre ⟨⟨rfl, hin⟩, hB⟩ hK
    have hcr := hin hpre
    gi_wp2
    refine ⟨by simp, .inl ⟨_, _, rfl, run_takeDeferred hK, ?_⟩⟩
    have hc5 := cell_kept hcr (grownBy_putObj' _ D (.deferred none)) (fun r e => by cases e; exact ⟨_, hK, rfl⟩)
    refine ⟨.bool true, ?_, rfl, hB.trans (belowK_b (w := w) (Nat.le_refl _) W D _ _ (by omega) hK rfl rfl)⟩
    simp [results, Try.f17, go_sem, hc5]
end Pt
end Go.Proofs.Ytgnfpcacpcnanaa
