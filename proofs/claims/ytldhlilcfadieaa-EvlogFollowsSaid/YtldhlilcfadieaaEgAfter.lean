/-
  The contract of a log's After: as EgPure says; the list lies in new memory, and what was there is as it was. Condition: the log is one (Lg, Good).
-/
import Derived.Test.YtldhlilcfadieaaEgAdd
import Derived.Great.BuildSlice
set_option linter.unusedVariables false
set_option linter.unusedSimpArgs false
namespace Go.Proofs.Ytldhlilcfadieaa
open Go.ChangeShapes Go.WideShapes Go.ChangeAt Go.RowKit Go.Lib
open Lists
namespace Eg

theorem run_buildEvt (c0 c1 c2 c3 c4 c5 c6 c7 c8 c9 c10 c11 c12 c13 c14 : Value) (w : World) : (Instr.buildSlice 43 1 #[(0, .agg #[c0, c1, c2, c3, c4, c5, c6, c7, c8, c9, c10, c11, c12, c13, c14])]).run Try.prog w = .ok (.slice (some ⟨w.heap.size, 0, none⟩) 1 1) (w.alloc (.cells #[c0, c1, c2, c3, c4, c5, c6, c7, c8, c9, c10, c11, c12, c13, c14] 40)) := by
  obtain ⟨ie, hie, hz, hs, _⟩ := info_parts info_evt
  refine run_buildSlice w _ _ 1 _ _ ie _ Try.underlying43 hie hz (by rw [hs]; decide) (by rw [hs]; decide) ?_
  rw [hs]
  rw [show (Array.range (1 * 15)).map ((Value.agg #[.int .i64 0, .int .u64 0, .int .i64 0, .int .u64 0, .string ⟨#[]⟩, .slice none 0 0, .slice none 0 0, .slice none 0 0, .int .i64 0, .int .i64 0, .int .i64 0, .int .i64 0, .slice none 0 0, .int .i64 0, .int .i64 0]).cells[· % (Value.agg #[.int .i64 0, .int .u64 0, .int .i64 0, .int .u64 0, .string ⟨#[]⟩, .slice none 0 0, .slice none 0 0, .slice none 0 0, .int .i64 0, .int .i64 0, .int .i64 0, .int .i64 0, .slice none 0 0, .int .i64 0, .int .i64 0]).cells.size]!) = #[.int .i64 0, .int .u64 0, .int .i64 0, .int .u64 0, .string ⟨#[]⟩, .slice none 0 0, .slice none 0 0, .slice none 0 0, .int .i64 0, .int .i64 0, .int .i64 0, .int .i64 0, .slice none 0 0, .int .i64 0, .int .i64 0] from by kernel_rfl]
  simp [Instr.fill, Value.cells]
theorem wpList_buildEvt {ops : Array Oper} {rest : List Oper} {op : Oper} {a : Act} {w v : World} {Q : Exit → Act → World → Prop} (hgd : op.guard = none) (x : Operand) (ho : op.op = .buildSlice 43 1 #[(0, x)]) (c0 c1 c2 c3 c4 c5 c6 c7 c8 c9 c10 c11 c12 c13 c14 : Value) (hx : a.eval x = .agg #[c0, c1, c2, c3, c4, c5, c6, c7, c8, c9, c10, c11, c12, c13, c14]) (hv : w.alloc (.cells #[c0, c1, c2, c3, c4, c5, c6, c7, c8, c9, c10, c11, c12, c13, c14] 40) = v)
    (h : wpList Try.prog ops Q rest (a.put op.dst (.slice (some ⟨w.heap.size, 0, none⟩) 1 1)) v) : wpList Try.prog ops Q (op :: rest) a w := by
  refine wpList_plain hgd fun K hK => ?_
  have hrun := run_buildEvt c0 c1 c2 c3 c4 c5 c6 c7 c8 c9 c10 c11 c12 c13 c14 w
  subst hv
  unfold Oper.wp
  simp [execOp, ho, hx, hrun, Result.andThen]
  exact hK _ _ h
theorem own_base {w : World} {base base' : Nat} {t : TypeId} {size n : Nat} {v : Value} {xs : List Value} (h : w.ownsRow base t size v n xs) (hb : base' ≤ base) : w.ownsRow base' t size v n xs := by
  refine ⟨h.1, ?_⟩
  rcases h.2 with h0 | ⟨g, cap, cur, h1, h2, h3⟩
  · exact .inl h0
  · exact .inr ⟨g, cap, cur, h1, Nat.le_trans hb h2, h3⟩
theorem after_old {g : Nat} {D : Nat → Prop} {rs : List Nat} {fl mo : Nat} (b : Nat) (m : Int) (w : World) (h : Lg w g D rs fl mo) (hb : b < fl) :
    Calls Try.prog 10 #[.pointer (some ⟨g, 0, none⟩), .int .u64 (b : Int), .int .i64 m] w fun e w' => e = .returned (.tuple #[.slice none 0 0, .int .i64 120]) ∧ Below w.heap.size w w' := by
  have hm : min (max m 0) 0 = 0 := by omega
  have H := Lib.hid h
  clear h
  go_enter Try.func10, Try.ntmps10
  go_wp2_with fail
  refine (above_old b _ H.out hb).mono ?_
  rintro e w' ⟨rfl, rfl⟩
  go_wp2_with fail
  go_loop [10, 27] (fun o i => o = .slice none 0 0 ∧ i = .int .i64 0) (fun _ _ => 0)
  case atStart => exact ⟨rfl, rfl⟩
  case round =>
    obtain ⟨rfl, rfl⟩ := hrel
    go_wp2_with fail
    go_ret2
    exact ⟨rfl, Below.refl _ _⟩

set_option maxRecDepth 100000 in
set_option maxHeartbeats 2000000 in
theorem after_new {g : Nat} {D : Nat → Prop} {L : List Evt} {A : Option Addr} {c fl mo : Nat} (b : Nat) (m : Int) (w : World) (h : LgAt w g D L A c fl mo) (hl : L.length ≤ 64) (hs : (L.map Evt.rev).Pairwise (· < ·)) (hb : fl ≤ b) (k0 : Nat) (hk0 : upN (L.map Evt.rev) b = k0) (q : Nat) (hq : min (max m 0) ((L.length - k0 : Nat) : Int) = (q : Int)) :
    Calls Try.prog 10 #[.pointer (some ⟨g, 0, none⟩), .int .u64 (b : Int), .int .i64 m] w fun e w' => ∃ A' c' E, e = .returned (.tuple #[.slice A' q c', .int .i64 0]) ∧ w'.ownsRow w.heap.size 40 15 (.slice A' q c') q (flatE E) ∧ E.map Evt.rev = ((L.map Evt.rev).drop k0).take q ∧ Below w.heap.size w w' := by
  have hkl : k0 ≤ L.length := by rw [← hk0]; have := upN_le (L.map Evt.rev) b; rwa [List.length_map] at this
  have H := Lib.hid h
  have HAB := Lib.hid (above_new b w h hl hs hb k0 hk0)
  obtain ⟨i15, hi15, hz150, hz151, hz152⟩ := info_parts info_evt
  obtain ⟨n, hn⟩ : ∃ n, L.length - k0 = n := ⟨_, rfl⟩
  rw [hn] at hq HAB
  have hqn : q ≤ n := by omega
  have hq64 : q ≤ 64 := by omega
  have HN := Lib.hid hn
  have HKL := Lib.hid hkl
  clear h hl hs hb hk0 hn hkl
  go_enter Try.func10, Try.ntmps10
  go_wp2_with fail
  refine HAB.out.mono ?_
  rintro e w1 ⟨A1, c1, rfl, hc1, hev, hb1⟩
  have HEV := Lib.hid hev
  have B1 := Lib.hid hb1
  have h1 : (0 : Int) ≤ (q : Int) := by omega
  have h2 : (q : Int) ≤ (c1 : Int) := by omega
  have hq0 : q ≤ c1 := by omega
  clear hev hb1
  go_wp2_with fail
  have HQ := Lib.hid hq
  clear hq h1 h2 hq0
  go_loopw [10, 27] (fun o i wr => ∃ (A' : Option Addr) (c' k : Nat) (E : List Evt), o = .slice A' k c' ∧ i = .int .i64 k ∧ k ≤ q ∧ Hid (wr.ownsRow w1.heap.size 40 15 (.slice A' k c') k (flatE E)) ∧ Hid (E.map Evt.rev = ((L.map Evt.rev).drop k0).take k) ∧ Hid (Below w.heap.size w wr) ∧ Hid (Below w1.heap.size w1 wr)) (fun _ i _ => q - (RowKit.intOf i).toNat)
  case atStart => exact ⟨none, 0, 0, [], rfl, rfl, Nat.zero_le _, World.ownsRow_nil _ _ _ _, rfl, B1.out, Below.refl _ _⟩
  case round =>
    obtain ⟨A', c', k, E, rfl, rfl, hkq, HO, HE, HB, HBB⟩ := hrel
    by_cases hlt : k < q
    · have hltI : (k : Int) < (q : Int) := by omega
      have hk0I : (0 : Int) ≤ (k : Int) := by omega
      obtain ⟨x, hx⟩ : ∃ x, L[k0 + k]? = some x := ⟨_, List.getElem?_eq_getElem (by have := HN.out; omega)⟩
      obtain ⟨r, o, rfl, hr, hcells⟩ := (HEV.out k x hx).below HBB.out
      have e0 : (⟨r, o, none⟩ : Addr).add (k * 15) = ⟨r, o + k * 15, none⟩ := by unfold Addr.add; split <;> simp_all
      have RG0 := Lib.hid (show wr.rangeAt r (o + k * 15) x.vals from fun t v hv => hcells t v hv)
      have hlg := H.out.below HB.out
      obtain ⟨n1, n2, n3⟩ := hlg.ev x (List.mem_of_getElem? hx)
      have HZZ := Lib.hid n2
      have N0 := Lib.hid n1
      have HX := Lib.hid hx
      obtain ⟨u1, hu1⟩ : ∃ v, (wr.alloc (.cells #[.int .i64 0, .int .u64 0, .int .i64 0, .int .u64 0, .string ⟨#[]⟩, .slice none 0 0, .slice none 0 0, .slice none 0 0, .int .i64 0, .int .i64 0, .int .i64 0, .int .i64 0, .slice none 0 0, .int .i64 0, .int .i64 0] 40)).setCells wr.heap.size 0 [.int .i64 x.kind, .int .u64 x.rev, .int .i64 x.uid, .int .u64 0, .string ⟨#[]⟩, .slice none 0 0, .slice none 0 0, .slice none 0 0, .int .i64 0, .int .i64 0, .int .i64 0, .int .i64 0, .slice x.RA x.zs.length x.rc, .int .i64 0, .int .i64 0] = v := ⟨_, rfl⟩
      have hsz1 : (wr.alloc (.cells #[.int .i64 0, .int .u64 0, .int .i64 0, .int .u64 0, .string ⟨#[]⟩, .slice none 0 0, .slice none 0 0, .slice none 0 0, .int .i64 0, .int .i64 0, .int .i64 0, .int .i64 0, .slice none 0 0, .int .i64 0, .int .i64 0] 40)).heap.size = wr.heap.size + 1 := by simp
      have zz := heap_alloc_new wr (.cells #[.int .i64 0, .int .u64 0, .int .i64 0, .int .u64 0, .string ⟨#[]⟩, .slice none 0 0, .slice none 0 0, .slice none 0 0, .int .i64 0, .int .i64 0, .int .i64 0, .int .i64 0, .slice none 0 0, .int .i64 0, .int .i64 0] 40)
      have XU := Lib.hid (show u1.heap[wr.heap.size]? = some (.cells #[.int .i64 x.kind, .int .u64 x.rev, .int .i64 x.uid, .int .u64 0, .string ⟨#[]⟩, .slice none 0 0, .slice none 0 0, .slice none 0 0, .int .i64 0, .int .i64 0, .int .i64 0, .int .i64 0, .slice x.RA x.zs.length x.rc, .int .i64 0, .int .i64 0] 40 (0, 0)) by rw [← hu1]; exact box_into zz 0 _ (over_15 _ _ _ _ _ _ _ _ _ _ _ _ _ _ _ _ _ _ _ _ _ _ _ _ _ _ _ _ _ _))
      have BU := Lib.hid (show Below wr.heap.size wr u1 by rw [← hu1]; exact below_cells (Nat.le_refl _) _ 0 ((Below.refl _ _).alloc (Nat.le_refl _) _))
      have TH := Lib.hid (show (wr.alloc (.cells #[.int .i64 0, .int .u64 0, .int .i64 0, .int .u64 0, .string ⟨#[]⟩, .slice none 0 0, .slice none 0 0, .slice none 0 0, .int .i64 0, .int .i64 0, .int .i64 0, .int .i64 0, .slice none 0 0, .int .i64 0, .int .i64 0] 40)).there wr.heap.size 0 15 from box_there zz 0 15 (by decide))
      have ONE := Lib.hid (show (#[.int .i64 x.kind, .int .u64 x.rev, .int .i64 x.uid, .int .u64 0, .string ⟨#[]⟩, .slice none 0 0, .slice none 0 0, .slice none 0 0, .int .i64 0, .int .i64 0, .int .i64 0, .int .i64 0, .slice x.RA x.zs.length x.rc, .int .i64 0, .int .i64 0] : Array Value).all (·.oneCell') = true by simp [Value.oneCell'])
      have RGU := Lib.hid (range_at XU.out 0 [.int .i64 x.kind, .int .u64 x.rev, .int .i64 x.uid, .int .u64 0, .string ⟨#[]⟩, .slice none 0 0, .slice none 0 0, .slice none 0 0, .int .i64 0, .int .i64 0, .int .i64 0, .int .i64 0, .slice x.RA x.zs.length x.rc, .int .i64 0, .int .i64 0] rfl)
      have HV := Lib.hid hu1
      clear hu1 zz hcells hlg n1 n2 n3 hsz1 hx
      go_wp2_with (first | (refine wpList_load_mid rfl 40 _ rfl _ _ rfl x.vals _ RG0.out Try.underlying40 rfl (by kernel_rfl) ?_) | (refine wpList_store_to rfl 40 _ _ rfl _ _ _ rfl rfl TH.out (by kernel_rfl) ONE.out HV.out ?_) | (refine wpList_load_mid rfl 40 _ rfl _ _ rfl _ _ RGU.out Try.underlying40 rfl (by kernel_rfl) ?_))
      refine (clone_any x u1 HZZ.out (nums_move N0.out BU.out.size (fun a _ hl => BU.out.block _ hl))).mono ?_
      rintro e w2 ⟨CR, cr, rfl, hn2, hC2, hb2⟩
      have B2 := Lib.hid (BU.out.trans (hb2.mono BU.out.size))
      obtain ⟨u3, hu3⟩ : ∃ v, w2.alloc (.cells #[.int .i64 x.kind, .int .u64 x.rev, .int .i64 x.uid, .int .u64 0, .string ⟨#[]⟩, .slice none 0 0, .slice none 0 0, .slice none 0 0, .int .i64 0, .int .i64 0, .int .i64 0, .int .i64 0, .slice CR x.zs.length cr, .int .i64 0, .int .i64 0] 40) = v := ⟨_, rfl⟩
      have B3 := Lib.hid (show Below wr.heap.size wr u3 by rw [← hu3]; exact B2.out.alloc B2.out.size _)
      have HO3 := Lib.hid (owns_of HO.out (w' := u3) (fun r hr => B3.out.block r (owns_lt HO.out hr).2))
      have SRC := Lib.hid (show ∀ j u, ([.int .i64 x.kind, .int .u64 x.rev, .int .i64 x.uid, .int .u64 0, .string ⟨#[]⟩, .slice none 0 0, .slice none 0 0, .slice none 0 0, .int .i64 0, .int .i64 0, .int .i64 0, .int .i64 0, .slice CR x.zs.length cr, .int .i64 0, .int .i64 0] : List Value)[j]? = some u → u3.cell? ((⟨w2.heap.size, 0, none⟩ : Addr).add j) = some u by rw [← hu3]; exact (World.ownsRow_lit (base := 0) (size := 15) (e := 40) w2 ([.int .i64 x.kind, .int .u64 x.rev, .int .i64 x.uid, .int .u64 0, .string ⟨#[]⟩, .slice none 0 0, .slice none 0 0, .slice none 0 0, .int .i64 0, .int .i64 0, .int .i64 0, .int .i64 0, .slice CR x.zs.length cr, .int .i64 0, .int .i64 0] : List Value).toArray 1 (Nat.zero_le _) (by decide) rfl).cells rfl)
      have HV3 := Lib.hid hu3
      have hbs : w1.heap.size ≤ u3.heap.size := Nat.le_trans HBB.out.size B3.out.size
      have hB63 : k + 1 ≤ maxLen := by unfold maxLen; omega
      have hBby : (k + 1) * 192 ≤ 140737488355328 := by omega
      clear hn2 hC2 hb2 hu3
      go_wp2_with (first | (refine wpList_buildEvt rfl _ rfl _ _ _ _ _ _ _ _ _ _ _ _ _ _ _ rfl HV3.out ?_) | (at_builtin; refine wpList_append_own _ rfl _ _ 43 rfl w1.heap.size 40 i15 (.agg #[.int .i64 0, .int .u64 0, .int .i64 0, .int .u64 0, .string ⟨#[]⟩, .slice none 0 0, .slice none 0 0, .slice none 0 0, .int .i64 0, .int .i64 0, .int .i64 0, .int .i64 0, .slice none 0 0, .int .i64 0, .int .i64 0]) 15 192 Try.underlying43 hi15 hz150 hz151 hz152 rfl (by decide) _ k (flatE E) rfl HO3.out ⟨w2.heap.size, 0, none⟩ 1 1 [.int .i64 x.kind, .int .u64 x.rev, .int .i64 x.uid, .int .u64 0, .string ⟨#[]⟩, .slice none 0 0, .slice none 0 0, .slice none 0 0, .int .i64 0, .int .i64 0, .int .i64 0, .int .i64 0, .slice CR x.zs.length cr, .int .i64 0, .int .i64 0] rfl rfl SRC.out (vals_one ⟨x.kind, x.uid, x.rev, CR, cr, x.zs⟩) hB63 hBby hbs ?_))
      intro v' w3 hown hgrow hnil
      obtain ⟨A3, c3, rfl⟩ := own_form hown
      have hrow : ∀ q, (Value.slice A' k c').ownBlock = some q → w1.heap.size ≤ q := fun q hq => (owns_lt HO.out hq).1
      have hb1s := B1.out.size
      have HOn := Lib.hid (show w3.ownsRow w1.heap.size 40 15 (.slice A3 (k + 1) c3) (k + 1) (flatE (E ++ [⟨x.kind, x.uid, x.rev, CR, cr, x.zs⟩])) by rw [flatE_cat]; exact hown)
      have HEn := Lib.hid (show (E ++ [(⟨x.kind, x.uid, x.rev, CR, cr, x.zs⟩ : Evt)]).map Evt.rev = ((L.map Evt.rev).drop k0).take (k + 1) by
        rw [List.map_append, HE.out]
        have e : ((L.map Evt.rev).drop k0)[k]? = some x.rev := by rw [List.getElem?_drop, List.getElem?_map, HX.out]; rfl
        rw [List.take_add_one, e]; rfl)
      have HBn := Lib.hid (show Below w.heap.size w w3 from ((HB.out.trans (B3.out.mono HB.out.size))).grown hgrow (Nat.le_trans hb1s hbs) (fun q hq => Nat.le_trans hb1s (hrow q hq)))
      have HBBn := Lib.hid (show Below w1.heap.size w1 w3 from by
        have hk := HBB.out.trans (B3.out.mono HBB.out.size)
        refine ⟨hgrow.os.trans hk.os, hgrow.tape.trans hk.tape, hgrow.output.trans hk.output, Nat.le_trans hk.size hgrow.size, fun i hi => (hgrow.block i (Nat.lt_of_lt_of_le hi hk.size) (fun e => ?_)).trans (hk.block i hi)⟩
        exact absurd (hrow i e.symm) (by omega))
      clear hown hgrow hnil hrow
      go_wp2_with fail
      go_roundw
      case rel => exact ⟨A3, c3, k + 1, _, by go_num, by go_num, by omega, HOn.out, HEn.out, HBn.out, HBBn.out⟩
      case measure => simp [RowKit.intOf]; omega
    · have hkq' : k = q := by omega
      subst hkq'
      go_wp2_with fail
      go_ret2
      exact ⟨A', c', E, rfl, own_base HO.out B1.out.size, HE.out, HB.out⟩
end Eg
end Go.Proofs.Ytldhlilcfadieaa
