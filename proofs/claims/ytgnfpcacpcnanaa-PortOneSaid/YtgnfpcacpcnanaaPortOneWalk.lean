/-
  PortOne: what an owner took it holds until it is freed, whatever the others do, and all ports are held, each once. No condition.
-/
import Derived.Test.YtgnfpcacpcnanaaPtWorks
import Derived.Test.YtgnfpcacpcnanaaPtHeld
import Derived.Test.YtgnfpcacpcnanaaPtActs
set_option linter.unusedVariables false
set_option linter.unusedSimpArgs false
namespace Go.Proofs.Ytgnfpcacpcnanaa
open Go.ChangeShapes Go.WideShapes Go.ChangeAt Go.RowKit Go.Lib
open Lists
namespace PortOneWalk
open Pt

theorem held_perm {a b : Tab} (h : a.Perm b) (o : Int) : (heldL a o).Perm (heldL b o) := (h.filter _).map _
theorem held_lay (o ow : Int) (ps : List Int) (l : Tab) : (heldL (layL o ps l) ow).Perm ((if o = ow then ps else []) ++ heldL l ow) := by
  refine (held_perm (lay_perm o ps l) ow).trans ?_
  unfold heldL
  rw [List.filter_append, List.map_append]
  have e : (List.filter (fun x : Int × Int => decide (x.2 = ow)) (ps.map fun p => (p, o))).map Prod.fst = if o = ow then ps else [] := by
    split
    · rename_i h
      rw [List.filter_eq_self.2 (by intro x hx; obtain ⟨p, _, rfl⟩ := List.mem_map.1 hx; simpa using h), List.map_map]
      exact (List.map_congr_left (fun _ _ => rfl)).trans (List.map_id ps)
    · rename_i h
      rw [List.filter_eq_nil_iff.2 (by intro x hx; obtain ⟨p, _, rfl⟩ := List.mem_map.1 hx; simpa using h)]
      rfl
  rw [e]
theorem take_zero {l : Tab} {o : Int} {ps : List Int} (h : takeC l o ps = 0) : (takeL l o ps).length = l.length + ps.length ∧ ∀ ow, (heldL (takeL l o ps) ow).Perm ((if o = ow then ps else []) ++ heldL l ow) := by
  unfold takeC at h
  unfold takeL
  split at h
  · rename_i hf
    rw [if_pos hf]
    cases hr : refL o ps l with
    | none => rw [hr] at h; cases h
    | some r =>
      have ho : 1 ≤ o := by unfold fineB at hf; simp at hf; exact hf.1
      have h1 := refL_free (o := o) (refL_some ho hr)
      rw [hr] at h1
      injection h1 with h1
      subst h1
      exact ⟨lay_length o ps l, fun ow => held_lay o ow ps l⟩
  · cases h
theorem take_nonzero {l : Tab} {o : Int} {ps : List Int} (h : takeC l o ps ≠ 0) : takeL l o ps = l := by
  unfold takeC at h
  unfold takeL
  split
  · rename_i hf
    rw [if_pos hf] at h
    cases hr : refL o ps l with
    | none => rfl
    | some r => rw [hr] at h; exact absurd rfl h
  · rfl
theorem held_free (l : Tab) (o ow : Int) : heldL (freeL l o) ow = if o = ow then [] else heldL l ow := by
  unfold heldL freeL
  rw [List.filter_filter]
  split
  · rename_i h
    subst h
    rw [List.filter_eq_nil_iff.2 (by intro x _; simp)]
    rfl
  · rename_i h
    congr 1
    apply List.filter_congr
    intro x _
    by_cases hx : x.2 = ow
    · simp [hx]; intro e; exact h e.symm
    · simp [hx]
theorem held_own {l : Tab} (h : Ok l) {o p : Int} (hp : p ∈ heldL l o) : ownerL l p = o ∧ inR p = true ∧ 1 ≤ o := by
  unfold heldL at hp
  obtain ⟨x, hx, rfl⟩ := List.mem_map.1 hp
  obtain ⟨hx, ho⟩ := List.mem_filter.1 hx
  have ho : x.2 = o := by simpa using ho
  obtain ⟨h1, h2, h3, h4⟩ := h.one x hx
  refine ⟨by rw [owner_some h hx, ho], ?_, by omega⟩
  unfold inR
  exact decide_eq_true ⟨h1, h2⟩
/-- who would take it is refused, and nothing is changed -/
theorem take_held {l : Tab} (h : Ok l) {o p : Int} (hp : p ∈ heldL l o) : takeC l 9 [p] = 150 ∧ takeL l 9 [p] = l := by
  obtain ⟨h1, h2, h3⟩ := held_own h hp
  have hf : fineB 9 [p] = true := by unfold fineB; simp [h2]
  have hr : refL 9 [p] l = none := by unfold refL; rw [if_neg (by omega)]
  unfold takeC takeL
  rw [if_pos hf, if_pos hf, hr]
  exact ⟨rfl, rfl⟩
/-- the table, the row of the owner's ports, and what was there -/
structure So (w : World) (g : Nat) (wr : World) (L : Tab) (Am : Option Addr) (cm nm : Nat) (mine : List Int) (ow : Int) : Prop where
  hg : w.heap.size ≤ g
  tb : Tb w.heap.size wr g L
  row : wr.ownsRow w.heap.size 3 1 (.slice Am nm cm) nm (mine.map (Value.int .i64))
  ok : Ok L
  len : mine.length = nm
  perm : mine.Perm (heldL L ow)
  bel : Below w.heap.size w wr
theorem So.below {w wr w' : World} {g : Nat} {L : Tab} {Am : Option Addr} {cm nm : Nat} {mine : List Int} {ow : Int} (h : So w g wr L Am cm nm mine ow) (hb : Below wr.heap.size wr w') : So w g w' L Am cm nm mine ow :=
  ⟨h.hg, h.tb.below hb, owns_below h.row hb, h.ok, h.len, h.perm, h.bel.trans (hb.mono h.bel.size)⟩
theorem So.step {w wr w' : World} {g : Nat} {L L' : Tab} {Am : Option Addr} {cm nm : Nat} {mine : List Int} {ow : Int} (h : So w g wr L Am cm nm mine ow) (ht : Tb w.heap.size w' g L') (hk : Kt w.heap.size g wr w') (ho : Ok L') (hp : mine.Perm (heldL L' ow)) : So w g w' L' Am cm nm mine ow :=
  ⟨h.hg, ht, owns_kt h.row hk h.tb (by decide) (by decide), ho, h.len, hp, h.bel.trans (hk.below h.bel.size h.hg)⟩
theorem So.count {w wr : World} {g : Nat} {L : Tab} {Am : Option Addr} {cm nm : Nat} {mine : List Int} {ow : Int} (h : So w g wr L Am cm nm mine ow) : (heldL L ow).length = nm := by rw [← h.perm.length_eq, h.len]
/-- the row has grown -/
theorem So.app {w wr w' : World} {g : Nat} {L : Tab} {Am A2 : Option Addr} {cm nm c2 n2 : Nat} {mine mine2 : List Int} {ow : Int} (ht : Tb w.heap.size wr g L) (hg0 : w.heap.size ≤ g) (hrow : wr.ownsRow w.heap.size 3 1 (.slice Am nm cm) nm (mine.map (Value.int .i64))) (hok : Ok L) (hbel : Below w.heap.size w wr)
    (hown : w'.ownsRow w.heap.size 3 1 (.slice A2 n2 c2) n2 (mine2.map (Value.int .i64))) (hg : wr.grownBy w' (Value.slice Am nm cm).ownBlock) (hl : mine2.length = n2) (hp : mine2.Perm (heldL L ow)) : So w g w' L A2 c2 n2 mine2 ow := by
  have ne : ∀ {k : Nat} {cur : Array Value} {t : TypeId}, wr.heap[k]? = some (.cells cur t (0, 0)) → t ≠ 3 → some k ≠ (Value.slice Am nm cm).ownBlock := fun hk ht e => by
    obtain ⟨_, cur', hc⟩ := owns_at hrow e.symm
    rw [hk] at hc
    injection hc with hc
    injection hc with _ hc _
    exact ht hc
  obtain ⟨A, c, ht⟩ := ht
  refine ⟨hg0, ⟨A, c, ht.keep fun k hk hx => ?_⟩, hown, hok, hl, hp, hbel.grown hg hbel.size (fun k hk => (owns_at hrow hk).1)⟩
  refine hg.block k hk ?_
  rcases hx with rfl | ⟨cur, hc⟩
  · exact ne ht.box (by decide)
  · exact ne hc (by decide)
/-- an act's box is kept -/
theorem act_kept {B g b : Nat} {u w3 : World} {V : Array Value} {L : Tab} (hb : u.heap[b]? = some (.cells V 28 (0, 0))) (hk : Kt B g u w3) (ht : Tb B u g L) : w3.heap[b]? = some (.cells V 28 (0, 0)) := by
  obtain ⟨_, _, ht⟩ := ht
  refine (hk.block b (lt_of_block hb) ?_ (.inr ?_)).trans hb
  · rintro rfl
    have h := ht.box
    rw [hb] at h
    injection h with h
    injection h with _ h _
    exact absurd h (by decide)
  · rintro ⟨cur, hc⟩
    rw [hb] at hc
    injection hc with hc
    injection hc with _ hc _
    exact absurd hc (by decide)
theorem act_app {b B n : Nat} {w3 w4 : World} {V : Array Value} {v : Value} {xs : List Value} (hb : w3.heap[b]? = some (.cells V 28 (0, 0))) (hr : w3.ownsRow B 3 1 v n xs) (hg : w3.grownBy w4 v.ownBlock) : w4.heap[b]? = some (.cells V 28 (0, 0)) := by
  refine (hg.block b (lt_of_block hb) fun e => ?_).trans hb
  obtain ⟨_, cur, hc⟩ := owns_at hr e.symm
  rw [hb] at hc
  injection hc with hc
  injection hc with _ hc _
  exact absurd hc (by decide)
theorem nums_src {w : World} {P : Option Addr} {ps : List Int} {c n : Nat} (h : Nums .i64 w P ps) (hn : ps.length = n) (hc : P = none → c = 0) : (P = none ∧ n = 0 ∧ c = 0) ∨ ∃ ad, P = some ad ∧ ∀ j u, (ps.map (Value.int .i64))[j]? = some u → w.cell? (ad.add j) = some u := by
  cases P with
  | none =>
    refine .inl ⟨rfl, ?_, hc rfl⟩
    cases ps with
    | nil => exact hn.symm
    | cons p ps => obtain ⟨_, a, ha, _⟩ := h 0 p rfl; cases ha
  | some a =>
    refine .inr ⟨a, rfl, fun j u hu => ?_⟩
    rw [List.getElem?_map] at hu
    obtain ⟨p, hp, rfl⟩ := Option.map_eq_some_iff.1 hu
    obtain ⟨_, a', ha, _, hcell⟩ := h j p hp
    injection ha with ha
    subst ha
    exact hcell

set_option maxRecDepth 100000 in
set_option maxHeartbeats 8000000 in
theorem walk (A : Option Addr) (c : Nat) (l : List Ac) (hlen : l.length ≤ 9223372036854775807) (ow : Int) (w : World) (hA : Acts w A l) :
    Calls Try.prog 4 #[.slice A l.length c, .int .i64 ow] w fun e w' => e = .returned (.bool true) ∧ Below w.heap.size w w' := by
  have HA := Lib.hid hA
  have HLE := Lib.hid hlen
  obtain ⟨K, hK1, hK2, hK3⟩ : ∃ K, K ≤ l.length ∧ K ≤ 40 ∧ (K = l.length ∨ (K = 40 ∧ K < l.length)) := by
    by_cases h : l.length ≤ 40
    · exact ⟨l.length, by omega, h, .inl rfl⟩
    · exact ⟨40, by omega, by omega, .inr ⟨rfl, by omega⟩⟩
  have HK := Lib.hid hK3
  obtain ⟨i8, hi8, hz80, hz81, hz82⟩ := info_parts info_in
  clear hA hlen hK3
  have hlen' : (l.length : Int) ≤ 9223372036854775807 := by have := HLE.out; omega
  go_enter Try.func4, Try.ntmps4
  go_wp2_with (first
    | (go_at_call 6; refine (works_any w).mono ?_; rintro e w0 ⟨rfl, hb⟩; have HB0 := Lib.hid hb; clear hb)
    | (go_at_call 5; refine (new_any w0).mono ?_; rintro e w1 ⟨rfl, ht, hb⟩; have HS0 := Lib.hid (show So w w0.heap.size w1 [] none 0 0 [] ow from ⟨HB0.out.size, ht _ HB0.out.size, World.ownsRow_nil _ _ _ _, Ok.nil, rfl, List.Perm.refl _, HB0.out.trans (hb.mono HB0.out.size)⟩); clear ht hb))
  obtain ⟨g, hg⟩ : ∃ g, w0.heap.size = g := ⟨_, rfl⟩
  rw [hg] at HS0 ⊢
  clear hg
  go_loopw [6, 7, 8] (fun s n i wr => ∃ (k : Nat) (Am : Option Addr) (cm nm m : Nat) (L : Tab) (mine : List Int), k ≤ K ∧ s = .slice Am nm cm ∧ n = .int .i64 (m : Int) ∧ i = .int .i64 k ∧ m ≤ 800 ∧ nm ≤ 800 ∧ Hid (m ≤ 20 * k) ∧ Hid (nm ≤ 20 * k) ∧ Hid (L.length = m) ∧ Hid (So w g wr L Am cm nm mine ow)) (fun _ _ i _ => K - (RowKit.intOf i).toNat)
  case atStart => exact ⟨0, none, 0, 0, 0, [], [], Nat.zero_le _, rfl, rfl, rfl, Nat.zero_le _, Nat.zero_le _, Nat.zero_le _, Nat.zero_le _, rfl, HS0.out⟩
  case round =>
    obtain ⟨k, Am, cm, nm, m, L, mine, hk, rfl, rfl, rfl, hm, hnm, HMK, HNK, HLM, HS⟩ := hrel
    have hm' : (m : Int) ≤ 800 := by omega
    have hnm' : (nm : Int) ≤ 800 := by omega
    by_cases hkK : k < K
    · obtain ⟨x, hx⟩ : ∃ x, l[k]? = some x := ⟨_, List.getElem?_eq_getElem (by omega)⟩
      have HN0 := Lib.hid ((HA.out k x hx).1.nums)
      obtain ⟨hin, a, rfl, ha, d0, d1, d2⟩ := (HA.out.below HS.out.bel) k x hx
      have hkl : (k : Int) < (l.length : Int) := by omega
      have hk40 : (k : Int) < 40 := by omega
      obtain ⟨u, hu⟩ : ∃ u, wr.alloc (.cells #[.int .i64 x.kind, .int .i64 x.own, .slice x.P x.ps.length x.c] 28) = u := ⟨_, rfl⟩
      have hBu : Below wr.heap.size wr u := by rw [← hu]; exact (Below.refl _ _).alloc (Nat.le_refl _) _
      have hbx : u.heap[wr.heap.size]? = some (.cells #[.int .i64 x.kind, .int .i64 x.own, .slice x.P x.ps.length x.c] 28 (0, 0)) := by rw [← hu]; exact heap_alloc_new wr _
      have HU := Lib.hid hu
      have HBX := Lib.hid hbx
      have HSU := Lib.hid (HS.out.below hBu)
      have HBU := Lib.hid hBu
      have HIN := Lib.hid hin
      have HNU := Lib.hid (nums_below hin.nums hBu)
      have hpl := hin.len
      have hpl' : (x.ps.length : Int) ≤ 9223372036854775807 := by omega
      clear hu hbx hBu hin hx
      by_cases hbig : 20 < x.ps.length
      · have hb' : (20 : Int) < (x.ps.length : Int) := by omega
        obtain ⟨n, hn⟩ : ∃ n, x.ps.length = n := ⟨_, rfl⟩
        rw [hn] at d2 hb' hpl' HU HBX
        clear hn
        go_wp2_with fail
        go_ret
        exact ⟨rfl, by rw [HU.out]; exact HSU.out.bel⟩
      · have hb' : (x.ps.length : Int) ≤ 20 := by omega
        have hbn : x.ps.length ≤ 20 := by omega
        obtain ⟨n, hn⟩ : ∃ n, x.ps.length = n := ⟨_, rfl⟩
        have HN := Lib.hid hn
        by_cases hkind : x.kind = 0
        · have hk0 : (x.kind == 0) = true := by simpa using hkind
          have hk1 : (x.kind != 0) = false := by simpa using hkind
          clear hkind
          have hT := take_any x.own x.ps x.P x.c u HSU.out.tb HSU.out.ok HIN.out.own.2 HNU.out (by have := HLM.out; omega)
          have HOK2 := Lib.hid (take_ok HSU.out.ok HIN.out.own.2 x.ps)
          have HZ := Lib.hid (take_zero (l := L) (o := x.own) (ps := x.ps))
          have HZ2 := Lib.hid (take_nonzero (l := L) (o := x.own) (ps := x.ps))
          generalize takeC L x.own x.ps = cd at hT HZ HZ2
          generalize takeL L x.own x.ps = L' at hT HOK2 HZ HZ2
          rw [hn] at d2 hb' hbn hpl' HU HBX hT
          clear hn hpl
          by_cases hcd : cd = 0
          · obtain ⟨z1, z2⟩ := HZ.out hcd
            have HM2 := Lib.hid (show L'.length = m + n by rw [z1, HLM.out, HN.out])
            have HP := Lib.hid z2
            have hcd' : ((cd : Int) == 0) = true := by simpa using hcd
            clear z1 z2 hcd HZ HZ2
            by_cases hox : x.own = ow
            · have hox' : (x.own == ow) = true := by simpa using hox
              have HMP := Lib.hid (show (mine ++ x.ps).Perm (heldL L' ow) by
                have h1 := HP.out ow
                rw [if_pos hox] at h1
                refine List.Perm.trans ?_ h1.symm
                exact List.perm_append_comm.trans (HS.out.perm.append_left _))
              have HML := Lib.hid (show (mine ++ x.ps).length = nm + n by rw [List.length_append, HS.out.len, HN.out])
              clear hox
              have HKT := Lib.hid (HSU.out.row)
              go_wp2_with (first
                | (go_at_call 8; rw [HU.out]; refine hT.mono ?_; clear hT; rintro e w3 ⟨rfl, ht3, hk3⟩; have hb3 := act_kept HBX.out hk3 HSU.out.tb; have e0 := box_cell hb3 0 rfl; have e1 := box_cell hb3 1 rfl; have e2 := box_cell hb3 2 rfl; have hr3 := owns_kt HSU.out.row hk3 HSU.out.tb (by decide) (by decide); have hbe3 := HSU.out.bel.trans (hk3.below HSU.out.bel.size HSU.out.hg); have hn3 := nums_src (nums_below HN0.out hbe3) HN.out HIN.out.nil; have HR3 := Lib.hid hr3; have HBE3 := Lib.hid hbe3; have HT3 := Lib.hid ht3; have HN3 := Lib.hid hn3; have HBX3 := Lib.hid hb3; have hw3 : w.heap.size ≤ w3.heap.size := hbe3.size; clear hb3 hr3 hbe3 ht3 hk3 hn3)
                | (at_builtin; refine AppendAny.wpList_append_want (by simp [Region.wanted]) _ _ 26 rfl w.heap.size 3 i8 (.int .i64 0) 1 8 Try.underlying26 hi8 hz80 hz81 hz82 rfl (by decide) (.slice Am nm cm) nm _ rfl HR3.out x.P n x.c (x.ps.map (Value.int .i64)) rfl (by rw [List.length_map, HN.out]; omega) HN3.out (by intro v hv; obtain ⟨p, _, rfl⟩ := List.mem_map.1 hv; rfl) (by unfold maxLen; omega) (by omega) hw3 ?_; intro v' w4 hown hgr; obtain ⟨A3, c3, rfl⟩ := own_form hown; have HS4 := Lib.hid (So.app (ow := ow) (mine2 := mine ++ x.ps) HT3.out HSU.out.hg HR3.out HOK2.out HBE3.out (by rw [List.map_append]; exact hown) hgr HML.out HMP.out); have hb4 := act_app HBX3.out HR3.out hgr; have e0' := box_cell hb4 0 rfl; have e1' := box_cell hb4 1 rfl; have e2' := box_cell hb4 2 rfl; clear hown hgr hb4)
                | (go_at_call 11; refine (len_any w4 HS4.out.tb).mono ?_; rintro e w5 ⟨rfl, hw5⟩; obtain rfl := hw5.symm; clear hw5; rw [HM2.out])
                | (go_at_call 14; refine (show Calls Try.prog 14 #[.pointer (some ⟨g, 0, none⟩), .int .i64 ow] w4 _ by have := (callsIn_wide (n := 5)).1 (held_in ow w4 HS4.out.tb (by rw [HM2.out]; omega)); rw [HS4.out.count] at this; exact this).mono ?_; rintro e w6 ⟨A6, c6, rfl, _, hbb⟩; have HS6 := Lib.hid (HS4.out.below hbb); clear hbb))
              obtain ⟨wz, hwz⟩ : ∃ v, v = w6 := ⟨_, rfl⟩
              subst hwz
              go_loopw [10] (fun jv wi => ∃ j : Nat, j ≤ nm + n ∧ jv = .int .i64 j ∧ Hid (So w g wi L' A3 c3 (nm + n) (mine ++ x.ps) ow)) (fun jv _ => (nm + n) - (RowKit.intOf jv).toNat)
              case atStart => exact ⟨0, Nat.zero_le _, rfl, HS6.out⟩
              case round =>
                obtain ⟨j, hj, rfl, HSI⟩ := hrel
                by_cases hjn : j < nm + n
                · obtain ⟨p, hp⟩ : ∃ p, (mine ++ x.ps)[j]? = some p := ⟨_, List.getElem?_eq_getElem (by have := HSI.out.len; omega)⟩
                  obtain ⟨r, er, hr, k1⟩ := ints_at HSI.out.row hp HSI.out.len
                  have hmem : p ∈ heldL L' ow := HSI.out.perm.subset (List.mem_of_getElem? hp)
                  obtain ⟨q1, q2, q3⟩ := held_own HSI.out.ok hmem
                  obtain ⟨q4, q5⟩ := take_held HSI.out.ok hmem
                  have hjn' : (j : Int) < (nm : Int) + (n : Int) := by omega
                  have how := owner_any p _ HSI.out.tb HSI.out.ok (by rw [HM2.out]; omega)
                  rw [q1] at how
                  have hpw : (Lit.int .i64 p).wf = true := by
                    have := of_decide_eq_true q2
                    simp [Lit.wf, IntKind.min, IntKind.max, IntKind.signed, IntKind.bits]; omega
                  have HNT := Lib.hid (show ∀ v, Below wr.heap.size wr v → Calls Try.prog 8 #[.pointer (some ⟨g, 0, none⟩), .int .i64 9, .slice (some ⟨v.heap.size, 0, none⟩) 1 1] (v.alloc (.cells #[.int .i64 p] 3)) fun e w' => e = .returned (.int .i64 150) ∧ So w g w' L' A3 c3 (nm + n) (mine ++ x.ps) ow from fun v hv => by
                    have hva : Below v.heap.size v (v.alloc (.cells #[.int .i64 p] 3)) := (Below.refl _ _).alloc (Nat.le_refl _) _
                    have h1 : Calls Try.prog 8 #[.pointer (some ⟨g, 0, none⟩), .int .i64 9, .slice (some ⟨v.heap.size, 0, none⟩) 1 1] (v.alloc (.cells #[.int .i64 p] 3)) _ := take_any 9 [p] (some ⟨v.heap.size, 0, none⟩) 1 _ ((HSI.out.below hv).below hva).tb HSI.out.ok (by omega) (nums_one hpw (heap_alloc_new v _)) (by rw [HM2.out]; simp only [List.length_cons, List.length_nil]; omega)
                    refine h1.mono ?_
                    rintro e w' ⟨rfl, h2, h3⟩
                    rw [q5] at h2
                    exact ⟨by rw [q4]; rfl, ((HSI.out.below hv).below hva).step h2 h3 HSI.out.ok HSI.out.perm⟩)
                  subst er
                  clear hp hmem q1 q2 q3 q4 q5 hpw
                  go_wp2_with (first
                    | (go_at_call 12; refine how.mono ?_; clear how; rintro e w7 ⟨rfl, hbb⟩; have k1' := (hbb.cell (p := ⟨r, j, none⟩) hr).trans k1; have hnt := HNT.out w7 hbb; clear hbb)
                    | (go_at_call 8; refine hnt.mono ?_; clear hnt; rintro e w8 ⟨rfl, hs8⟩; have HS8 := Lib.hid hs8; clear hs8))
                  go_roundw
                  case rel => exact ⟨j + 1, by omega, by simp, HS8.out⟩
                  case measure => simp [RowKit.intOf]; omega
                · have hjn' : ¬ (j : Int) < (nm : Int) + (n : Int) := by omega
                  go_wp2
                  go_roundw
                  case rel => exact ⟨k + 1, _, _, nm + n, m + n, L', mine ++ x.ps, by omega, rfl, by simp, by simp, by have := HMK.out; omega, by have := HNK.out; omega, by have := HMK.out; unfold Hid; omega, by have := HNK.out; unfold Hid; omega, HM2.out, HSI.out⟩
                  case measure => simp [RowKit.intOf]; omega
            · have hox' : (x.own == ow) = false := by simpa using hox
              have HMP := Lib.hid (show mine.Perm (heldL L' ow) by
                have h1 := HP.out ow
                rw [if_neg hox, List.nil_append] at h1
                exact HS.out.perm.trans h1.symm)
              clear hox
              go_wp2_with (first
                | (go_at_call 8; rw [HU.out]; refine hT.mono ?_; clear hT; rintro e w4 ⟨rfl, ht3, hk3⟩; have hb3 := act_kept HBX.out hk3 HSU.out.tb; have e0 := box_cell hb3 0 rfl; have e1 := box_cell hb3 1 rfl; have e2 := box_cell hb3 2 rfl; have HS4 := Lib.hid (HSU.out.step ht3 hk3 HOK2.out HMP.out); clear hb3 ht3 hk3)
                | (go_at_call 11; refine (len_any w4 HS4.out.tb).mono ?_; rintro e w5 ⟨rfl, hw5⟩; obtain rfl := hw5.symm; clear hw5; rw [HM2.out])
                | (go_at_call 14; refine (show Calls Try.prog 14 #[.pointer (some ⟨g, 0, none⟩), .int .i64 ow] w4 _ by have := (callsIn_wide (n := 5)).1 (held_in ow w4 HS4.out.tb (by rw [HM2.out]; omega)); rw [HS4.out.count] at this; exact this).mono ?_; rintro e w6 ⟨A6, c6, rfl, _, hbb⟩; have HS6 := Lib.hid (HS4.out.below hbb); clear hbb))
              obtain ⟨wz, hwz⟩ : ∃ v, v = w6 := ⟨_, rfl⟩
              subst hwz
              go_loopw [10] (fun jv wi => ∃ j : Nat, j ≤ nm ∧ jv = .int .i64 j ∧ Hid (So w g wi L' Am cm (nm) (mine) ow)) (fun jv _ => (nm) - (RowKit.intOf jv).toNat)
              case atStart => exact ⟨0, Nat.zero_le _, rfl, HS6.out⟩
              case round =>
                obtain ⟨j, hj, rfl, HSI⟩ := hrel
                by_cases hjn : j < nm
                · obtain ⟨p, hp⟩ : ∃ p, (mine)[j]? = some p := ⟨_, List.getElem?_eq_getElem (by have := HSI.out.len; omega)⟩
                  obtain ⟨r, er, hr, k1⟩ := ints_at HSI.out.row hp HSI.out.len
                  have hmem : p ∈ heldL L' ow := HSI.out.perm.subset (List.mem_of_getElem? hp)
                  obtain ⟨q1, q2, q3⟩ := held_own HSI.out.ok hmem
                  obtain ⟨q4, q5⟩ := take_held HSI.out.ok hmem
                  have hjn' : (j : Int) < (nm : Int) := by omega
                  have how := owner_any p _ HSI.out.tb HSI.out.ok (by rw [HM2.out]; omega)
                  rw [q1] at how
                  have hpw : (Lit.int .i64 p).wf = true := by
                    have := of_decide_eq_true q2
                    simp [Lit.wf, IntKind.min, IntKind.max, IntKind.signed, IntKind.bits]; omega
                  have HNT := Lib.hid (show ∀ v, Below wr.heap.size wr v → Calls Try.prog 8 #[.pointer (some ⟨g, 0, none⟩), .int .i64 9, .slice (some ⟨v.heap.size, 0, none⟩) 1 1] (v.alloc (.cells #[.int .i64 p] 3)) fun e w' => e = .returned (.int .i64 150) ∧ So w g w' L' Am cm (nm) (mine) ow from fun v hv => by
                    have hva : Below v.heap.size v (v.alloc (.cells #[.int .i64 p] 3)) := (Below.refl _ _).alloc (Nat.le_refl _) _
                    have h1 : Calls Try.prog 8 #[.pointer (some ⟨g, 0, none⟩), .int .i64 9, .slice (some ⟨v.heap.size, 0, none⟩) 1 1] (v.alloc (.cells #[.int .i64 p] 3)) _ := take_any 9 [p] (some ⟨v.heap.size, 0, none⟩) 1 _ ((HSI.out.below hv).below hva).tb HSI.out.ok (by omega) (nums_one hpw (heap_alloc_new v _)) (by rw [HM2.out]; simp only [List.length_cons, List.length_nil]; omega)
                    refine h1.mono ?_
                    rintro e w' ⟨rfl, h2, h3⟩
                    rw [q5] at h2
                    exact ⟨by rw [q4]; rfl, ((HSI.out.below hv).below hva).step h2 h3 HSI.out.ok HSI.out.perm⟩)
                  subst er
                  clear hp hmem q1 q2 q3 q4 q5 hpw
                  go_wp2_with (first
                    | (go_at_call 12; refine how.mono ?_; clear how; rintro e w7 ⟨rfl, hbb⟩; have k1' := (hbb.cell (p := ⟨r, j, none⟩) hr).trans k1; have hnt := HNT.out w7 hbb; clear hbb)
                    | (go_at_call 8; refine hnt.mono ?_; clear hnt; rintro e w8 ⟨rfl, hs8⟩; have HS8 := Lib.hid hs8; clear hs8))
                  go_roundw
                  case rel => exact ⟨j + 1, by omega, by simp, HS8.out⟩
                  case measure => simp [RowKit.intOf]; omega
                · have hjn' : ¬ (j : Int) < (nm : Int) := by omega
                  go_wp2
                  go_roundw
                  case rel => exact ⟨k + 1, _, _, nm, m + n, L', mine, by omega, rfl, by simp, by simp, by have := HMK.out; omega, by have := HNK.out; omega, by have := HMK.out; unfold Hid; omega, by have := HNK.out; unfold Hid; omega, HM2.out, HSI.out⟩
                  case measure => simp [RowKit.intOf]; omega
          · have hL := HZ2.out hcd
            have hcd' : ((cd : Int) == 0) = false := by rw [beq_eq_false_iff_ne]; omega
            subst hL
            clear hcd HZ HZ2
            go_wp2_with (first
              | (go_at_call 8; rw [HU.out]; refine hT.mono ?_; clear hT; rintro e w4 ⟨rfl, ht3, hk3⟩; have hb3 := act_kept HBX.out hk3 HSU.out.tb; have e0 := box_cell hb3 0 rfl; have e1 := box_cell hb3 1 rfl; have e2 := box_cell hb3 2 rfl; have HS4 := Lib.hid (HSU.out.step ht3 hk3 HSU.out.ok HSU.out.perm); clear hb3 ht3 hk3)
                | (go_at_call 11; refine (len_any w4 HS4.out.tb).mono ?_; rintro e w5 ⟨rfl, hw5⟩; obtain rfl := hw5.symm; clear hw5; rw [HLM.out])
                | (go_at_call 14; refine (show Calls Try.prog 14 #[.pointer (some ⟨g, 0, none⟩), .int .i64 ow] w4 _ by have := (callsIn_wide (n := 5)).1 (held_in ow w4 HS4.out.tb (by rw [HLM.out]; omega)); rw [HS4.out.count] at this; exact this).mono ?_; rintro e w6 ⟨A6, c6, rfl, _, hbb⟩; have HS6 := Lib.hid (HS4.out.below hbb); clear hbb))
            obtain ⟨wz, hwz⟩ : ∃ v, v = w6 := ⟨_, rfl⟩
            subst hwz
            go_loopw [10] (fun jv wi => ∃ j : Nat, j ≤ nm ∧ jv = .int .i64 j ∧ Hid (So w g wi L' Am cm (nm) (mine) ow)) (fun jv _ => (nm) - (RowKit.intOf jv).toNat)
            case atStart => exact ⟨0, Nat.zero_le _, rfl, HS6.out⟩
            case round =>
              obtain ⟨j, hj, rfl, HSI⟩ := hrel
              by_cases hjn : j < nm
              · obtain ⟨p, hp⟩ : ∃ p, (mine)[j]? = some p := ⟨_, List.getElem?_eq_getElem (by have := HSI.out.len; omega)⟩
                obtain ⟨r, er, hr, k1⟩ := ints_at HSI.out.row hp HSI.out.len
                have hmem : p ∈ heldL L' ow := HSI.out.perm.subset (List.mem_of_getElem? hp)
                obtain ⟨q1, q2, q3⟩ := held_own HSI.out.ok hmem
                obtain ⟨q4, q5⟩ := take_held HSI.out.ok hmem
                have hjn' : (j : Int) < (nm : Int) := by omega
                have how := owner_any p _ HSI.out.tb HSI.out.ok (by rw [HLM.out]; omega)
                rw [q1] at how
                have hpw : (Lit.int .i64 p).wf = true := by
                  have := of_decide_eq_true q2
                  simp [Lit.wf, IntKind.min, IntKind.max, IntKind.signed, IntKind.bits]; omega
                have HNT := Lib.hid (show ∀ v, Below wr.heap.size wr v → Calls Try.prog 8 #[.pointer (some ⟨g, 0, none⟩), .int .i64 9, .slice (some ⟨v.heap.size, 0, none⟩) 1 1] (v.alloc (.cells #[.int .i64 p] 3)) fun e w' => e = .returned (.int .i64 150) ∧ So w g w' L' Am cm (nm) (mine) ow from fun v hv => by
                  have hva : Below v.heap.size v (v.alloc (.cells #[.int .i64 p] 3)) := (Below.refl _ _).alloc (Nat.le_refl _) _
                  have h1 : Calls Try.prog 8 #[.pointer (some ⟨g, 0, none⟩), .int .i64 9, .slice (some ⟨v.heap.size, 0, none⟩) 1 1] (v.alloc (.cells #[.int .i64 p] 3)) _ := take_any 9 [p] (some ⟨v.heap.size, 0, none⟩) 1 _ ((HSI.out.below hv).below hva).tb HSI.out.ok (by omega) (nums_one hpw (heap_alloc_new v _)) (by rw [HLM.out]; simp only [List.length_cons, List.length_nil]; omega)
                  refine h1.mono ?_
                  rintro e w' ⟨rfl, h2, h3⟩
                  rw [q5] at h2
                  exact ⟨by rw [q4]; rfl, ((HSI.out.below hv).below hva).step h2 h3 HSI.out.ok HSI.out.perm⟩)
                subst er
                clear hp hmem q1 q2 q3 q4 q5 hpw
                go_wp2_with (first
                  | (go_at_call 12; refine how.mono ?_; clear how; rintro e w7 ⟨rfl, hbb⟩; have k1' := (hbb.cell (p := ⟨r, j, none⟩) hr).trans k1; have hnt := HNT.out w7 hbb; clear hbb)
                  | (go_at_call 8; refine hnt.mono ?_; clear hnt; rintro e w8 ⟨rfl, hs8⟩; have HS8 := Lib.hid hs8; clear hs8))
                go_roundw
                case rel => exact ⟨j + 1, by omega, by simp, HS8.out⟩
                case measure => simp [RowKit.intOf]; omega
              · have hjn' : ¬ (j : Int) < (nm : Int) := by omega
                go_wp2
                go_roundw
                case rel => exact ⟨k + 1, _, _, nm, m, L', mine, by omega, rfl, by simp, by simp, by have := HMK.out; omega, by have := HNK.out; omega, by have := HMK.out; unfold Hid; omega, by have := HNK.out; unfold Hid; omega, HLM.out, HSI.out⟩
                case measure => simp [RowKit.intOf]; omega
        · have hk0 : (x.kind == 0) = false := by simpa using hkind
          clear hkind
          have hT := free_any x.own u HSU.out.tb (by have := HLM.out; omega)
          have HOK2 := Lib.hid (free_ok HSU.out.ok x.own)
          have hle := free_length L x.own
          have HF := Lib.hid (held_free L x.own ow)
          rw [HLM.out] at hT hle
          generalize freeL L x.own = L' at hT HOK2 HF hle
          rw [hn] at d2 hb' hbn hpl' HU HBX
          obtain ⟨m2, hm2⟩ : ∃ m2, L'.length = m2 := ⟨_, rfl⟩
          have HM2 := Lib.hid hm2
          rw [hm2] at hT hle
          obtain ⟨d, hd⟩ : ∃ d : Int, (m : Int) - (m2 : Int) = d := ⟨_, rfl⟩
          rw [hd] at hT
          have HD := Lib.hid hd
          have hd0 : 0 ≤ d := by omega
          have hd1 : d ≤ (m : Int) := by omega
          have hd2 : ((m2 : Int) != (m : Int) - d) = false := by
            rw [show (m : Int) - d = (m2 : Int) by omega]; simp
          have hle2 : m2 ≤ 800 := by omega
          clear hd
          clear hn hpl hm2
          by_cases hox : x.own = ow
          · have hox' : (x.own == ow) = true := by simpa using hox
            have HMP := Lib.hid (show ([] : List Int).Perm (heldL L' ow) by rw [HF.out, if_pos hox])
            clear hox
            go_wp2_with (first
              | (go_at_call 10; rw [HU.out]; refine hT.mono ?_; clear hT; rintro e w4 ⟨rfl, ht3, hk3⟩; have hb3 := act_kept HBX.out hk3 HSU.out.tb; have e0 := box_cell hb3 0 rfl; have e1 := box_cell hb3 1 rfl; have e2 := box_cell hb3 2 rfl; have HS4 := Lib.hid (show So w g w4 L' none 0 0 [] ow from ⟨HSU.out.hg, ht3, World.ownsRow_nil _ _ _ _, HOK2.out, rfl, HMP.out, HSU.out.bel.trans (hk3.below HSU.out.bel.size HSU.out.hg)⟩); clear hb3 ht3 hk3)
                | (go_at_call 11; refine (len_any w4 HS4.out.tb).mono ?_; rintro e w5 ⟨rfl, hw5⟩; obtain rfl := hw5.symm; clear hw5; rw [HM2.out])
                | (go_at_call 14; refine (show Calls Try.prog 14 #[.pointer (some ⟨g, 0, none⟩), .int .i64 ow] w4 _ by have := (callsIn_wide (n := 5)).1 (held_in ow w4 HS4.out.tb (by rw [HM2.out]; omega)); rw [HS4.out.count] at this; exact this).mono ?_; rintro e w6 ⟨A6, c6, rfl, _, hbb⟩; have HS6 := Lib.hid (HS4.out.below hbb); clear hbb))
            obtain ⟨wz, hwz⟩ : ∃ v, v = w6 := ⟨_, rfl⟩
            subst hwz
            go_loopw [10] (fun jv wi => ∃ j : Nat, j ≤ 0 ∧ jv = .int .i64 j ∧ Hid (So w g wi L' none 0 (0) (([] : List Int)) ow)) (fun jv _ => (0) - (RowKit.intOf jv).toNat)
            case atStart => exact ⟨0, Nat.zero_le _, rfl, HS6.out⟩
            case round =>
              obtain ⟨j, hj, rfl, HSI⟩ := hrel
              by_cases hjn : j < 0
              · exact absurd hjn (Nat.not_lt_zero j)
              · have hjn' : ¬ (j : Int) < 0 := by omega
                go_wp2
                go_roundw
                case rel => exact ⟨k + 1, _, _, 0, m2, L', ([] : List Int), by omega, rfl, by have := HD.out; rw [show (m : Int) - d = (m2 : Int) by omega], by simp, by have := HMK.out; omega, by have := HNK.out; omega, by have := HMK.out; unfold Hid; omega, by have := HNK.out; unfold Hid; omega, HM2.out, HSI.out⟩
                case measure => simp [RowKit.intOf]; omega
          · have hox' : (x.own == ow) = false := by simpa using hox
            have HMP := Lib.hid (show mine.Perm (heldL L' ow) by rw [HF.out, if_neg hox]; exact HS.out.perm)
            clear hox
            go_wp2_with (first
              | (go_at_call 10; rw [HU.out]; refine hT.mono ?_; clear hT; rintro e w4 ⟨rfl, ht3, hk3⟩; have hb3 := act_kept HBX.out hk3 HSU.out.tb; have e0 := box_cell hb3 0 rfl; have e1 := box_cell hb3 1 rfl; have e2 := box_cell hb3 2 rfl; have HS4 := Lib.hid (HSU.out.step ht3 hk3 HOK2.out HMP.out); clear hb3 ht3 hk3)
                | (go_at_call 11; refine (len_any w4 HS4.out.tb).mono ?_; rintro e w5 ⟨rfl, hw5⟩; obtain rfl := hw5.symm; clear hw5; rw [HM2.out])
                | (go_at_call 14; refine (show Calls Try.prog 14 #[.pointer (some ⟨g, 0, none⟩), .int .i64 ow] w4 _ by have := (callsIn_wide (n := 5)).1 (held_in ow w4 HS4.out.tb (by rw [HM2.out]; omega)); rw [HS4.out.count] at this; exact this).mono ?_; rintro e w6 ⟨A6, c6, rfl, _, hbb⟩; have HS6 := Lib.hid (HS4.out.below hbb); clear hbb))
            obtain ⟨wz, hwz⟩ : ∃ v, v = w6 := ⟨_, rfl⟩
            subst hwz
            go_loopw [10] (fun jv wi => ∃ j : Nat, j ≤ nm ∧ jv = .int .i64 j ∧ Hid (So w g wi L' Am cm (nm) (mine) ow)) (fun jv _ => (nm) - (RowKit.intOf jv).toNat)
            case atStart => exact ⟨0, Nat.zero_le _, rfl, HS6.out⟩
            case round =>
              obtain ⟨j, hj, rfl, HSI⟩ := hrel
              by_cases hjn : j < nm
              · obtain ⟨p, hp⟩ : ∃ p, (mine)[j]? = some p := ⟨_, List.getElem?_eq_getElem (by have := HSI.out.len; omega)⟩
                obtain ⟨r, er, hr, k1⟩ := ints_at HSI.out.row hp HSI.out.len
                have hmem : p ∈ heldL L' ow := HSI.out.perm.subset (List.mem_of_getElem? hp)
                obtain ⟨q1, q2, q3⟩ := held_own HSI.out.ok hmem
                obtain ⟨q4, q5⟩ := take_held HSI.out.ok hmem
                have hjn' : (j : Int) < (nm : Int) := by omega
                have how := owner_any p _ HSI.out.tb HSI.out.ok (by rw [HM2.out]; omega)
                rw [q1] at how
                have hpw : (Lit.int .i64 p).wf = true := by
                  have := of_decide_eq_true q2
                  simp [Lit.wf, IntKind.min, IntKind.max, IntKind.signed, IntKind.bits]; omega
                have HNT := Lib.hid (show ∀ v, Below wr.heap.size wr v → Calls Try.prog 8 #[.pointer (some ⟨g, 0, none⟩), .int .i64 9, .slice (some ⟨v.heap.size, 0, none⟩) 1 1] (v.alloc (.cells #[.int .i64 p] 3)) fun e w' => e = .returned (.int .i64 150) ∧ So w g w' L' Am cm (nm) (mine) ow from fun v hv => by
                  have hva : Below v.heap.size v (v.alloc (.cells #[.int .i64 p] 3)) := (Below.refl _ _).alloc (Nat.le_refl _) _
                  have h1 : Calls Try.prog 8 #[.pointer (some ⟨g, 0, none⟩), .int .i64 9, .slice (some ⟨v.heap.size, 0, none⟩) 1 1] (v.alloc (.cells #[.int .i64 p] 3)) _ := take_any 9 [p] (some ⟨v.heap.size, 0, none⟩) 1 _ ((HSI.out.below hv).below hva).tb HSI.out.ok (by omega) (nums_one hpw (heap_alloc_new v _)) (by rw [HM2.out]; simp only [List.length_cons, List.length_nil]; omega)
                  refine h1.mono ?_
                  rintro e w' ⟨rfl, h2, h3⟩
                  rw [q5] at h2
                  exact ⟨by rw [q4]; rfl, ((HSI.out.below hv).below hva).step h2 h3 HSI.out.ok HSI.out.perm⟩)
                subst er
                clear hp hmem q1 q2 q3 q4 q5 hpw
                go_wp2_with (first
                  | (go_at_call 12; refine how.mono ?_; clear how; rintro e w7 ⟨rfl, hbb⟩; have k1' := (hbb.cell (p := ⟨r, j, none⟩) hr).trans k1; have hnt := HNT.out w7 hbb; clear hbb)
                  | (go_at_call 8; refine hnt.mono ?_; clear hnt; rintro e w8 ⟨rfl, hs8⟩; have HS8 := Lib.hid hs8; clear hs8))
                go_roundw
                case rel => exact ⟨j + 1, by omega, by simp, HS8.out⟩
                case measure => simp [RowKit.intOf]; omega
              · have hjn' : ¬ (j : Int) < (nm : Int) := by omega
                go_wp2
                go_roundw
                case rel => exact ⟨k + 1, _, _, nm, m2, L', mine, by omega, rfl, by have := HD.out; rw [show (m : Int) - d = (m2 : Int) by omega], by simp, by have := HMK.out; omega, by have := HNK.out; omega, by have := HMK.out; unfold Hid; omega, by have := HNK.out; unfold Hid; omega, HM2.out, HSI.out⟩
                case measure => simp [RowKit.intOf]; omega
    · have hkk : k = K := by omega
      rcases HK.out with h | ⟨h, h2⟩
      · have f1 : ¬ (k : Int) < (l.length : Int) := by omega
        clear h hkk hkK
        go_wp2
        go_ret
        exact ⟨rfl, HS.out.bel⟩
      · have f1 : (k : Int) < (l.length : Int) := by omega
        have f2 : ¬ (k : Int) < 40 := by omega
        clear h h2 hkk hkK
        go_wp2
        go_ret
        exact ⟨rfl, HS.out.bel⟩
end PortOneWalk
end Go.Proofs.Ytgnfpcacpcnanaa
