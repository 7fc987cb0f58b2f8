/-
  The contract of a log's Add: as EgPure says. All that is not the log's is as it was. Condition: the log is one (Lg, Good), what is handed in is an event with one restart at most.
-/
import Derived.Test.YtldhlilcfadieaaEgCompact
set_option linter.unusedVariables false
set_option linter.unusedSimpArgs false
namespace Go.Proofs.Ytldhlilcfadieaa
open Go.ChangeShapes Go.WideShapes Go.ChangeAt Go.RowKit Go.Lib
open Lists
namespace Eg

/-- a call of a Go function, as a step of a region that draws its order -/
theorem step_call {P : Program} {w : World} {ops : Array Oper} {o : Oper} {a : Act} {K : Act → World → Prop} {Q : Exit → Act → World → Prop} {E : Prop} (hgd : o.guard = none) (f : FuncId) (args : Array Value)
    (hr : (execOp a.eval o).run P w = .ok (.enter f args) w) (hc : Calls P f args w fun e w' => ∃ v, e = .returned v ∧ K (a.put o.dst v) w') :
    if Region.wanted o (yielded ops a.tmps) = true then Oper.wp P o a w K Q else E := by
  have hw : Region.wanted o (yielded ops a.tmps) = true := by simp [Region.wanted, hgd]
  rw [if_pos hw]
  unfold Oper.wp
  rw [hr]
  refine Calls.mono hc ?_
  rintro e w' ⟨v, rfl, hv⟩
  exact hv
/-- a load of a whole struct, as such a step -/
theorem step_load {P : Program} {w : World} {ops : Array Oper} {o : Oper} {a : Act} {K : Act → World → Prop} {Q : Exit → Act → World → Prop} {E : Prop} (hgd : o.guard = none) {ty : TypeId} {x : Operand} (ho : o.op = .load ty x) {b off : Nat} (hx : a.eval x = .pointer (some ⟨b, off, none⟩)) (cs : List Value) {d : TypeDesc} (hc : w.rangeAt b off cs)
    (hu : P.underlying ty = some d) (hd : d.isRow = true) (hi : (P.info? ty).map (·.size) = some cs.length) (h : K (a.put o.dst (.agg cs.toArray)) w) :
    if Region.wanted o (yielded ops a.tmps) = true then Oper.wp P o a w K Q else E := by
  have hw : Region.wanted o (yielded ops a.tmps) = true := by simp [Region.wanted, hgd]
  rw [if_pos hw]
  unfold Oper.wp execOp
  simp [ho, hx, run_loadAt_mid w b off ty cs d hc hu hd hi, Result.andThen]
  exact h
/-- append, as such a step: where the row lies afterwards is told, too -/
theorem step_append_lay {P : Program} {w : World} {ops : Array Oper} {o : Oper} {a : Act} {K : Act → World → Prop} {Q : Exit → Act → World → Prop} {E : Prop} (hgd : o.guard = none) (s x : Operand) (t : TypeId)
    (ho : o.op = .call { callee := .builtin .append, args := #[s, x], argTypes := #[t, t] })
    (base : Nat) (e : TypeId) (i : TypeInfo) (z : Value) (size bytes : Nat) (ht : P.underlying t = some (.slice e)) (hi : P.info? e = some i) (hz : i.zero = some z)
    (hsize : i.size = size) (hby : i.bytes = bytes) (hzs : z.cells.size = size) (hsz : 0 < size)
    (v : Value) (n : Nat) (xs : List Value) (hs : a.eval s = v) (hown : w.ownsRow base e size v n xs)
    (ad : Addr) (m c : Nat) (news : List Value) (hx : a.eval x = .slice (some ad) m c) (hl : news.length = m * size)
    (hnews : ∀ j u, news[j]? = some u → w.cell? (ad.add j) = some u) (h1 : ∀ u ∈ news, u.oneCell' = true)
    (h63 : n + m ≤ maxLen) (hbytes : (n + m) * bytes ≤ 140737488355328) (hbase : base ≤ w.heap.size)
    (h : ∀ A' c' w', w'.ownsRow base e size (.slice A' (n + m) c') (n + m) (xs ++ news) → w.grownBy w' v.ownBlock → ((Value.slice A' (n + m) c').ownBlock = v.ownBlock ∨ (Value.slice A' (n + m) c').ownBlock = some w.heap.size) → K (a.put o.dst (.slice A' (n + m) c')) w') :
    if Region.wanted o (yielded ops a.tmps) = true then Oper.wp P o a w K Q else E := by
  have hw : Region.wanted o (yielded ops a.tmps) = true := by simp [Region.wanted, hgd]
  rw [if_pos hw]
  obtain ⟨v', w', hr, h2, h3, h4, h5⟩ := run_append_own_at (P := P) w base t o.type e i z size bytes ht hi hz hsize hby hzs hsz v n xs hown ad m c news hl hnews h1 h63 hbytes hbase
  have hf : ∃ A' c', v' = .slice A' (n + m) c' := own_form h2
  obtain ⟨A', c', rfl⟩ := hf
  unfold Oper.wp execOp
  simp only [ho, resolve, invoke, builtin, Sem.run_bind, Sem.run_pure, Result.andThen_ok, List.map_toArray, List.map_cons, List.map_nil, hs, hx, hr]
  exact h A' c' w' h2 h3 h5

/-- an event more behind a log's -/
theorem LgAt.more {v wn w1 : World} {X : Obj} {g : Nat} {D : Nat → Prop} {L : List Evt} {A A' : Option Addr} {c c' fl mo : Nat} (h : LgAt v g D L A c fl mo) (hds : ∀ b, D b → b < v.heap.size) (x : Evt) (CR : Option Addr) (cr : Nat)
    (hb : Below v.heap.size v wn) (hn : Nums .i64 wn CR x.zs) (hz : x.zs.length ≤ 1) (hC : ∀ a, CR = some a → v.heap.size ≤ a.block ∧ a.block < wn.heap.size)
    (hown : w1.ownsRow 0 40 15 (.slice A' (L.length + 1) c') (L.length + 1) (flatE L ++ [.int .i64 x.kind, .int .u64 x.rev, .int .i64 x.uid, .int .u64 0, .string ⟨#[]⟩, .slice none 0 0, .slice none 0 0, .slice none 0 0, .int .i64 0, .int .i64 0, .int .i64 0, .int .i64 0, .slice CR x.zs.length cr, .int .i64 0, .int .i64 0])) (hgrow : (wn.alloc X).grownBy w1 (Value.slice A L.length c).ownBlock)
    (hat : (Value.slice A' (L.length + 1) c').ownBlock = (Value.slice A L.length c).ownBlock ∨ (Value.slice A' (L.length + 1) c').ownBlock = some (wn.alloc X).heap.size) :
    LgAt (w1.setCell ⟨g, 0, none⟩ (.slice A' (L.length + 1) c')) g D (L ++ [⟨x.kind, x.uid, x.rev, CR, cr, x.zs⟩]) A' c' fl mo ∧ Kp D v (w1.setCell ⟨g, 0, none⟩ (.slice A' (L.length + 1) c')) := by
  have hg := h.lt
  have hsz : (wn.alloc X).heap.size = wn.heap.size + 1 := by simp
  have hs1 := hgrow.size
  have hvs := hb.size
  have hll : (L ++ [(⟨x.kind, x.uid, x.rev, CR, cr, x.zs⟩ : Evt)]).length = L.length + 1 := by simp
  have hold : ∀ q, (Value.slice A L.length c).ownBlock = some q → ¬ D q ∧ q ≠ g ∧ q < v.heap.size := fun q hq => ⟨(h.dr q hq).1, (h.dr q hq).2, (owns_lt h.row hq).2⟩
  have hnew : ∀ q, (Value.slice A' (L.length + 1) c').ownBlock = some q → ¬ D q ∧ q ≠ g := fun q hq => by
    rcases hat with e | e
    · obtain ⟨a1, a2, _⟩ := hold q (by rw [← e]; exact hq)
      exact ⟨a1, a2⟩
    · rw [e] at hq
      injection hq with hq
      exact ⟨fun hd => by have := hds q hd; omega, by omega⟩
  have hkeep : ∀ i, i < wn.heap.size → some i ≠ (Value.slice A L.length c).ownBlock → w1.heap[i]? = wn.heap[i]? := fun i hi hne =>
    (hgrow.block i (by omega) hne).trans (Below.heap_alloc wn X i hi)
  have hgne : some g ≠ (Value.slice A L.length c).ownBlock := fun e => (hold g e.symm).2.1 rfl
  have hother : ∀ i, i ≠ g → (w1.setCell ⟨g, 0, none⟩ (.slice A' (L.length + 1) c')).heap[i]? = w1.heap[i]? := fun i hi => Below.heap_setCell _ _ _ _ hi
  have hsz1 : (w1.setCell ⟨g, 0, none⟩ (.slice A' (L.length + 1) c')).heap.size = w1.heap.size := by simp [World.setCell]
  have hbox : w1.heap[g]? = some (.cells #[.slice A L.length c, .int .u64 (fl : Nat), .int .i64 (mo : Nat)] 54 (0, 0)) := (hkeep g (by omega) hgne).trans ((hb.block g hg).trans h.box)
  refine ⟨⟨?_, ?_, h.dg, fun q hq => ?_, fun y hy => ?_⟩, ?_⟩
  · rw [hll]
    exact box_set hbox 0 _ rfl
  · rw [hll, flatE_cat]
    exact owns_of hown (fun q hq => hother q (hnew q hq).2)
  · rw [hll] at hq
    exact hnew q hq
  · rw [hll]
    rw [List.mem_append] at hy
    rcases hy with hy | hy
    · obtain ⟨q1, q2, q3⟩ := h.ev y hy
      refine ⟨nums_move q1 (by omega) (fun a ha hla => ?_), q2, fun a ha => ?_⟩
      · obtain ⟨p0, p1, p2, p3⟩ := q3 a ha
        exact (hother _ p2).trans ((hkeep _ (by omega) p3).trans (hb.block _ hla))
      · obtain ⟨p0, p1, p2, p3⟩ := q3 a ha
        refine ⟨by omega, p1, p2, fun e => ?_⟩
        rcases hat with e1 | e1
        · exact p3 (e.trans e1)
        · rw [e1] at e; injection e with e; omega
    · simp at hy
      subst hy
      refine ⟨nums_move hn (by show wn.heap.size ≤ _; omega) (fun a ha hla => ?_), hz, fun a ha => ?_⟩
      · have ha' := hC a ha
        exact (hother _ (by omega)).trans (hkeep _ hla (fun e => by have := (hold _ e.symm).2.2; omega))
      · have ha' := hC a ha
        refine ⟨by omega, fun hd => by have := hds _ hd; omega, by omega, fun e => ?_⟩
        rcases hat with e1 | e1
        · have := (hold _ (e1.symm.trans e.symm)).2.2; omega
        · rw [e1] at e; injection e with e; omega
  · refine ⟨(by show w1.os = _; rw [hgrow.os]; exact hb.os), (by show w1.tape = _; rw [hgrow.tape]; exact hb.tape), (by show w1.output = _; rw [hgrow.output]; exact hb.output), (by omega), fun i hi hd => ?_⟩
    exact (hother i (fun e => h.dg (by rw [← e]; exact hd))).trans ((hkeep i (by omega) (fun e => (hold i e.symm).1 hd)).trans (hb.block i hi))
theorem evt_one (k u r : Value) (hk : k.oneCell' = true) (hu : u.oneCell' = true) (hr : r.oneCell' = true) : True := trivial


set_option maxRecDepth 100000 in
set_option maxHeartbeats 4000000 in
theorem add_any {g : Nat} {D : Nat → Prop} {rs : List Nat} {fl mo : Nat} (x : Evt) (w : World) (h : Lg w g D rs fl mo) (G : Good fl rs mo) (hx : Nums .i64 w x.RA x.zs) (hz : x.zs.length ≤ 1) (hxD : ∀ a, x.RA = some a → D a.block) (hds : ∀ b, D b → b < w.heap.size) :
    Calls Try.prog 7 #[.pointer (some ⟨g, 0, none⟩), .agg #[.int .i64 x.kind, .int .u64 x.rev, .int .i64 x.uid, .int .u64 0, .string ⟨#[]⟩, .slice none 0 0, .slice none 0 0, .slice none 0 0, .int .i64 0, .int .i64 0, .int .i64 0, .int .i64 0, .slice x.RA x.zs.length x.rc, .int .i64 0, .int .i64 0]] w fun e w' => e = .returned (.int .i64 (adC rs fl x.rev)) ∧ Lg w' g D (adR rs fl mo x.rev) (adF rs fl mo x.rev) mo ∧ Kp D w w' := by
  have hl64 : rs.length ≤ 64 := Nat.le_trans G.len G.most
  obtain ⟨la, hla⟩ : ∃ la, lastN rs fl = la := ⟨_, rfl⟩
  obtain ⟨w1, hw1⟩ : ∃ v, w.alloc (.cells #[.int .i64 x.kind, .int .u64 x.rev, .int .i64 x.uid, .int .u64 0, .string ⟨#[]⟩, .slice none 0 0, .slice none 0 0, .slice none 0 0, .int .i64 0, .int .i64 0, .int .i64 0, .int .i64 0, .slice x.RA x.zs.length x.rc, .int .i64 0, .int .i64 0] 40) = v := ⟨_, rfl⟩
  have hb1 : Below w.heap.size w w1 := by rw [← hw1]; exact (Below.refl _ _).alloc (Nat.le_refl _) _
  have hs1 : w1.heap.size = w.heap.size + 1 := by rw [← hw1]; simp
  have X1 := Lib.hid (show w1.heap[w.heap.size]? = some (.cells #[.int .i64 x.kind, .int .u64 x.rev, .int .i64 x.uid, .int .u64 0, .string ⟨#[]⟩, .slice none 0 0, .slice none 0 0, .slice none 0 0, .int .i64 0, .int .i64 0, .int .i64 0, .int .i64 0, .slice x.RA x.zs.length x.rc, .int .i64 0, .int .i64 0] 40 (0, 0)) by rw [← hw1]; exact heap_alloc_new w _)
  obtain ⟨D1, hD1⟩ : ∃ D1 : Nat → Prop, D1 = fun b => D b ∨ b = w.heap.size := ⟨_, rfl⟩
  have h1 : Lg w1 g D1 rs fl mo := h.move hb1.size (fun b hl _ => hb1.block b hl) (fun b hd => by rw [hD1] at hd; rcases hd with hd | hd; exact .inl hd; exact .inr (by omega))
  have hds1 : ∀ b, D1 b → b < w1.heap.size := fun b hd => by rw [hD1] at hd; rcases hd with hd | hd; have := hds b hd; omega; omega
  have HLESS := Lib.hid (show ∀ b, D b → D1 b from fun b hd => by rw [hD1]; exact .inl hd)
  have HB0 := Lib.hid (show D1 w.heap.size by rw [hD1]; exact .inr rfl)
  have HLA := Lib.hid (fun (v : World) (hv : Lg v g D1 rs fl mo) => by have := last_any v hv hl64; rw [hla] at this; exact this)
  have H1 := Lib.hid h1
  have HDS := Lib.hid hds1
  have HGG := Lib.hid G
  have HN1 := Lib.hid (show Nums .i64 w1 x.RA x.zs from nums_move hx hb1.size (fun a _ hl => hb1.block _ hl))
  have HXD := Lib.hid (show ∀ a, x.RA = some a → D1 a.block from fun a ha => HLESS.out _ (hxD a ha))
  have HHZ := Lib.hid hz
  have HB1 := Lib.hid hb1
  have HK1 := Lib.hid (show Kp D w w1 from Kp.of_below hb1)
  have cx1 := box_cell X1.out 1 rfl
  have HS1 := Lib.hid hs1
  clear hD1 h h1 hds1 hx hz hxD hb1 hds hs1
  by_cases hc : x.rev ≤ la
  · have eC : adC rs fl x.rev = 4 := by unfold adC; rw [hla, if_pos hc]
    have eR : adR rs fl mo x.rev = rs := by unfold adR; rw [hla, if_pos hc]
    have eF : adF rs fl mo x.rev = fl := by unfold adF; rw [hla, if_pos hc]
    rw [eC, eR, eF]
    clear eC eR eF hla G
    go_enter Try.func7, Try.ntmps7
    go_wp2_with fail
    first | rw [hw1] | skip
    go_quiet ((go_at_call 12; refine Calls.quiet_of (HLA.out _ ?_); exact H1.out.below (Kit.below_drewN _ _ _)))
    have HE := Lib.hid (show Lg (w1.drewN nq) g D rs fl mo from H1.out.move (Nat.le_refl _) (fun b _ _ => rfl) (fun b hd => .inl (HLESS.out b hd)))
    have HKE := Lib.hid (show Kp D w (w1.drewN nq) from HK1.out.trans (Kp.of_below (Kit.below_drewN _ _ _)))
    go_wp2_with fail
    go_ret
    exact ⟨rfl, HE.out, HKE.out⟩

  · have hmz := G.one
    have hml := G.len
    obtain ⟨i15, hi15, hz150, hz151, hz152⟩ := info_parts info_evt
    by_cases hm : rs.length = mo
    · cases rs with
      | nil => simp at hm; omega
      | cons y rest =>
      have eC : adC (y :: rest) fl x.rev = 0 := by unfold adC; rw [hla, if_neg hc]
      have eR : adR (y :: rest) fl mo x.rev = rest ++ [x.rev] := by unfold adR; rw [hla, if_neg hc, if_pos hm]; rfl
      have eF : adF (y :: rest) fl mo x.rev = y := by unfold adF; rw [hla, if_neg hc, if_pos hm]; rfl
      rw [eC, eR, eF]
      have HCP := Lib.hid (fun (v : World) (hv : Lg v g D1 (y :: rest) fl mo) => by
        have := compact_any y v hv G
        obtain ⟨e1, e2, e3⟩ := cp_first G.up
        rw [e1, e2, e3] at this
        exact this)
      have HLEN := Lib.hid (show rest.length ≤ 64 by simp at hl64; omega)
      obtain ⟨L0, A0, c00, hL0, h0⟩ := H1.out
      have hlm : L0.length = mo := by rw [← hm, ← hL0, List.length_map]
      obtain ⟨y0, hy0⟩ : ∃ y0, L0[0]? = some y0 := ⟨_, List.getElem?_eq_getElem (by omega)⟩
      have hyr : y0.rev = y := by
        have e := congrArg (·[0]?) hL0
        simp only [List.getElem?_map, hy0] at e
        simpa using e
      obtain ⟨r, hA0, hr, hcs⟩ := h0.cell hy0
      have d1 : w1.cell? ⟨r, 1, none⟩ = some (.int .u64 (y : Int)) := by rw [← hyr]; exact hcs 1 _ rfl
      obtain ⟨c0, c1, c2⟩ := log_cells h0.box
      rw [hA0, hlm] at c0
      have hmp : (0 : Int) < (mo : Int) := by omega
      clear eC eR eF hla G hm hml hL0 h0 hlm hy0 hyr hA0 hr hcs c1 hl64
      go_enter Try.func7, Try.ntmps7
      go_wp2_with fail
      go_quiet ((go_at_call 12; refine Calls.quiet_of (HLA.out _ ?_); exact H1.out.below (Kit.below_drewN _ _ _)))
      have hnc : ¬ (x.rev : Int) ≤ (la : Int) := by omega
      go_wp2_with fail
      go_quiet (fail)
      go_wp2_with fail
      refine (HCP.out _ (H1.out.below (Kit.below_drewN _ _ _))).mono ?_
      rintro e w3 ⟨rfl, hl3, hk3⟩
      have HL := Lib.hid hl3
      have hkk := (Kp.of_below (D := D1) (Kit.below_drewN w1.heap.size w1 _)).trans hk3
      have XV := Lib.hid (show w3.heap[w.heap.size]? = _ from (hkk.block w.heap.size (by have := HS1.out; omega) HB0.out).trans X1.out)
      have HNV := Lib.hid (show Nums .i64 w3.drew x.RA x.zs from nums_move HN1.out hkk.size (fun a ha hl => hkk.block _ hl (HXD.out a ha)))
      have HDV := Lib.hid (show ∀ b, D1 b → b < w3.drew.heap.size from fun b hd => Nat.lt_of_lt_of_le (HDS.out b hd) hkk.size)
      have KV := Lib.hid (show Kp D w w3 from HK1.out.trans (hkk.less (fun b _ hd => HLESS.out b hd)))
      clear hl3 hk3 hkk c0 c2 d1 cx1 hnc hc hmp
      obtain ⟨L, A, c, hLr, h'⟩ := HL.out
      have HLR := Lib.hid hLr
      have H' := Lib.hid h'
      have hnl : L.length ≤ 64 := by have e := HLEN.out; rw [← hLr, List.length_map] at e; exact e
      obtain ⟨c0, c1, c2⟩ := log_cells h'.box
      have hgl := h'.lt
      have RG := Lib.hid (show (w3.drew).rangeAt w.heap.size 0 [.int .i64 x.kind, .int .u64 x.rev, .int .i64 x.uid, .int .u64 0, .string ⟨#[]⟩, .slice none 0 0, .slice none 0 0, .slice none 0 0, .int .i64 0, .int .i64 0, .int .i64 0, .int .i64 0, .slice x.RA x.zs.length x.rc, .int .i64 0, .int .i64 0] from range_at (w := w3.drew) (XV.out : w3.drew.heap[w.heap.size]? = _) 0 [.int .i64 x.kind, .int .u64 x.rev, .int .i64 x.uid, .int .u64 0, .string ⟨#[]⟩, .slice none 0 0, .slice none 0 0, .slice none 0 0, .int .i64 0, .int .i64 0, .int .i64 0, .int .i64 0, .slice x.RA x.zs.length x.rc, .int .i64 0, .int .i64 0] rfl)
      have HD := Lib.hid (show LgAt w3.drew g D1 L A c y mo from H'.out.below (Kit.below_drewN _ _ 1))
      clear h' hLr c1 c2
      have q0 := box_cell XV.out 0 rfl
      have q1 := box_cell XV.out 1 rfl
      have q2 := box_cell XV.out 2 rfl
      have q3 := box_cell XV.out 3 rfl
      have q4 := box_cell XV.out 4 rfl
      have q5 := box_cell XV.out 5 rfl
      have q6 := box_cell XV.out 6 rfl
      have q7 := box_cell XV.out 7 rfl
      have q8 := box_cell XV.out 8 rfl
      have q9 := box_cell XV.out 9 rfl
      have q10 := box_cell XV.out 10 rfl
      have q11 := box_cell XV.out 11 rfl
      have q12 := box_cell XV.out 12 rfl
      have q13 := box_cell XV.out 13 rfl
      have q14 := box_cell XV.out 14 rfl
      go_wp2_with fail
      go_region_law
        (first
          | (refine step_load rfl rfl rfl [.int .i64 x.kind, .int .u64 x.rev, .int .i64 x.uid, .int .u64 0, .string ⟨#[]⟩, .slice none 0 0, .slice none 0 0, .slice none 0 0, .int .i64 0, .int .i64 0, .int .i64 0, .int .i64 0, .slice x.RA x.zs.length x.rc, .int .i64 0, .int .i64 0] RG.out Try.underlying40 rfl (by kernel_rfl) ?_)
          | (refine step_call rfl 15 #[.agg #[.int .i64 x.kind, .int .u64 x.rev, .int .i64 x.uid, .int .u64 0, .string ⟨#[]⟩, .slice none 0 0, .slice none 0 0, .slice none 0 0, .int .i64 0, .int .i64 0, .int .i64 0, .int .i64 0, .slice x.RA x.zs.length x.rc, .int .i64 0, .int .i64 0]] (by first | rfl | simp [go_sem, Act.eval]) ((clone_any x w3.drew HHZ.out HNV.out).mono ?_); rintro e wn ⟨CR, cr, rfl, hn2, hC2, kn0⟩; refine ⟨_, rfl, ?_⟩;
             have kn : Below w3.drew.heap.size w3.drew wn := kn0;
             have hbl := kn.block g HD.out.lt;
             have hS : wn.cell? ⟨g, 0, none⟩ = some (.slice A L.length c) := (World.cell?_of_block (w := w3.drew) hbl).trans (box_cell HD.out.box 0 rfl);
             have hlw : g < wn.heap.size := Nat.lt_of_lt_of_le hgl kn.size;
             have hS2 : ∀ o, (wn.alloc o).cell? ⟨g, 0, none⟩ = some (.slice A L.length c) := fun o => (World.cell?_alloc_lt _ _ _ hlw).trans hS)
          | (refine step_append_lay rfl _ _ 43 rfl 0 40 i15 (.agg #[.int .i64 0, .int .u64 0, .int .i64 0, .int .u64 0, .string ⟨#[]⟩, .slice none 0 0, .slice none 0 0, .slice none 0 0, .int .i64 0, .int .i64 0, .int .i64 0, .int .i64 0, .slice none 0 0, .int .i64 0, .int .i64 0]) 15 192 Try.underlying43 hi15 hz150 hz151 hz152 rfl (by decide) (.slice A L.length c) L.length (flatE L) rfl ((owns_of HD.out.row (w' := wn) (fun r hr => kn.block r (owns_lt HD.out.row hr).2)).alloc (.cells #[.int .i64 x.kind, .int .u64 x.rev, .int .i64 x.uid, .int .u64 0, .string ⟨#[]⟩, .slice none 0 0, .slice none 0 0, .slice none 0 0, .int .i64 0, .int .i64 0, .int .i64 0, .int .i64 0, .slice CR x.zs.length cr, .int .i64 0, .int .i64 0] 40)) ⟨wn.heap.size, 0, none⟩ 1 1 [.int .i64 x.kind, .int .u64 x.rev, .int .i64 x.uid, .int .u64 0, .string ⟨#[]⟩, .slice none 0 0, .slice none 0 0, .slice none 0 0, .int .i64 0, .int .i64 0, .int .i64 0, .int .i64 0, .slice CR x.zs.length cr, .int .i64 0, .int .i64 0] rfl rfl ((World.ownsRow_lit (base := 0) (size := 15) (e := 40) wn ([.int .i64 x.kind, .int .u64 x.rev, .int .i64 x.uid, .int .u64 0, .string ⟨#[]⟩, .slice none 0 0, .slice none 0 0, .slice none 0 0, .int .i64 0, .int .i64 0, .int .i64 0, .int .i64 0, .slice CR x.zs.length cr, .int .i64 0, .int .i64 0] : List Value).toArray 1 (Nat.zero_le _) (by decide) rfl).cells rfl) (vals_one ⟨x.kind, x.uid, x.rev, CR, cr, x.zs⟩) (by unfold maxLen; omega) (by omega) (Nat.zero_le _) ?_;
             intro A' c' w2 hown hgrow hat;
             have hne : some g ≠ (Value.slice A L.length c).ownBlock := fun e => (HD.out.dr g e.symm).2 rfl;
             have hX1 := (hgrow.block g (by simp; omega) hne).trans ((((Below.refl wn.heap.size wn).alloc (Nat.le_refl _) _).block g hlw).trans (hbl.trans HD.out.box));
             have hk10 := box_cell hX1 0 rfl;
             have hf10 := box_free hX1 0))
      all_goals
        have HM := Lib.hid (HD.out.more HDV.out x CR cr kn hn2 HHZ.out hC2 hown hgrow hat)
        clear hown hgrow hat hX1 hS hS2 hn2 hC2 kn hbl q0 q1 q2 q3 q4 q5 q6 q7 q8 q9 q10 q11 q12 q13 q14
        go_wp2_with fail
        go_ret
        exact ⟨rfl, ⟨_, _, _, by simp [HLR.out], HM.out.1.move (Nat.le_refl _) (fun _ _ _ => rfl) (fun b hd => .inl (HLESS.out b hd))⟩, (KV.out.trans (Kp.of_below (Kit.below_drewN _ _ 1))).trans (HM.out.2.less (fun b _ hd => HLESS.out b hd))⟩
    · have eC : adC rs fl x.rev = 0 := by unfold adC; rw [hla, if_neg hc]
      have eR : adR rs fl mo x.rev = rs ++ [x.rev] := by unfold adR; rw [hla, if_neg hc, if_neg hm]
      have eF : adF rs fl mo x.rev = fl := by unfold adF; rw [hla, if_neg hc, if_neg hm]
      rw [eC, eR, eF]
      have HLEN := Lib.hid hl64
      obtain ⟨L0, A0, c00, hL0, h0⟩ := H1.out
      have hlm : L0.length ≠ mo := by rw [← hL0, List.length_map] at hm; exact hm
      obtain ⟨n, hn⟩ : ∃ n, L0.length = n := ⟨_, rfl⟩
      obtain ⟨c0, c1, c2⟩ := log_cells h0.box
      rw [hn] at c0 hlm
      have hq1 : ((n : Int) == (mo : Int)) = false := beq_eq_false_iff_ne.2 (by omega)
      have hq2 : (n == mo) = false := beq_eq_false_iff_ne.2 hlm
      clear eC eR eF hla G hm hml hL0 h0 hlm hn c1 hl64
      go_enter Try.func7, Try.ntmps7
      go_wp2_with fail
      go_quiet ((go_at_call 12; refine Calls.quiet_of (HLA.out _ ?_); exact H1.out.below (Kit.below_drewN _ _ _)))
      have hnc : ¬ (x.rev : Int) ≤ (la : Int) := by omega
      obtain ⟨w2, hw2⟩ : ∃ v, w1.drewN nq = v := ⟨_, rfl⟩
      have hb2 : Below w1.heap.size w1 w2 := by rw [← hw2]; exact Kit.below_drewN _ _ _
      rw [hw2]
      have c0' : w2.cell? ⟨g, 0, none⟩ = some (.slice A0 n c00) := by rw [← hw2]; exact c0
      have c2' : w2.cell? ⟨g, 2, none⟩ = some (.int .i64 (mo : Nat)) := by rw [← hw2]; exact c2
      have HB2 := Lib.hid hb2
      clear hw2 c0 c2 cx1 hb2
      go_wp2_with fail
      go_quiet (fail)
      obtain ⟨w3, hw3⟩ : ∃ v, w2.drewN nq = v := ⟨_, rfl⟩
      have hb3 : Below w1.heap.size w1 w3 := by rw [← hw3]; exact HB2.out.trans ((Kit.below_drewN _ _ _).mono HB2.out.size)
      rw [hw3]
      have HL := Lib.hid (H1.out.below hb3)
      have XV := Lib.hid (show w3.heap[w.heap.size]? = _ from (hb3.block w.heap.size (by have := HS1.out; omega)).trans X1.out)
      have HNV := Lib.hid (show Nums .i64 w3.drew x.RA x.zs from nums_move HN1.out hb3.size (fun a ha hl => hb3.block _ hl))
      have HDV := Lib.hid (show ∀ b, D1 b → b < w3.drew.heap.size from fun b hd => Nat.lt_of_lt_of_le (HDS.out b hd) hb3.size)
      have KV := Lib.hid (show Kp D w w3 from HK1.out.trans (Kp.of_below hb3))
      clear hw3 hb3 c0' c2' hnc hc hmz hq1 hq2
      obtain ⟨L, A, c, hLr, h'⟩ := HL.out
      have HLR := Lib.hid hLr
      have H' := Lib.hid h'
      have hnl : L.length ≤ 64 := by have e := HLEN.out; rw [← hLr, List.length_map] at e; exact e
      obtain ⟨c0, c1, c2⟩ := log_cells h'.box
      have hgl := h'.lt
      have RG := Lib.hid (show (w3.drew).rangeAt w.heap.size 0 [.int .i64 x.kind, .int .u64 x.rev, .int .i64 x.uid, .int .u64 0, .string ⟨#[]⟩, .slice none 0 0, .slice none 0 0, .slice none 0 0, .int .i64 0, .int .i64 0, .int .i64 0, .int .i64 0, .slice x.RA x.zs.length x.rc, .int .i64 0, .int .i64 0] from range_at (w := w3.drew) (XV.out : w3.drew.heap[w.heap.size]? = _) 0 [.int .i64 x.kind, .int .u64 x.rev, .int .i64 x.uid, .int .u64 0, .string ⟨#[]⟩, .slice none 0 0, .slice none 0 0, .slice none 0 0, .int .i64 0, .int .i64 0, .int .i64 0, .int .i64 0, .slice x.RA x.zs.length x.rc, .int .i64 0, .int .i64 0] rfl)
      have HD := Lib.hid (show LgAt w3.drew g D1 L A c fl mo from H'.out.below (Kit.below_drewN _ _ 1))
      clear h' hLr c1 c2
      have q0 := box_cell XV.out 0 rfl
      have q1 := box_cell XV.out 1 rfl
      have q2 := box_cell XV.out 2 rfl
      have q3 := box_cell XV.out 3 rfl
      have q4 := box_cell XV.out 4 rfl
      have q5 := box_cell XV.out 5 rfl
      have q6 := box_cell XV.out 6 rfl
      have q7 := box_cell XV.out 7 rfl
      have q8 := box_cell XV.out 8 rfl
      have q9 := box_cell XV.out 9 rfl
      have q10 := box_cell XV.out 10 rfl
      have q11 := box_cell XV.out 11 rfl
      have q12 := box_cell XV.out 12 rfl
      have q13 := box_cell XV.out 13 rfl
      have q14 := box_cell XV.out 14 rfl
      go_wp2_with fail
      go_region_law
        (first
          | (refine step_load rfl rfl rfl [.int .i64 x.kind, .int .u64 x.rev, .int .i64 x.uid, .int .u64 0, .string ⟨#[]⟩, .slice none 0 0, .slice none 0 0, .slice none 0 0, .int .i64 0, .int .i64 0, .int .i64 0, .int .i64 0, .slice x.RA x.zs.length x.rc, .int .i64 0, .int .i64 0] RG.out Try.underlying40 rfl (by kernel_rfl) ?_)
          | (refine step_call rfl 15 #[.agg #[.int .i64 x.kind, .int .u64 x.rev, .int .i64 x.uid, .int .u64 0, .string ⟨#[]⟩, .slice none 0 0, .slice none 0 0, .slice none 0 0, .int .i64 0, .int .i64 0, .int .i64 0, .int .i64 0, .slice x.RA x.zs.length x.rc, .int .i64 0, .int .i64 0]] (by first | rfl | simp [go_sem, Act.eval]) ((clone_any x w3.drew HHZ.out HNV.out).mono ?_); rintro e wn ⟨CR, cr, rfl, hn2, hC2, kn0⟩; refine ⟨_, rfl, ?_⟩;
             have kn : Below w3.drew.heap.size w3.drew wn := kn0;
             have hbl := kn.block g HD.out.lt;
             have hS : wn.cell? ⟨g, 0, none⟩ = some (.slice A L.length c) := (World.cell?_of_block (w := w3.drew) hbl).trans (box_cell HD.out.box 0 rfl);
             have hlw : g < wn.heap.size := Nat.lt_of_lt_of_le hgl kn.size;
             have hS2 : ∀ o, (wn.alloc o).cell? ⟨g, 0, none⟩ = some (.slice A L.length c) := fun o => (World.cell?_alloc_lt _ _ _ hlw).trans hS)
          | (refine step_append_lay rfl _ _ 43 rfl 0 40 i15 (.agg #[.int .i64 0, .int .u64 0, .int .i64 0, .int .u64 0, .string ⟨#[]⟩, .slice none 0 0, .slice none 0 0, .slice none 0 0, .int .i64 0, .int .i64 0, .int .i64 0, .int .i64 0, .slice none 0 0, .int .i64 0, .int .i64 0]) 15 192 Try.underlying43 hi15 hz150 hz151 hz152 rfl (by decide) (.slice A L.length c) L.length (flatE L) rfl ((owns_of HD.out.row (w' := wn) (fun r hr => kn.block r (owns_lt HD.out.row hr).2)).alloc (.cells #[.int .i64 x.kind, .int .u64 x.rev, .int .i64 x.uid, .int .u64 0, .string ⟨#[]⟩, .slice none 0 0, .slice none 0 0, .slice none 0 0, .int .i64 0, .int .i64 0, .int .i64 0, .int .i64 0, .slice CR x.zs.length cr, .int .i64 0, .int .i64 0] 40)) ⟨wn.heap.size, 0, none⟩ 1 1 [.int .i64 x.kind, .int .u64 x.rev, .int .i64 x.uid, .int .u64 0, .string ⟨#[]⟩, .slice none 0 0, .slice none 0 0, .slice none 0 0, .int .i64 0, .int .i64 0, .int .i64 0, .int .i64 0, .slice CR x.zs.length cr, .int .i64 0, .int .i64 0] rfl rfl ((World.ownsRow_lit (base := 0) (size := 15) (e := 40) wn ([.int .i64 x.kind, .int .u64 x.rev, .int .i64 x.uid, .int .u64 0, .string ⟨#[]⟩, .slice none 0 0, .slice none 0 0, .slice none 0 0, .int .i64 0, .int .i64 0, .int .i64 0, .int .i64 0, .slice CR x.zs.length cr, .int .i64 0, .int .i64 0] : List Value).toArray 1 (Nat.zero_le _) (by decide) rfl).cells rfl) (vals_one ⟨x.kind, x.uid, x.rev, CR, cr, x.zs⟩) (by unfold maxLen; omega) (by omega) (Nat.zero_le _) ?_;
             intro A' c' w2 hown hgrow hat;
             have hne : some g ≠ (Value.slice A L.length c).ownBlock := fun e => (HD.out.dr g e.symm).2 rfl;
             have hX1 := (hgrow.block g (by simp; omega) hne).trans ((((Below.refl wn.heap.size wn).alloc (Nat.le_refl _) _).block g hlw).trans (hbl.trans HD.out.box));
             have hk10 := box_cell hX1 0 rfl;
             have hf10 := box_free hX1 0))
      all_goals
        have HM := Lib.hid (HD.out.more HDV.out x CR cr kn hn2 HHZ.out hC2 hown hgrow hat)
        clear hown hgrow hat hX1 hS hS2 hn2 hC2 kn hbl q0 q1 q2 q3 q4 q5 q6 q7 q8 q9 q10 q11 q12 q13 q14
        go_wp2_with fail
        go_ret
        exact ⟨rfl, ⟨_, _, _, by simp [HLR.out], HM.out.1.move (Nat.le_refl _) (fun _ _ _ => rfl) (fun b hd => .inl (HLESS.out b hd))⟩, (KV.out.trans (Kp.of_below (Kit.below_drewN _ _ 1))).trans (HM.out.2.less (fun b _ hd => HLESS.out b hd))⟩
end Eg
end Go.Proofs.Ytldhlilcfadieaa
