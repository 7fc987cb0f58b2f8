/-
  The contract of sel.Filter: the pods whose labels fit, in order, at new places. All that was there is left as it was. Conditions: the pods are few and light.
-/
import Derived.Test.YtaegknpijgjioaaGreatDoorSelAll
import Derived.Test.YtaegknpijgjioaaGreatDoorSelClone
import Derived.Test.YtaegknpijgjioaaGreatDoorTellCloneAll
import Derived.Test.YtaegknpijgjioaaGreatDoorTellRow
set_option linter.unusedVariables false
set_option linter.unusedSimpArgs false
namespace Go.Proofs.YtaegknpijgjioaaGreatDoor
open Go.ChangeShapes Go.WideShapes Go.ChangeAt Go.RowKit Go.Lib
open LebMath WirePure Sd Wire SpecOwn SpecRef Book Pk
open Tl
namespace Sl

/-- append, and where the row lies afterwards -/
theorem wpList_append_lay {P : Program} {w : World} {ops : Array Oper} {rest : List Oper} {o : Oper} {a : Act} {Q : Exit → Act → World → Prop} (hgd : o.guard = none) (s x : Operand) (t : TypeId)
    (ho : o.op = .call { callee := .builtin .append, args := #[s, x], argTypes := #[t, t] })
    (base : Nat) (e : TypeId) (i : TypeInfo) (z : Value) (size bytes : Nat) (ht : P.underlying t = some (.slice e)) (hi : P.info? e = some i) (hz : i.zero = some z)
    (hsize : i.size = size) (hby : i.bytes = bytes) (hzs : z.cells.size = size) (hsz : 0 < size)
    (v : Value) (n : Nat) (xs : List Value) (hs : a.eval s = v) (hown : w.ownsRow base e size v n xs)
    (ad : Addr) (m c : Nat) (news : List Value) (hx : a.eval x = .slice (some ad) m c) (hl : news.length = m * size)
    (hnews : ∀ j u, news[j]? = some u → w.cell? (ad.add j) = some u) (h1 : ∀ u ∈ news, u.oneCell' = true)
    (h63 : n + m ≤ maxLen) (hbytes : (n + m) * bytes ≤ 140737488355328) (hbase : base ≤ w.heap.size)
    (h : ∀ A' c' w', w'.ownsRow base e size (.slice A' (n + m) c') (n + m) (xs ++ news) → w.grownBy w' v.ownBlock → ((Value.slice A' (n + m) c').ownBlock = v.ownBlock ∨ (Value.slice A' (n + m) c').ownBlock = some w.heap.size) → wpList P ops Q rest (a.put o.dst (.slice A' (n + m) c')) w') : wpList P ops Q (o :: rest) a w := by
  refine wpList_plain hgd fun K hK => ?_
  obtain ⟨v', w', hr, h2, h3, h4, h5⟩ := run_append_own_at (P := P) w base t o.type e i z size bytes ht hi hz hsize hby hzs hsz v n xs hown ad m c news hl hnews h1 h63 hbytes hbase
  have hf : ∃ A' c', v' = .slice A' (n + m) c' := own_form h2
  obtain ⟨A', c', rfl⟩ := hf
  unfold Oper.wp execOp
  simp only [ho, resolve, invoke, builtin, Sem.run_bind, Sem.run_pure, Result.andThen_ok, List.map_toArray, List.map_cons, List.map_nil, hs, hx, hr]
  exact hK _ _ (h A' c' w' h2 h3 h5)
theorem PodFrom.up {B : Nat} {p : Pd} {w v : World} {LA IA MA RA : Option Addr} {LA' : Option Addr} {lc' : Nat} {IA' : Option Addr} {ic' : Nat} {MA' : Option Addr} {mc' : Nat} {RA' : Option Addr} (h : Tl.PodFrom B p w LA IA MA RA) (hp : p.In v LA' lc' IA' ic' MA' mc' RA') : PodUp B p w LA IA MA RA :=
  ⟨⟨h.labels, h.lf, fun k x hk => by
    obtain ⟨hf, a, P, c, hA, h1, h2, hc, hn, hP, _⟩ := h.init k x hk
    exact ⟨hf, a, P, c, hA, h1, h2, hc, hn, hP⟩, fun k x hk => by
    obtain ⟨hf, a, P, c, hA, h1, h2, hc, hn, hP, _⟩ := h.main k x hk
    exact ⟨hf, a, P, c, hA, h1, h2, hc, hn, hP⟩, ⟨hp.spec.nl, hp.spec.ni, hp.spec.nm⟩, hp.spec.restart, hp.spec.grace, hp.spec.prio⟩, h.rs, h.rf, hp.nr, hp.rev⟩
theorem row_cells {w : World} {b : Nat} {cs : List Value} (h : w.rangeAt b 0 cs) : ∀ j u, cs[j]? = some u → w.cell? ((⟨b, 0, none⟩ : Addr).add j) = some u := by
  intro j u hu
  have h1 := h j u hu
  rw [Nat.zero_add] at h1
  rcases j with _ | j
  · exact h1
  · simpa [Addr.add] using h1
/-- does a pod fit? -/
def fitsP (s : List Lbl) (p : Pd) : Bool := fitsL s p.spec.labels
theorem take_fits (s : List Lbl) {l : List Pd} {k : Nat} (hk : k < l.length) : (l.take (k + 1)).filter (fitsP s) = if fitsP s l[k] then (l.take k).filter (fitsP s) ++ [l[k]] else (l.take k).filter (fitsP s) := by
  rw [List.take_succ_eq_append_getElem hk, List.filter_append]
  cases h : fitsP s l[k] with
  | true => simp [h]
  | false => simp [h]
/-- what Filter hands back -/
def Filtered (s : List Lbl) (l : List Pd) (w : World) (e : Ending) (w' : World) : Prop := ∃ A' c', e = .returned (.slice A' (l.filter (fitsP s)).length c') ∧ Pds w' A' (l.filter (fitsP s)) ∧ Below w.heap.size w w'
set_option maxRecDepth 100000 in
set_option maxHeartbeats 4000000 in
theorem filter_any (A : Option Addr) (c : Nat) (s : List Lbl) (B : Option Addr) (d : Nat) (l : List Pd) (hs : s.length ≤ 9223372036854775807) (hl : l.length ≤ 100) (hLt : ∀ p ∈ l, LightP p) (w : World) (hA : Lbls w A s) (hB : Pds w B l) :
    Calls Tryz.prog 12 #[.slice A s.length c, .slice B l.length d] w (Filtered s l w) := by
  obtain ⟨i13, hi13, hz130, hz131, hz132⟩ := info_parts info_pod
  have HLT := Lib.hid hLt
  have HA := Lib.hid hA
  have HB := Lib.hid hB
  have hl' : (l.length : Int) ≤ 100 := by omega
  clear hLt hA hB
  go_enter Tryz.func12, Tryz.ntmps12
  go_wp2_with fail
  go_loopw [5, 10] (fun v i wr => ∃ (k j : Nat) (L : List HP), k ≤ l.length ∧ i = .int .i64 k ∧ L.length = j ∧ j ≤ k ∧ Hid (L.map (·.x) = (l.take k).filter (fitsP s)) ∧ Hid (wr.ownsRow w.heap.size 33 13 v j (flatP L)) ∧ Hid (GatP w.heap.size wr v L) ∧ Hid (Below w.heap.size w wr)) (fun _ i _ => l.length - (RowKit.intOf i).toNat)
  case atStart => exact ⟨0, 0, [], Nat.zero_le _, rfl, rfl, Nat.le_refl _, rfl, World.ownsRow_nil _ _ _ _, GatP.nil _ _ _, Below.refl _ _⟩
  case round =>
    obtain ⟨k, j, L, hk, rfl, hj, hjk, HLX, HO, HG, BW⟩ := hrel
    have HJ := Lib.hid hj
    clear hj
    obtain ⟨PA, pc, rfl⟩ := own_form HO.out
    by_cases hlt : k < l.length
    · obtain ⟨a, LA, lc, IA, ic, MA, mc, RA, rc, rfl, ha, hcIN⟩ := (HB.out.below BW.out).at hlt
      have hka : (k : Int) < (l.length : Int) := by omega
      have HIN := Lib.hid hcIN
      have HMEM := Lib.hid (List.getElem_mem hlt)
      have HTK := Lib.hid (take_fits s hlt)
      obtain ⟨x, ex⟩ : ∃ x, l[k] = x := ⟨_, rfl⟩
      rw [ex] at HIN HMEM HTK
      have hc := HIN.out.1
      have c0 : wr.cell? (a.add (k * 13)) = some (.int .i64 x.uid) := hc.1
      have c1 : wr.cell? ⟨(a.add (k * 13)).block, (a.add (k * 13)).off + 1, none⟩ = some (.int .u64 x.rev) := hc.2 0 _ rfl
      have c2 : wr.cell? ⟨(a.add (k * 13)).block, (a.add (k * 13)).off + 2, none⟩ = some (.string x.spec.name) := hc.2 1 _ rfl
      have c3 : wr.cell? ⟨(a.add (k * 13)).block, (a.add (k * 13)).off + 3, none⟩ = some (.slice LA x.spec.labels.length lc) := hc.2 2 _ rfl
      have c4 : wr.cell? ⟨(a.add (k * 13)).block, (a.add (k * 13)).off + 4, none⟩ = some (.slice IA x.spec.init.length ic) := hc.2 3 _ rfl
      have c5 : wr.cell? ⟨(a.add (k * 13)).block, (a.add (k * 13)).off + 5, none⟩ = some (.slice MA x.spec.main.length mc) := hc.2 4 _ rfl
      have c6 : wr.cell? ⟨(a.add (k * 13)).block, (a.add (k * 13)).off + 6, none⟩ = some (.int .i64 x.spec.restart) := hc.2 5 _ rfl
      have c7 : wr.cell? ⟨(a.add (k * 13)).block, (a.add (k * 13)).off + 7, none⟩ = some (.int .i64 x.spec.grace) := hc.2 6 _ rfl
      have c8 : wr.cell? ⟨(a.add (k * 13)).block, (a.add (k * 13)).off + 8, none⟩ = some (.int .i64 x.spec.prio) := hc.2 7 _ rfl
      have c9 : wr.cell? ⟨(a.add (k * 13)).block, (a.add (k * 13)).off + 9, none⟩ = some (.int .i64 x.phase) := hc.2 8 _ rfl
      have c10 : wr.cell? ⟨(a.add (k * 13)).block, (a.add (k * 13)).off + 10, none⟩ = some (.slice RA x.rs.length rc) := hc.2 9 _ rfl
      have c11 : wr.cell? ⟨(a.add (k * 13)).block, (a.add (k * 13)).off + 11, none⟩ = some (.int .i64 x.mark) := hc.2 10 _ rfl
      have c12 : wr.cell? ⟨(a.add (k * 13)).block, (a.add (k * 13)).off + 12, none⟩ = some (.int .i64 x.grace) := hc.2 11 _ rfl
      clear hc ha ex hcIN
      go_wp2_with fail
      obtain ⟨w5, hw5⟩ : ∃ v, wr.alloc (.cells #[.int .i64 x.uid, .int .u64 x.rev, .string x.spec.name, .slice LA x.spec.labels.length lc, .slice IA x.spec.init.length ic, .slice MA x.spec.main.length mc, .int .i64 x.spec.restart, .int .i64 x.spec.grace, .int .i64 x.spec.prio, .int .i64 x.phase, .slice RA x.rs.length rc, .int .i64 x.mark, .int .i64 x.grace] 33) = v := ⟨_, rfl⟩
      have hb5 : Below wr.heap.size wr w5 := by rw [← hw5]; exact (Below.refl _ _).alloc (Nat.le_refl _) _
      have X5 := Lib.hid (show w5.heap[wr.heap.size]? = some (.cells #[.int .i64 x.uid, .int .u64 x.rev, .string x.spec.name, .slice LA x.spec.labels.length lc, .slice IA x.spec.init.length ic, .slice MA x.spec.main.length mc, .int .i64 x.spec.restart, .int .i64 x.spec.grace, .int .i64 x.spec.prio, .int .i64 x.phase, .slice RA x.rs.length rc, .int .i64 x.mark, .int .i64 x.grace] 33 (0, 0)) by rw [← hw5]; exact heap_alloc_new wr _)
      first | rw [hw5] | skip
      obtain ⟨bx, hbx⟩ : ∃ b, wr.heap.size = b := ⟨_, rfl⟩
      rw [hbx] at X5 ⊢
      have HBX := Lib.hid hbx
      have HB5 := Lib.hid hb5
      have B5 := Lib.hid (BW.out.trans (hb5.mono BW.out.size))
      clear hw5 hb5 hbx c0 c1 c2 c3 c4 c5 c6 c7 c8 c9 c10 c11 c12
      refine (fits_any A c s LA lc x.spec.labels hs HIN.out.2.spec.nl w5 (HA.out.below B5.out) (HIN.out.2.spec.labels.below HB5.out)).mono ?_
      rintro e w6 ⟨rfl, hb6⟩
      have HB6 := Lib.hid (HB5.out.trans (hb6.mono HB5.out.size))
      have B6 := Lib.hid (BW.out.trans (HB6.out.mono BW.out.size))
      have X6 := Lib.hid ((hb6.block bx (lt_of_block X5.out)).trans X5.out)
      have HO6 := Lib.hid (Err.own_keep HO.out HB6.out)
      have HG6 := Lib.hid (HG.out.move HB6.out.size (fun i h1 h2 _ => HB6.out.block i h2))
      clear hb6
      cases hf : fitsL s x.spec.labels with
      | false =>
        have HLN := Lib.hid (show L.map (·.x) = (l.take (k + 1)).filter (fitsP s) by rw [HTK.out, if_neg (by unfold fitsP; rw [hf]; decide)]; exact HLX.out)
        clear hf
        go_wp2_with fail
        go_roundw
        case rel => exact ⟨k + 1, j, L, by omega, by go_num, HJ.out, by omega, HLN.out, HO6.out, HG6.out, B6.out⟩
        case measure => simp [RowKit.intOf]; omega
      | true =>
        have HLN := Lib.hid (show L.map (·.x) ++ [x] = (l.take (k + 1)).filter (fitsP s) by rw [HTK.out, if_pos (by unfold fitsP; exact hf), HLX.out])
        have RG6 := Lib.hid (range_at X6.out 0 [.int .i64 x.uid, .int .u64 x.rev, .string x.spec.name, .slice LA x.spec.labels.length lc, .slice IA x.spec.init.length ic, .slice MA x.spec.main.length mc, .int .i64 x.spec.restart, .int .i64 x.spec.grace, .int .i64 x.spec.prio, .int .i64 x.phase, .slice RA x.rs.length rc, .int .i64 x.mark, .int .i64 x.grace] rfl)
        clear hf
        go_wp2_with (first | (refine wpList_load_mid rfl 33 _ rfl _ _ rfl _ _ RG6.out Tryz.underlying33 rfl (by kernel_rfl) ?_))
        refine (clonePod_any x LA lc IA ic MA mc RA rc (HLT.out x HMEM.out) w6 (HIN.out.2.below HB6.out)).mono ?_
        rintro e w7 ⟨CL, cl, CI, ci, CM, cm, CR, cr, rfl, hpf, hb7⟩
        have HPU := Lib.hid (PodFrom.up hpf HIN.out.2)
        have HB7 := Lib.hid hb7
        have B7 := Lib.hid (B6.out.trans (hb7.mono B6.out.size))
        have HO7 := Lib.hid (Err.own_keep HO6.out hb7)
        have HG7 := Lib.hid ((HG6.out.move hb7.size (fun i h1 h2 _ => hb7.block i h2)).snoc (⟨x, CL, cl, CI, ci, CM, cm, CR, cr, w6.heap.size, w7⟩ : HP) B6.out.size HPU.out (Nat.le_refl _) (fun i _ _ => rfl) (fun r hr => .inl (HO6.out.lt r hr).2))
        clear hpf hb7
        obtain ⟨w8, hw8⟩ : ∃ v, w7.alloc (.cells #[.int .i64 x.uid, .int .u64 x.rev, .string x.spec.name, .slice CL x.spec.labels.length cl, .slice CI x.spec.init.length ci, .slice CM x.spec.main.length cm, .int .i64 x.spec.restart, .int .i64 x.spec.grace, .int .i64 x.spec.prio, .int .i64 x.phase, .slice CR x.rs.length cr, .int .i64 x.mark, .int .i64 x.grace] 33) = v := ⟨_, rfl⟩
        have hb8 : Below w7.heap.size w7 w8 := by rw [← hw8]; exact (Below.refl _ _).alloc (Nat.le_refl _) _
        have X8 := Lib.hid (show w8.heap[w7.heap.size]? = some (.cells #[.int .i64 x.uid, .int .u64 x.rev, .string x.spec.name, .slice CL x.spec.labels.length cl, .slice CI x.spec.init.length ci, .slice CM x.spec.main.length cm, .int .i64 x.spec.restart, .int .i64 x.spec.grace, .int .i64 x.spec.prio, .int .i64 x.phase, .slice CR x.rs.length cr, .int .i64 x.mark, .int .i64 x.grace] 33 (0, 0)) by rw [← hw8]; exact heap_alloc_new w7 _)
        have HB8 := Lib.hid hb8
        have B8 := Lib.hid (B7.out.trans (hb8.mono B7.out.size))
        have HO8 := Lib.hid (Err.own_keep HO7.out hb8)
        have HG8 := Lib.hid (HG7.out.move hb8.size (fun i h1 h2 _ => hb8.block i h2))
        have HW8 := Lib.hid hw8
        have RG8 := Lib.hid (range_at X8.out 0 [.int .i64 x.uid, .int .u64 x.rev, .string x.spec.name, .slice CL x.spec.labels.length cl, .slice CI x.spec.init.length ci, .slice CM x.spec.main.length cm, .int .i64 x.spec.restart, .int .i64 x.spec.grace, .int .i64 x.spec.prio, .int .i64 x.phase, .slice CR x.rs.length cr, .int .i64 x.mark, .int .i64 x.grace] rfl)
        have hsz8 := B8.out.size
        clear hb8 hw8
        go_wp2_with (first
          | (refine wpList_buildPod rfl _ rfl _ _ _ _ _ _ _ _ _ _ _ _ _ rfl HW8.out ?_)
          | (refine wpList_append_lay rfl _ _ 23 rfl w.heap.size 33 i13 (.agg #[.int .i64 0, .int .u64 0, .string ⟨#[]⟩, .slice none 0 0, .slice none 0 0, .slice none 0 0, .int .i64 0, .int .i64 0, .int .i64 0, .int .i64 0, .slice none 0 0, .int .i64 0, .int .i64 0]) 13 176 Tryz.underlying23 hi13 hz130 hz131 hz132 rfl (by decide) (.slice PA j pc) j (flatP L) rfl HO8.out ⟨w7.heap.size, 0, none⟩ 1 1 [.int .i64 x.uid, .int .u64 x.rev, .string x.spec.name, .slice CL x.spec.labels.length cl, .slice CI x.spec.init.length ci, .slice CM x.spec.main.length cm, .int .i64 x.spec.restart, .int .i64 x.spec.grace, .int .i64 x.spec.prio, .int .i64 x.phase, .slice CR x.rs.length cr, .int .i64 x.mark, .int .i64 x.grace] rfl rfl ?f1 ?f2 ?f3 ?f4 ?f5 ?_))
        case f1 => exact row_cells RG8.out
        case f2 => intro u hu; simp only [List.mem_cons, List.not_mem_nil, or_false] at hu; rcases hu with rfl | rfl | rfl | rfl | rfl | rfl | rfl | rfl | rfl | rfl | rfl | rfl | rfl <;> rfl
        case f3 => unfold maxLen; omega
        case f4 => omega
        case f5 => exact hsz8
        intro A' c' w9 hown9 hgrow hat
        have hne : ∀ r, (Value.slice PA j pc).ownBlock = some r → w.heap.size ≤ r := fun r hr => (HO8.out.lt r hr).1
        have B9 := Lib.hid (B8.out.grown hgrow B8.out.size hne)
        have HO9 := Lib.hid (show w9.ownsRow w.heap.size 33 13 (.slice A' (j + 1) c') (j + 1) (flatP (L ++ [(⟨x, CL, cl, CI, ci, CM, cm, CR, cr, w6.heap.size, w7⟩ : HP)])) by rw [flatP_snoc]; exact hown9)
        have HG9 := Lib.hid (HG8.out.moved (v' := .slice A' (j + 1) c') (hat.imp id (fun e => ⟨_, e, Nat.le_refl _⟩)) hgrow.size (fun i h1 h2 h3 => hgrow.block i h2 (fun e => h3 i e.symm rfl)))
        have HLM := Lib.hid (show (L ++ [(⟨x, CL, cl, CI, ci, CM, cm, CR, cr, w6.heap.size, w7⟩ : HP)]).map (·.x) = (l.take (k + 1)).filter (fitsP s) by rw [← HLN.out, List.map_append]; rfl)
        clear hown9 hgrow hat hne hsz8
        go_wp2_with fail
        go_roundw
        case rel => exact ⟨k + 1, j + 1, _, by omega, by go_num, by rw [List.length_append, HJ.out]; rfl, by omega, HLM.out, HO9.out, HG9.out, B9.out⟩
        case measure => simp [RowKit.intOf]; omega
    · have hka : ¬ (k : Int) < (l.length : Int) := by omega
      have HLM := Lib.hid (show L.map (·.x) = l.filter (fitsP s) by rw [HLX.out, List.take_of_length_le (by omega)])
      have HP := Lib.hid (HG.out.up HO.out)
      have HN := Lib.hid (show (l.filter (fitsP s)).length = j by rw [← HLM.out, List.length_map]; exact HJ.out)
      go_wp2_with fail
      go_ret
      exact ⟨PA, pc, by rw [HN.out]; rfl, by rw [← HLM.out]; exact HP.out.pds, BW.out⟩
end Sl
end Go.Proofs.YtaegknpijgjioaaGreatDoor
