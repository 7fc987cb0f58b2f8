/-
  The contracts of provostbook's SameRes, SamePod, SamePods, SameReply, SameEvent, SameMsg: are two the same. All that was there is left as it was. Condition: lists of fewer than 2^63.
-/
import Derived.Test.YtaegknpijgjioaaGreatDoorTellData
import Derived.Test.YtaegknpijgjioaaGreatDoorBookSameSpec
import Derived.Test.YtaegknpijgjioaaGreatDoorRegionAll
import Derived.Test.YtaegknpijgjioaaGreatDoorSpecStepAll
set_option linter.unusedVariables false
set_option linter.unusedSimpArgs false
namespace Go.Proofs.YtaegknpijgjioaaGreatDoor
open Go.ChangeShapes Go.WideShapes Go.ChangeAt Go.RowKit Go.Lib
open LebMath WirePure Sd Wire SpecOwn SpecRef Book Pk
namespace Tl
theorem wpList_load_midG {P : Program} {ops : Array Oper} {rest : List Oper} {op : Oper} {a : Act} {w : World} {Q : Exit → Act → World → Prop} (hw : Region.wanted op (yielded ops a.tmps) = true) (ty : TypeId) (x : Operand) (ho : op.op = .load ty x)
    (b o : Nat) (hx : a.eval x = .pointer (some ⟨b, o, none⟩)) (cs : List Value) (d : TypeDesc) (hc : w.rangeAt b o cs)
    (hu : P.underlying ty = some d) (hd : d.isRow = true) (hi : (P.info? ty).map (·.size) = some cs.length)
    (h : wpList P ops Q rest (a.put op.dst (.agg cs.toArray)) w) : wpList P ops Q (op :: rest) a w :=
  wpList_step fun K hK => by rw [if_pos hw]; exact wp_load_mid ty x ho b o hx cs d hc hu hd hi (hK _ _ h)
theorem nat_eq (n m : Nat) : ((n : Int) == (m : Int)) = (n == m) := by
  by_cases h : n = m
  · subst h; simp
  · rw [beq_eq_false_iff_ne.2 h, beq_eq_false_iff_ne]; omega
def sameUB (x y : Int × Int × Int) : Bool := resB x.1 x.2.1 x.2.2 y.1 y.2.1 y.2.2
theorem sameUB_iff (x y : Int × Int × Int) : sameUB x y = true ↔ x = y := by
  obtain ⟨a, b, c⟩ := x
  obtain ⟨d, e, f⟩ := y
  simp [sameUB, resB, and_assoc]
def samePB (p q : Pd) : Bool := p.uid == q.uid && p.rev == q.rev && sameS p.spec q.spec && p.phase == q.phase && sameIs p.rs q.rs && p.mark == q.mark && p.grace == q.grace
theorem samePB_iff (p q : Pd) : samePB p q = true ↔ p = q := by
  unfold samePB
  simp only [Bool.and_eq_true, beq_iff_eq, sameS_iff, sameIs_iff]
  constructor
  · rintro ⟨⟨⟨⟨⟨⟨h0, h1⟩, h2⟩, h3⟩, h4⟩, h5⟩, h6⟩
    obtain ⟨a0, a1, a2, a3, a4, a5, a6⟩ := p
    obtain ⟨e0, e1, e2, e3, e4, e5, e6⟩ := q
    simp only at h0 h1 h2 h3 h4 h5 h6
    subst h0 h1 h2 h3 h4 h5 h6
    rfl
  · rintro rfl
    simp
def sameEB (u v : Ev) : Bool := u.kind == v.kind && u.rev == v.rev && samePB u.pod v.pod
theorem sameEB_iff (u v : Ev) : sameEB u v = true ↔ u = v := by
  unfold sameEB
  simp only [Bool.and_eq_true, beq_iff_eq, samePB_iff]
  constructor
  · rintro ⟨⟨h0, h1⟩, h2⟩
    obtain ⟨a0, a1, a2⟩ := u
    obtain ⟨e0, e1, e2⟩ := v
    simp only at h0 h1 h2
    subst h0 h1 h2
    rfl
  · rintro rfl
    simp
def sameRB (y z : Rp) : Bool := y.code == z.code && y.uid == z.uid && y.id == z.id && y.rev == z.rev && y.data.toList == z.data.toList && sameAll samePB y.pods z.pods && sameAll sameUB y.use z.use
theorem sameRB_iff (y z : Rp) : sameRB y z = true ↔ y = z := by
  unfold sameRB
  simp only [Bool.and_eq_true, beq_iff_eq, text_eq, sameAll_iff samePB_iff, sameAll_iff sameUB_iff]
  constructor
  · rintro ⟨⟨⟨⟨⟨⟨h0, h1⟩, h2⟩, h3⟩, h4⟩, h5⟩, h6⟩
    obtain ⟨a0, a1, a2, a3, a4, a5, a6⟩ := y
    obtain ⟨e0, e1, e2, e3, e4, e5, e6⟩ := z
    simp only at h0 h1 h2 h3 h4 h5 h6
    subst h0 h1 h2 h3 h4 h5 h6
    rfl
  · rintro rfl
    simp
def sameMB (m n : Mg) : Bool := m.kind == n.kind && m.num == n.num && sameRB m.reply n.reply && sameEB m.event n.event
theorem sameMB_iff (m n : Mg) : sameMB m n = true ↔ m = n := by
  unfold sameMB
  simp only [Bool.and_eq_true, beq_iff_eq, sameRB_iff, sameEB_iff]
  constructor
  · rintro ⟨⟨⟨h0, h1⟩, h2⟩, h3⟩
    obtain ⟨a0, a1, a2, a3⟩ := m
    obtain ⟨e0, e1, e2, e3⟩ := n
    simp only at h0 h1 h2 h3
    subst h0 h1 h2 h3
    rfl
  · rintro rfl
    simp
set_option maxRecDepth 100000 in
set_option maxHeartbeats 4000000 in
theorem samePod_any (p q : Pd) (LA : Option Addr) (lc : Nat) (IA : Option Addr) (ic : Nat) (MA : Option Addr) (mc : Nat) (RA : Option Addr) (rc : Nat) (LAx : Option Addr) (lcx : Nat) (IAx : Option Addr) (icx : Nat) (MAx : Option Addr) (mcx : Nat) (RAx : Option Addr) (rcx : Nat) (w : World) (h : p.In w LA lc IA ic MA mc RA) (hx : q.In w LAx lcx IAx icx MAx mcx RAx) :
    Calls Tryz.prog 25 #[.agg #[.int .i64 p.uid, .int .u64 p.rev, .string p.spec.name, .slice LA p.spec.labels.length lc, .slice IA p.spec.init.length ic, .slice MA p.spec.main.length mc, .int .i64 p.spec.restart, .int .i64 p.spec.grace, .int .i64 p.spec.prio, .int .i64 p.phase, .slice RA p.rs.length rc, .int .i64 p.mark, .int .i64 p.grace], .agg #[.int .i64 q.uid, .int .u64 q.rev, .string q.spec.name, .slice LAx q.spec.labels.length lcx, .slice IAx q.spec.init.length icx, .slice MAx q.spec.main.length mcx, .int .i64 q.spec.restart, .int .i64 q.spec.grace, .int .i64 q.spec.prio, .int .i64 q.phase, .slice RAx q.rs.length rcx, .int .i64 q.mark, .int .i64 q.grace]] w fun e w' => e = .returned (.bool (samePB p q)) ∧ Below w.heap.size w w' := by
  obtain ⟨b0, e0⟩ : ∃ b : Bool, (p.uid == q.uid) = b := ⟨_, rfl⟩
  obtain ⟨b1, e1⟩ : ∃ b : Bool, ((p.rev : Int) == (q.rev : Int)) = b := ⟨_, rfl⟩
  obtain ⟨b2, e2⟩ : ∃ b : Bool, sameS p.spec q.spec = b := ⟨_, rfl⟩
  obtain ⟨b3, e3⟩ : ∃ b : Bool, (p.phase == q.phase) = b := ⟨_, rfl⟩
  obtain ⟨b4, e4⟩ : ∃ b : Bool, sameIs p.rs q.rs = b := ⟨_, rfl⟩
  obtain ⟨b5, e5⟩ : ∃ b : Bool, (p.mark == q.mark) = b := ⟨_, rfl⟩
  obtain ⟨b6, e6⟩ : ∃ b : Bool, (p.grace == q.grace) = b := ⟨_, rfl⟩
  have HR := Lib.hid (show (b0 && b1 && b2 && b3 && b4 && b5 && b6) = samePB p q by rw [← e0, ← e1, ← e2, ← e3, ← e4, ← e5, ← e6]; (try simp only [nat_eq]); rfl)
  have E2 := Lib.hid e2
  clear e2
  have E4 := Lib.hid e4
  clear e4
  have H := Lib.hid h
  have HX := Lib.hid hx
  clear h hx
  obtain ⟨w2, hw2⟩ : ∃ v, (w.alloc (.cells #[.int .i64 p.uid, .int .u64 p.rev, .string p.spec.name, .slice LA p.spec.labels.length lc, .slice IA p.spec.init.length ic, .slice MA p.spec.main.length mc, .int .i64 p.spec.restart, .int .i64 p.spec.grace, .int .i64 p.spec.prio, .int .i64 p.phase, .slice RA p.rs.length rc, .int .i64 p.mark, .int .i64 p.grace] 33)).alloc (.cells #[.int .i64 q.uid, .int .u64 q.rev, .string q.spec.name, .slice LAx q.spec.labels.length lcx, .slice IAx q.spec.init.length icx, .slice MAx q.spec.main.length mcx, .int .i64 q.spec.restart, .int .i64 q.spec.grace, .int .i64 q.spec.prio, .int .i64 q.phase, .slice RAx q.rs.length rcx, .int .i64 q.mark, .int .i64 q.grace] 33) = v := ⟨_, rfl⟩
  have hx : Below w.heap.size w w2 ∧ w2.heap[w.heap.size]? = some (.cells #[.int .i64 p.uid, .int .u64 p.rev, .string p.spec.name, .slice LA p.spec.labels.length lc, .slice IA p.spec.init.length ic, .slice MA p.spec.main.length mc, .int .i64 p.spec.restart, .int .i64 p.spec.grace, .int .i64 p.spec.prio, .int .i64 p.phase, .slice RA p.rs.length rc, .int .i64 p.mark, .int .i64 p.grace] 33) ∧ w2.heap[w.heap.size + 1]? = some (.cells #[.int .i64 q.uid, .int .u64 q.rev, .string q.spec.name, .slice LAx q.spec.labels.length lcx, .slice IAx q.spec.init.length icx, .slice MAx q.spec.main.length mcx, .int .i64 q.spec.restart, .int .i64 q.spec.grace, .int .i64 q.spec.prio, .int .i64 q.phase, .slice RAx q.rs.length rcx, .int .i64 q.mark, .int .i64 q.grace] 33) := by
    subst hw2
    have a1 := heap_alloc_new w (.cells #[.int .i64 p.uid, .int .u64 p.rev, .string p.spec.name, .slice LA p.spec.labels.length lc, .slice IA p.spec.init.length ic, .slice MA p.spec.main.length mc, .int .i64 p.spec.restart, .int .i64 p.spec.grace, .int .i64 p.spec.prio, .int .i64 p.phase, .slice RA p.rs.length rc, .int .i64 p.mark, .int .i64 p.grace] 33)
    have a2 := heap_alloc_new (w.alloc (.cells #[.int .i64 p.uid, .int .u64 p.rev, .string p.spec.name, .slice LA p.spec.labels.length lc, .slice IA p.spec.init.length ic, .slice MA p.spec.main.length mc, .int .i64 p.spec.restart, .int .i64 p.spec.grace, .int .i64 p.spec.prio, .int .i64 p.phase, .slice RA p.rs.length rc, .int .i64 p.mark, .int .i64 p.grace] 33)) (.cells #[.int .i64 q.uid, .int .u64 q.rev, .string q.spec.name, .slice LAx q.spec.labels.length lcx, .slice IAx q.spec.init.length icx, .slice MAx q.spec.main.length mcx, .int .i64 q.spec.restart, .int .i64 q.spec.grace, .int .i64 q.spec.prio, .int .i64 q.phase, .slice RAx q.rs.length rcx, .int .i64 q.mark, .int .i64 q.grace] 33)
    have s1 : (w.alloc (.cells #[.int .i64 p.uid, .int .u64 p.rev, .string p.spec.name, .slice LA p.spec.labels.length lc, .slice IA p.spec.init.length ic, .slice MA p.spec.main.length mc, .int .i64 p.spec.restart, .int .i64 p.spec.grace, .int .i64 p.spec.prio, .int .i64 p.phase, .slice RA p.rs.length rc, .int .i64 p.mark, .int .i64 p.grace] 33)).heap.size = w.heap.size + 1 := by simp
    have k2 := ((Below.refl (w.heap.size + 1) (w.alloc (.cells #[.int .i64 p.uid, .int .u64 p.rev, .string p.spec.name, .slice LA p.spec.labels.length lc, .slice IA p.spec.init.length ic, .slice MA p.spec.main.length mc, .int .i64 p.spec.restart, .int .i64 p.spec.grace, .int .i64 p.spec.prio, .int .i64 p.phase, .slice RA p.rs.length rc, .int .i64 p.mark, .int .i64 p.grace] 33))).alloc (by omega) (.cells #[.int .i64 q.uid, .int .u64 q.rev, .string q.spec.name, .slice LAx q.spec.labels.length lcx, .slice IAx q.spec.init.length icx, .slice MAx q.spec.main.length mcx, .int .i64 q.spec.restart, .int .i64 q.spec.grace, .int .i64 q.spec.prio, .int .i64 q.phase, .slice RAx q.rs.length rcx, .int .i64 q.mark, .int .i64 q.grace] 33)).block
    rw [s1] at a2
    exact ⟨((Below.refl _ _).alloc (Nat.le_refl _) _).alloc (by omega) _, (k2 _ (by omega)).trans a1, a2⟩
  have B2 := Lib.hid hx.1
  have X2 := Lib.hid hx.2.1
  have Y2 := Lib.hid hx.2.2
  clear hx
  have c0 := box_cell X2.out 0 rfl
  have d0 := box_cell Y2.out 0 rfl
  have c1 := box_cell X2.out 1 rfl
  have d1 := box_cell Y2.out 1 rfl
  have RGA := Lib.hid (range_at X2.out 2 [.string p.spec.name, .slice LA p.spec.labels.length lc, .slice IA p.spec.init.length ic, .slice MA p.spec.main.length mc, .int .i64 p.spec.restart, .int .i64 p.spec.grace, .int .i64 p.spec.prio] rfl)
  have RGB := Lib.hid (range_at Y2.out 2 [.string q.spec.name, .slice LAx q.spec.labels.length lcx, .slice IAx q.spec.init.length icx, .slice MAx q.spec.main.length mcx, .int .i64 q.spec.restart, .int .i64 q.spec.grace, .int .i64 q.spec.prio] rfl)
  go_enter Tryz.func25, Tryz.ntmps25
  cases b0 with
  | false =>
    have HD := Lib.hid (show false = samePB p q from by have := HR.out; simpa using this)
    go_wp2
    go_ret
    exact ⟨Book.ret_b HD.out, B2.out⟩
  | true =>
    cases b1 with
    | false =>
      have HD := Lib.hid (show false = samePB p q from by have := HR.out; simpa using this)
      go_wp2
      go_ret
      exact ⟨Book.ret_b HD.out, B2.out⟩
    | true =>
      go_wp2_with (first | (refine wpList_load_mid rfl _ _ rfl _ _ rfl _ _ RGA.out Tryz.underlying30 rfl (by kernel_rfl) ?_) | (refine wpList_load_midG rfl _ _ rfl _ _ rfl _ _ RGA.out Tryz.underlying30 rfl (by kernel_rfl) ?_) | (refine wpList_load_mid rfl _ _ rfl _ _ rfl _ _ RGB.out Tryz.underlying30 rfl (by kernel_rfl) ?_) | (refine wpList_load_midG rfl _ _ rfl _ _ rfl _ _ RGB.out Tryz.underlying30 rfl (by kernel_rfl) ?_))
      refine (sameSpec_any p.spec LA lc IA ic MA mc q.spec LAx lcx IAx icx MAx mcx w2 (H.out.spec.below B2.out) (HX.out.spec.below B2.out)).mono ?_
      rintro e w3 ⟨rfl, hb3⟩
      have B3 := Lib.hid (B2.out.trans (hb3.mono B2.out.size))
      have X3 := Lib.hid ((hb3.block w.heap.size (lt_of_block X2.out)).trans X2.out)
      have Y3 := Lib.hid ((hb3.block (w.heap.size + 1) (lt_of_block Y2.out)).trans Y2.out)
      clear hb3 X2 Y2 hw2 c0 d0 c1 d1 RGA RGB
      rw [E2.out]
      as_aux_lemma =>
        have c9 := box_cell X3.out 9 rfl
        have d9 := box_cell Y3.out 9 rfl
        have c10 := box_cell X3.out 10 rfl
        have d10 := box_cell Y3.out 10 rfl
        cases b2 with
        | false =>
          have HD := Lib.hid (show false = samePB p q from by have := HR.out; simpa using this)
          go_wp2
          go_ret
          exact ⟨Book.ret_b HD.out, B3.out⟩
        | true =>
          cases b3 with
          | false =>
            have HD := Lib.hid (show false = samePB p q from by have := HR.out; simpa using this)
            go_wp2
            go_ret
            exact ⟨Book.ret_b HD.out, B3.out⟩
          | true =>
            go_wp2_with fail
            refine (sameInts_any RA rc p.rs RAx rcx q.rs H.out.nr HX.out.nr w3 (Sd.Nums.below H.out.rs B3.out) (Sd.Nums.below HX.out.rs B3.out)).mono ?_
            rintro e w4 ⟨rfl, hb4⟩
            have B4 := Lib.hid (B3.out.trans (hb4.mono B3.out.size))
            have X4 := Lib.hid ((hb4.block w.heap.size (lt_of_block X3.out)).trans X3.out)
            have Y4 := Lib.hid ((hb4.block (w.heap.size + 1) (lt_of_block Y3.out)).trans Y3.out)
            clear hb4 X3 Y3 c9 d9 c10 d10
            rw [E4.out]
            as_aux_lemma =>
              have c11 := box_cell X4.out 11 rfl
              have d11 := box_cell Y4.out 11 rfl
              have c12 := box_cell X4.out 12 rfl
              have d12 := box_cell Y4.out 12 rfl
              cases b4 with
              | false =>
                have HD := Lib.hid (show false = samePB p q from by have := HR.out; simpa using this)
                go_wp2
                go_ret
                exact ⟨Book.ret_b HD.out, B4.out⟩
              | true =>
                cases b5 with
                | false =>
                  have HD := Lib.hid (show false = samePB p q from by have := HR.out; simpa using this)
                  go_wp2
                  go_ret
                  exact ⟨Book.ret_b HD.out, B4.out⟩
                | true =>
                  have HD := Lib.hid (show b6 = samePB p q from by have := HR.out; simpa using this)
                  go_wp2
                  go_ret
                  exact ⟨Book.ret_b HD.out, B4.out⟩
/-- what each operation leaves -/
def FSP (x y : Pd) (LA : Option Addr) (lc : Nat) (IA : Option Addr) (ic : Nat) (MA : Option Addr) (mc : Nat) (RA : Option Addr) (rc : Nat) (LAx : Option Addr) (lcx : Nat) (IAx : Option Addr) (icx : Nat) (MAx : Option Addr) (mcx : Nat) (RAx : Option Addr) (rcx : Nat) (ad bd : Addr) (na ac nb bc k : Nat) (t : Bool) : Nat → Value → World → Prop
  | 0 => fun v _ => v = .slice (some ad) na ac
  | 1 => fun v _ => v = .int .i64 (k : Nat)
  | 2 => fun v _ => v = .pointer (some (ad.add (k * 13)))
  | 3 => fun v _ => v = .agg #[.int .i64 x.uid, .int .u64 x.rev, .string x.spec.name, .slice LA x.spec.labels.length lc, .slice IA x.spec.init.length ic, .slice MA x.spec.main.length mc, .int .i64 x.spec.restart, .int .i64 x.spec.grace, .int .i64 x.spec.prio, .int .i64 x.phase, .slice RA x.rs.length rc, .int .i64 x.mark, .int .i64 x.grace]
  | 4 => fun v _ => v = .slice (some bd) nb bc
  | 5 => fun v _ => v = .int .i64 (k : Nat)
  | 6 => fun v _ => v = .pointer (some (bd.add (k * 13)))
  | 7 => fun v _ => v = .agg #[.int .i64 y.uid, .int .u64 y.rev, .string y.spec.name, .slice LAx y.spec.labels.length lcx, .slice IAx y.spec.init.length icx, .slice MAx y.spec.main.length mcx, .int .i64 y.spec.restart, .int .i64 y.spec.grace, .int .i64 y.spec.prio, .int .i64 y.phase, .slice RAx y.rs.length rcx, .int .i64 y.mark, .int .i64 y.grace]
  | 8 => fun v _ => v = .bool t
  | _ => fun v _ => v = .bool t
theorem FSP_keep (x y : Pd) (LA : Option Addr) (lc : Nat) (IA : Option Addr) (ic : Nat) (MA : Option Addr) (mc : Nat) (RA : Option Addr) (rc : Nat) (LAx : Option Addr) (lcx : Nat) (IAx : Option Addr) (icx : Nat) (MAx : Option Addr) (mcx : Nat) (RAx : Option Addr) (rcx : Nat) (ad bd : Addr) (na ac nb bc k : Nat) (t : Bool) (i_ : Nat) (v_ : Value) (w_ w2_ : World) (h_ : FSP x y LA lc IA ic MA mc RA rc LAx lcx IAx icx MAx mcx RAx rcx ad bd na ac nb bc k t i_ v_ w_) (hb_ : Below w_.heap.size w_ w2_) : FSP x y LA lc IA ic MA mc RA rc LAx lcx IAx icx MAx mcx RAx rcx ad bd na ac nb bc k t i_ v_ w2_ := by
  unfold FSP at h_ ⊢
  split at h_ <;> exact h_
set_option maxRecDepth 100000 in
set_option maxHeartbeats 4000000 in
theorem samePods_any (A : Option Addr) (ac : Nat) (la : List Pd) (B : Option Addr) (bc : Nat) (lb : List Pd) (hl : la.length ≤ 9223372036854775807) (hm : lb.length ≤ 9223372036854775807) (w : World) (hA : Pds w A la) (hB : Pds w B lb) :
    Calls Tryz.prog 11 #[.slice A la.length ac, .slice B lb.length bc] w fun e w' => e = .returned (.bool (sameAll samePB la lb)) ∧ Below w.heap.size w w' := by
  have HA := Lib.hid hA
  have HB := Lib.hid hB
  have hl' : (la.length : Int) ≤ 9223372036854775807 := by omega
  have hm' : (lb.length : Int) ≤ 9223372036854775807 := by omega
  clear hA hB hl hm
  go_enter Tryz.func11, Tryz.ntmps11
  go_wp2_with fail
  go_loopw [5, 6] (fun sm i wr => ∃ (k : Nat) (s : Bool), k ≤ la.length ∧ sm = .bool s ∧ i = .int .i64 k ∧ Hid (Below w.heap.size w wr) ∧ Hid (Far la lb k s)) (fun _ i _ => la.length - (RowKit.intOf i).toNat)
  case atStart => exact ⟨0, _, Nat.zero_le _, rfl, rfl, Below.refl _ _, far_start la lb⟩
  case round =>
    obtain ⟨k, s, hk, rfl, rfl, HW, HF⟩ := hrel
    cases s with
    | false =>
      have HD := Lib.hid (show false = sameAll samePB la lb from Book.same_bool ((HF.out.done (fun h => by cases h)).trans (sameAll_iff samePB_iff la lb).symm))
      go_wp2
      go_ret
      exact ⟨Book.ret_b HD.out, HW.out⟩
    | true =>
      have hlen := (HF.out.1 rfl).1
      by_cases hlt : k < la.length
      · have hlb : k < lb.length := by omega
        obtain ⟨ad, LA, lc, IA, ic, MA, mc, RA, rc, rfl, hp, hc⟩ := (HA.out.below HW.out).at hlt
        obtain ⟨bd, LAx, lcx, IAx, icx, MAx, mcx, RAx, rcx, rfl, hq, hd⟩ := (HB.out.below HW.out).at hlb
        obtain ⟨t, ht⟩ : ∃ t : Bool, samePB la[k] lb[k] = t := ⟨_, rfl⟩
        have HN := Lib.hid (show Far la lb (k + 1) t from HF.out.next hlt hlb (by rw [← ht]; exact samePB_iff _ _))
        obtain ⟨x, hx⟩ : ∃ x, la[k] = x := ⟨_, rfl⟩
        obtain ⟨y, hy⟩ : ∃ y, lb[k] = y := ⟨_, rfl⟩
        rw [hx] at hc ht
        rw [hy] at hd ht
        have HC := Lib.hid hc
        have HDD := Lib.hid hd
        have HT := Lib.hid ht
        have HadB := Lib.hid hp
        have HbdB := Lib.hid hq
        have hka : (k : Int) < (la.length : Int) := by omega
        have hkb : (k : Int) < (lb.length : Int) := by omega
        skip
        clear hx hy hp hq hlen hc hd ht
        as_aux_lemma =>
          go_wp2_with fail
          refine Loose.wp_region_walk (by kernel_rfl) (by kernel_rfl) (FSP x y LA lc IA ic MA mc RA rc LAx lcx IAx icx MAx mcx RAx rcx ad bd la.length ac lb.length bc k t) (FSP_keep x y LA lc IA ic MA mc RA rc LAx lcx IAx icx MAx mcx RAx rcx ad bd la.length ac lb.length bc k t) ?_ ?_
          · refine ⟨?_, ?_, ?_, ?_, ?_, ?_, ?_, ?_, ?_, ?_, trivial⟩
            · intro a w1 hfr hdep
              have f0 : a.tmps.getD 0 undef = .slice (some ad) la.length ac := hfr.slot 0 (by kernel_rfl)
              refine Loose.Step.value rfl (v := .slice (some ad) la.length ac) (w' := w1) ?_ rfl (Below.refl _ _)
              simp [go_sem, Act.eval, f0]
            · intro a w1 hfr hdep
              have f0 : a.tmps.getD 6 undef = .int .i64 (k : Nat) := hfr.slot 6 (by kernel_rfl)
              refine Loose.Step.value rfl (v := .int .i64 (k : Nat)) (w' := w1) ?_ rfl (Below.refl _ _)
              simp [go_sem, Act.eval, f0]
            · intro a w1 hfr hdep
              have e0 : a.tmps.getD 27 undef = .slice (some ad) la.length ac := Loose.dep_of hdep 0 27 (by kernel_rfl)
              have e1 : a.tmps.getD 28 undef = .int .i64 (k : Nat) := Loose.dep_of hdep 1 28 (by kernel_rfl)
              refine Loose.Step.value rfl (v := .pointer (some (ad.add (k * 13)))) (w' := w1) ?_ rfl (Below.refl _ _)
              simp [go_sem, Act.eval, e0, e1, hka, hlt]
            · intro a w1 hfr hdep
              have hl_ := run_load_addr w1 (ad.add (k * 13)) 33 [.int .i64 x.uid, .int .u64 x.rev, .string x.spec.name, .slice LA x.spec.labels.length lc, .slice IA x.spec.init.length ic, .slice MA x.spec.main.length mc, .int .i64 x.spec.restart, .int .i64 x.spec.grace, .int .i64 x.spec.prio, .int .i64 x.phase, .slice RA x.rs.length rc, .int .i64 x.mark, .int .i64 x.grace] _ (CellsAt.all (HC.out.1.keep (by rw [Lists.add_block]; exact hfr.below.block _ HadB.out))) Tryz.underlying33 rfl (by kernel_rfl)
              have e0 : a.tmps.getD 29 undef = .pointer (some (ad.add (k * 13))) := Loose.dep_of hdep 2 29 (by kernel_rfl)
              refine Loose.Step.value rfl (v := .agg #[.int .i64 x.uid, .int .u64 x.rev, .string x.spec.name, .slice LA x.spec.labels.length lc, .slice IA x.spec.init.length ic, .slice MA x.spec.main.length mc, .int .i64 x.spec.restart, .int .i64 x.spec.grace, .int .i64 x.spec.prio, .int .i64 x.phase, .slice RA x.rs.length rc, .int .i64 x.mark, .int .i64 x.grace]) (w' := w1) ?_ rfl (Below.refl _ _)
              unfold execOp; simp only [Act.eval, e0, Instr.loadAt, Instr.sureAddr, Sem.run_bind, Sem.run_pure, Result.andThen_ok, hl_]
            · intro a w1 hfr hdep
              have f0 : a.tmps.getD 1 undef = .slice (some bd) lb.length bc := hfr.slot 1 (by kernel_rfl)
              refine Loose.Step.value rfl (v := .slice (some bd) lb.length bc) (w' := w1) ?_ rfl (Below.refl _ _)
              simp [go_sem, Act.eval, f0]
            · intro a w1 hfr hdep
              have f0 : a.tmps.getD 6 undef = .int .i64 (k : Nat) := hfr.slot 6 (by kernel_rfl)
              refine Loose.Step.value rfl (v := .int .i64 (k : Nat)) (w' := w1) ?_ rfl (Below.refl _ _)
              simp [go_sem, Act.eval, f0]
            · intro a w1 hfr hdep
              have e0 : a.tmps.getD 31 undef = .slice (some bd) lb.length bc := Loose.dep_of hdep 4 31 (by kernel_rfl)
              have e1 : a.tmps.getD 32 undef = .int .i64 (k : Nat) := Loose.dep_of hdep 5 32 (by kernel_rfl)
              refine Loose.Step.value rfl (v := .pointer (some (bd.add (k * 13)))) (w' := w1) ?_ rfl (Below.refl _ _)
              simp [go_sem, Act.eval, e0, e1, hkb, hlb]
            · intro a w1 hfr hdep
              have hl_ := run_load_addr w1 (bd.add (k * 13)) 33 [.int .i64 y.uid, .int .u64 y.rev, .string y.spec.name, .slice LAx y.spec.labels.length lcx, .slice IAx y.spec.init.length icx, .slice MAx y.spec.main.length mcx, .int .i64 y.spec.restart, .int .i64 y.spec.grace, .int .i64 y.spec.prio, .int .i64 y.phase, .slice RAx y.rs.length rcx, .int .i64 y.mark, .int .i64 y.grace] _ (CellsAt.all (HDD.out.1.keep (by rw [Lists.add_block]; exact hfr.below.block _ HbdB.out))) Tryz.underlying33 rfl (by kernel_rfl)
              have e0 : a.tmps.getD 33 undef = .pointer (some (bd.add (k * 13))) := Loose.dep_of hdep 6 33 (by kernel_rfl)
              refine Loose.Step.value rfl (v := .agg #[.int .i64 y.uid, .int .u64 y.rev, .string y.spec.name, .slice LAx y.spec.labels.length lcx, .slice IAx y.spec.init.length icx, .slice MAx y.spec.main.length mcx, .int .i64 y.spec.restart, .int .i64 y.spec.grace, .int .i64 y.spec.prio, .int .i64 y.phase, .slice RAx y.rs.length rcx, .int .i64 y.mark, .int .i64 y.grace]) (w' := w1) ?_ rfl (Below.refl _ _)
              unfold execOp; simp only [Act.eval, e0, Instr.loadAt, Instr.sureAddr, Sem.run_bind, Sem.run_pure, Result.andThen_ok, hl_]
            · intro a w1 hfr hdep
              have e0 : a.tmps.getD 30 undef = .agg #[.int .i64 x.uid, .int .u64 x.rev, .string x.spec.name, .slice LA x.spec.labels.length lc, .slice IA x.spec.init.length ic, .slice MA x.spec.main.length mc, .int .i64 x.spec.restart, .int .i64 x.spec.grace, .int .i64 x.spec.prio, .int .i64 x.phase, .slice RA x.rs.length rc, .int .i64 x.mark, .int .i64 x.grace] := Loose.dep_of hdep 3 30 (by kernel_rfl)
              have e1 : a.tmps.getD 34 undef = .agg #[.int .i64 y.uid, .int .u64 y.rev, .string y.spec.name, .slice LAx y.spec.labels.length lcx, .slice IAx y.spec.init.length icx, .slice MAx y.spec.main.length mcx, .int .i64 y.spec.restart, .int .i64 y.spec.grace, .int .i64 y.spec.prio, .int .i64 y.phase, .slice RAx y.rs.length rcx, .int .i64 y.mark, .int .i64 y.grace] := Loose.dep_of hdep 7 34 (by kernel_rfl)
              refine Loose.Step.call rfl (f := 25) (args := #[.agg #[.int .i64 x.uid, .int .u64 x.rev, .string x.spec.name, .slice LA x.spec.labels.length lc, .slice IA x.spec.init.length ic, .slice MA x.spec.main.length mc, .int .i64 x.spec.restart, .int .i64 x.spec.grace, .int .i64 x.spec.prio, .int .i64 x.phase, .slice RA x.rs.length rc, .int .i64 x.mark, .int .i64 x.grace], .agg #[.int .i64 y.uid, .int .u64 y.rev, .string y.spec.name, .slice LAx y.spec.labels.length lcx, .slice IAx y.spec.init.length icx, .slice MAx y.spec.main.length mcx, .int .i64 y.spec.restart, .int .i64 y.spec.grace, .int .i64 y.spec.prio, .int .i64 y.phase, .slice RAx y.rs.length rcx, .int .i64 y.mark, .int .i64 y.grace]]) ?_ ?_
              · simp [go_sem, Act.eval, e0, e1]
              · refine (samePod_any x y LA lc IA ic MA mc RA rc LAx lcx IAx icx MAx mcx RAx rcx w1 (HC.out.2.below hfr.below) (HDD.out.2.below hfr.below)).mono ?_
                rintro e w2 ⟨rfl, hb⟩
                rw [HT.out]
                exact ⟨_, rfl, rfl, hb⟩
            · intro a w1 hfr hdep
              have e0 : a.tmps.getD 35 undef = .bool t := Loose.dep_of hdep 8 35 (by kernel_rfl)
              refine Loose.Step.value rfl (v := .bool t) (w' := w1) ?_ rfl (Below.refl _ _)
              simp [go_sem, Act.eval, e0]
          · intro v0 v1 v2 v3 v4 v5 v6 v7 v8 v9 w5 hb5 hC
            have h1 : v9 = .bool t := hC.2
            subst h1
            have HW5 := Lib.hid (HW.out.trans (hb5.mono HW.out.size))
            clear hb5 hC
            simp only [SpecOwn.put_lit, List.set_cons_succ, List.set_cons_zero]
            go_wp2
            go_roundw
            case rel => exact ⟨k + 1, t, by omega, rfl, by go_num, HW5.out, HN.out⟩
            case measure => simp [RowKit.intOf]; omega
      · have hka : ¬ (k : Int) < (la.length : Int) := by omega
        have HD := Lib.hid (show true = sameAll samePB la lb from Book.same_bool ((HF.out.done (fun _ => by omega)).trans (sameAll_iff samePB_iff la lb).symm))
        clear hlen
        go_wp2
        go_ret
        exact ⟨Book.ret_b HD.out, HW.out⟩
/-- what each operation leaves -/
def FSR (x y : (Int × Int × Int))  (ad bd : Addr) (na ac nb bc k : Nat) (t : Bool) : Nat → Value → World → Prop
  | 0 => fun v _ => v = .slice (some ad) na ac
  | 1 => fun v _ => v = .int .i64 (k : Nat)
  | 2 => fun v _ => v = .pointer (some (ad.add (k * 3)))
  | 3 => fun v _ => v = .agg #[.int .i64 x.1, .int .i64 x.2.1, .int .i64 x.2.2]
  | 4 => fun v _ => v = .slice (some bd) nb bc
  | 5 => fun v _ => v = .int .i64 (k : Nat)
  | 6 => fun v _ => v = .pointer (some (bd.add (k * 3)))
  | 7 => fun v _ => v = .agg #[.int .i64 y.1, .int .i64 y.2.1, .int .i64 y.2.2]
  | 8 => fun v _ => v = .bool t
  | _ => fun v _ => v = .bool t
theorem FSR_keep (x y : (Int × Int × Int))  (ad bd : Addr) (na ac nb bc k : Nat) (t : Bool) (i_ : Nat) (v_ : Value) (w_ w2_ : World) (h_ : FSR x y  ad bd na ac nb bc k t i_ v_ w_) (hb_ : Below w_.heap.size w_ w2_) : FSR x y  ad bd na ac nb bc k t i_ v_ w2_ := by
  unfold FSR at h_ ⊢
  split at h_ <;> exact h_
end Tl
end Go.Proofs.YtaegknpijgjioaaGreatDoor
