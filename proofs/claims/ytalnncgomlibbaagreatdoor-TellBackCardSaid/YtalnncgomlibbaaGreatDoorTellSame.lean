/-
 The contracts of provostbook's SameRes, SamePod, SamePods, SameReply, SameEvent, SameMsg: are two the same. All that was there is left as it was. Condition: lists of fewer than 2^63.
-/
import Derived.Test.YtalnncgomlibbaaGreatDoorTellData
import Derived.Test.YtalnncgomlibbaaGreatDoorSpecDataAll
import Derived.Test.YtalnncgomlibbaaGreatDoorRegionAll
import Derived.Test.YtalnncgomlibbaaGreatDoorSpecStepAll
set_option linter.unusedVariables false
set_option linter.unusedSimpArgs false
namespace Go.Proofs.YtalnncgomlibbaaGreatDoor
open Go.ChangeShapes Go.WideShapes Go.ChangeAt Go.RowKit Go.Lib
open LebMath WirePure Sd Wire SpecOwn SpecRef Book Pk
namespace Tl
theorem wpList_load_midG {P : Program} {ops : Array Oper} {rest : List Oper} {op : Oper} {a : Act} {w : World} {Q : Exit → Act → World → Prop} (hw : Region.wanted op (yielded ops a.tmps) = true) (ty : TypeId) (x : Operand) (ho : op.op = .load ty x)
 (b o : Nat) (hx : a.eval x = .pointer (some ⟨b, o, none⟩)) (cs : List Value) (d : TypeDesc) (hc : w.rangeAt b o cs)
 (hu : P.underlying ty = some d) (hd : d.isRow = true) (hi : (P.info? ty).map (·.size) = some cs.length)
 (h : wpList P ops Q rest (a.put op.dst (.agg cs.toArray)) w) : wpList P ops Q (op :: rest) a w :=
 wpList_step fun K hK => by rw [if_pos hw]; exact wp_load_mid ty x ho b o hx cs d hc hu hd hi (hK _ _ h)
theorem nat_eq (n m : Nat) : ((n : Int) == (m : Int)) = (n == m) := by
 by_cases h : n = m
 · subst h; simp
 · rw [beq_eq_false_iff_ne.2 h, beq_eq_false_iff_ne]; omega
def sameUB (x y : Int × Int × Int) : Bool := resB x.1 x.2.1 x.2.2 y.1 y.2.1 y.2.2
theorem sameUB_iff (x y : Int × Int × Int) : sameUB x y = true ↔ x = y := by
 obtain ⟨a, b, c⟩ := x
 obtain ⟨d, e, f⟩ := y
 simp [sameUB, resB, and_assoc]
def samePB (p q : Pd) : Bool := p.uid == q.uid && p.rev == q.rev && sameS p.spec q.spec && p.phase == q.phase && sameIs p.rs q.rs && p.mark == q.mark && p.grace == q.grace
theorem samePB_iff (p q : Pd) : samePB p q = true ↔ p = q := by
 unfold samePB
 simp only [Bool.and_eq_true, beq_iff_eq, sameS_iff, sameIs_iff]
 constructor
 · rintro ⟨⟨⟨⟨⟨⟨h0, h1⟩, h2⟩, h3⟩, h4⟩, h5⟩, h6⟩
   obtain ⟨a0, a1, a2, a3, a4, a5, a6⟩ := p
   obtain ⟨e0, e1, e2, e3, e4, e5, e6⟩ := q
   simp only at h0 h1 h2 h3 h4 h5 h6
   subst h0 h1 h2 h3 h4 h5 h6
   rfl
 · rintro rfl
   simp
def sameEB (u v : Ev) : Bool := u.kind == v.kind && u.rev == v.rev && samePB u.pod v.pod
theorem sameEB_iff (u v : Ev) : sameEB u v = true ↔ u = v := by
 unfold sameEB
 simp only [Bool.and_eq_true, beq_iff_eq, samePB_iff]
 constructor
 · rintro ⟨⟨h0, h1⟩, h2⟩
   obtain ⟨a0, a1, a2⟩ := u
   obtain ⟨e0, e1, e2⟩ := v
   simp only at h0 h1 h2
   subst h0 h1 h2
   rfl
 · rintro rfl
   simp
def sameRB (y z : Rp) : Bool := y.code == z.code && y.uid == z.uid && y.id == z.id && y.rev == z.rev && y.data.toList == z.data.toList && sameAll samePB y.pods z.pods && sameAll sameUB y.use z.use
theorem sameRB_iff (y z : Rp) : sameRB y z = true ↔ y = z := by
 unfold sameRB
 simp only [Bool.and_eq_true, beq_iff_eq, text_eq, sameAll_iff samePB_iff, sameAll_iff sameUB_iff]
 constructor
 · rintro ⟨⟨⟨⟨⟨⟨h0, h1⟩, h2⟩, h3⟩, h4⟩, h5⟩, h6⟩
   obtain ⟨a0, a1, a2, a3, a4, a5, a6⟩ := y
   obtain ⟨e0, e1, e2, e3, e4, e5, e6⟩ := z
   simp only at h0 h1 h2 h3 h4 h5 h6
   subst h0 h1 h2 h3 h4 h5 h6
   rfl
 · rintro rfl
   simp
def sameMB (m n : Mg) : Bool := m.kind == n.kind && m.num == n.num && sameRB m.reply n.reply && sameEB m.event n.event
theorem sameMB_iff (m n : Mg) : sameMB m n = true ↔ m = n := by
 unfold sameMB
 simp only [Bool.and_eq_true, beq_iff_eq, sameRB_iff, sameEB_iff]
 constructor
 · rintro ⟨⟨⟨h0, h1⟩, h2⟩, h3⟩
   obtain ⟨a0, a1, a2, a3⟩ := m
   obtain ⟨e0, e1, e2, e3⟩ := n
   simp only at h0 h1 h2 h3
   subst h0 h1 h2 h3
   rfl
 · rintro rfl
   simp
set_option maxRecDepth 100000 in
set_option maxHeartbeats 4000000 in
theorem samePod_any (p q : Pd) (LA : Option Addr) (lc : Nat) (IA : Option Addr) (ic : Nat) (MA : Option Addr) (mc : Nat) (RA : Option Addr) (rc : Nat) (LAx : Option Addr) (lcx : Nat) (IAx : Option Addr) (icx : Nat) (MAx : Option Addr) (mcx : Nat) (RAx : Option Addr) (rcx : Nat) (w : World) (h : p.In w LA lc IA ic MA mc RA) (hx : q.In w LAx lcx IAx icx MAx mcx RAx) :
 Calls Tryz.prog 19 #[.agg #[.int .i64 p.uid, .int .u64 p.rev, .string p.spec.name, .slice LA p.spec.labels.length lc, .slice IA p.spec.init.length ic, .slice MA p.spec.main.length mc, .int .i64 p.spec.restart, .int .i64 p.spec.grace, .int .i64 p.spec.prio, .int .i64 p.phase, .slice RA p.rs.length rc, .int .i64 p.mark, .int .i64 p.grace], .agg #[.int .i64 q.uid, .int .u64 q.rev, .string q.spec.name, .slice LAx q.spec.labels.length lcx, .slice IAx q.spec.init.length icx, .slice MAx q.spec.main.length mcx, .int .i64 q.spec.restart, .int .i64 q.spec.grace, .int .i64 q.spec.prio, .int .i64 q.phase, .slice RAx q.rs.length rcx, .int .i64 q.mark, .int .i64 q.grace]] w fun e w' => e = .returned (.bool (samePB p q)) ∧ Below w.heap.size w w' := by
 obtain ⟨b0, e0⟩ : ∃ b : Bool, (p.uid == q.uid) = b := ⟨_, rfl⟩
 obtain ⟨b1, e1⟩ : ∃ b : Bool, ((p.rev : Int) == (q.rev : Int)) = b := ⟨_, rfl⟩
 obtain ⟨b2, e2⟩ : ∃ b : Bool, sameS p.spec q.spec = b := ⟨_, rfl⟩
 obtain ⟨b3, e3⟩ : ∃ b : Bool, (p.phase == q.phase) = b := ⟨_, rfl⟩
 obtain ⟨b4, e4⟩ : ∃ b : Bool, sameIs p.rs q.rs = b := ⟨_, rfl⟩
 obtain ⟨b5, e5⟩ : ∃ b : Bool, (p.mark == q.mark) = b := ⟨_, rfl⟩
 obtain ⟨b6, e6⟩ : ∃ b : Bool, (p.grace == q.grace) = b := ⟨_, rfl⟩
 have HR := Lib.hid (show (b0 && b1 && b2 && b3 && b4 && b5 && b6) = samePB p q by rw [← e0, ← e1, ← e2, ← e3, ← e4, ← e5, ← e6]; (try simp only [nat_eq]); rfl)
 have E2 := Lib.hid e2
 clear e2
 have E4 := Lib.hid e4
 clear e4
 have H := Lib.hid h
 have HX := Lib.hid hx
 clear h hx
 obtain ⟨w2, hw2⟩ : ∃ v, (w.alloc (.cells #[.int .i64 p.uid, .int .u64 p.rev, .string p.spec.name, .slice LA p.spec.labels.length lc, .slice IA p.spec.init.length ic, .slice MA p.spec.main.length mc, .int .i64 p.spec.restart, .int .i64 p.spec.grace, .int .i64 p.spec.prio, .int .i64 p.phase, .slice RA p.rs.length rc, .int .i64 p.mark, .int .i64 p.grace] 42)).alloc (.cells #[.int .i64 q.uid, .int .u64 q.rev, .string q.spec.name, .slice LAx q.spec.labels.length lcx, .slice IAx q.spec.init.length icx, .slice MAx q.spec.main.length mcx, .int .i64 q.spec.restart, .int .i64 q.spec.grace, .int .i64 q.spec.prio, .int .i64 q.phase, .slice RAx q.rs.length rcx, .int .i64 q.mark, .int .i64 q.grace] 42) = v := ⟨_, rfl⟩
 have hx : Below w.heap.size w w2 ∧ w2.heap[w.heap.size]? = some (.cells #[.int .i64 p.uid, .int .u64 p.rev, .string p.spec.name, .slice LA p.spec.labels.length lc, .slice IA p.spec.init.length ic, .slice MA p.spec.main.length mc, .int .i64 p.spec.restart, .int .i64 p.spec.grace, .int .i64 p.spec.prio, .int .i64 p.phase, .slice RA p.rs.length rc, .int .i64 p.mark, .int .i64 p.grace] 42) ∧ w2.heap[w.heap.size + 1]? = some (.cells #[.int .i64 q.uid, .int .u64 q.rev, .string q.spec.name, .slice LAx q.spec.labels.length lcx, .slice IAx q.spec.init.length icx, .slice MAx q.spec.main.length mcx, .int .i64 q.spec.restart, .int .i64 q.spec.grace, .int .i64 q.spec.prio, .int .i64 q.phase, .slice RAx q.rs.length rcx, .int .i64 q.mark, .int .i64 q.grace] 42) := by
  subst hw2
  have a1 := heap_alloc_new w (.cells #[.int .i64 p.uid, .int .u64 p.rev, .string p.spec.name, .slice LA p.spec.labels.length lc, .slice IA p.spec.init.length ic, .slice MA p.spec.main.length mc, .int .i64 p.spec.restart, .int .i64 p.spec.grace, .int .i64 p.spec.prio, .int .i64 p.phase, .slice RA p.rs.length rc, .int .i64 p.mark, .int .i64 p.grace] 42)
  have a2 := heap_alloc_new (w.alloc (.cells #[.int .i64 p.uid, .int .u64 p.rev, .string p.spec.name, .slice LA p.spec.labels.length lc, .slice IA p.spec.init.length ic, .slice MA p.spec.main.length mc, .int .i64 p.spec.restart, .int .i64 p.spec.grace, .int .i64 p.spec.prio, .int .i64 p.phase, .slice RA p.rs.length rc, .int .i64 p.mark, .int .i64 p.grace] 42)) (.cells #[.int .i64 q.uid, .int .u64 q.rev, .string q.spec.name, .slice LAx q.spec.labels.length lcx, .slice IAx q.spec.init.length icx, .slice MAx q.spec.main.length mcx, .int .i64 q.spec.restart, .int .i64 q.spec.grace, .int .i64 q.spec.prio, .int .i64 q.phase, .slice RAx q.rs.length rcx, .int .i64 q.mark, .int .i64 q.grace] 42)
  have s1 : (w.alloc (.cells #[.int .i64 p.uid, .int .u64 p.rev, .string p.spec.name, .slice LA p.spec.labels.length lc, .slice IA p.spec.init.length ic, .slice MA p.spec.main.length mc, .int .i64 p.spec.restart, .int .i64 p.spec.grace, .int .i64 p.spec.prio, .int .i64 p.phase, .slice RA p.rs.length rc, .int .i64 p.mark, .int .i64 p.grace] 42)).heap.size = w.heap.size + 1 := by simp
  have k2 := ((Below.refl (w.heap.size + 1) (w.alloc (.cells #[.int .i64 p.uid, .int .u64 p.rev, .string p.spec.name, .slice LA p.spec.labels.length lc, .slice IA p.spec.init.length ic, .slice MA p.spec.main.length mc, .int .i64 p.spec.restart, .int .i64 p.spec.grace, .int .i64 p.spec.prio, .int .i64 p.phase, .slice RA p.rs.length rc, .int .i64 p.mark, .int .i64 p.grace] 42))).alloc (by omega) (.cells #[.int .i64 q.uid, .int .u64 q.rev, .string q.spec.name, .slice LAx q.spec.labels.length lcx, .slice IAx q.spec.init.length icx, .slice MAx q.spec.main.length mcx, .int .i64 q.spec.restart, .int .i64 q.spec.grace, .int .i64 q.spec.prio, .int .i64 q.phase, .slice RAx q.rs.length rcx, .int .i64 q.mark, .int .i64 q.grace] 42)).block
  rw [s1] at a2
  exact ⟨((Below.refl _ _).alloc (Nat.le_refl _) _).alloc (by omega) _, (k2 _ (by omega)).trans a1, a2⟩
 have B2 := Lib.hid hx.1
 have X2 := Lib.hid hx.2.1
 have Y2 := Lib.hid hx.2.2
 clear hx
 have c0 := box_cell X2.out 0 rfl
 have d0 := box_cell Y2.out 0 rfl
 have c1 := box_cell X2.out 1 rfl
 have d1 := box_cell Y2.out 1 rfl
 have RGA := Lib.hid (range_at X2.out 2 [.string p.spec.name, .slice LA p.spec.labels.length lc, .slice IA p.spec.init.length ic, .slice MA p.spec.main.length mc, .int .i64 p.spec.restart, .int .i64 p.spec.grace, .int .i64 p.spec.prio] rfl)
 have RGB := Lib.hid (range_at Y2.out 2 [.string q.spec.name, .slice LAx q.spec.labels.length lcx, .slice IAx q.spec.init.length icx, .slice MAx q.spec.main.length mcx, .int .i64 q.spec.restart, .int .i64 q.spec.grace, .int .i64 q.spec.prio] rfl)
 go_enter Tryz.func19, Tryz.ntmps19
 cases b0 with
 | false =>
  have HD := Lib.hid (show false = samePB p q from by have := HR.out; simpa using this)
  go_wp2
  go_ret
  exact ⟨Book.ret_b HD.out, B2.out⟩
 | true =>
  cases b1 with
  | false =>
   have HD := Lib.hid (show false = samePB p q from by have := HR.out; simpa using this)
   go_wp2
   go_ret
   exact ⟨Book.ret_b HD.out, B2.out⟩
  | true =>
   go_wp2_with (first | (refine wpList_load_mid rfl _ _ rfl _ _ rfl _ _ RGA.out Tryz.underlying28 rfl (by kernel_rfl) ?_) | (refine wpList_load_midG rfl _ _ rfl _ _ rfl _ _ RGA.out Tryz.underlying28 rfl (by kernel_rfl) ?_) | (refine wpList_load_mid rfl _ _ rfl _ _ rfl _ _ RGB.out Tryz.underlying28 rfl (by kernel_rfl) ?_) | (refine wpList_load_midG rfl _ _ rfl _ _ rfl _ _ RGB.out Tryz.underlying28 rfl (by kernel_rfl) ?_))
   refine (sameSpec_any p.spec LA lc IA ic MA mc q.spec LAx lcx IAx icx MAx mcx w2 (H.out.spec.below B2.out) (HX.out.spec.below B2.out)).mono ?_
   rintro e w3 ⟨rfl, hb3⟩
   have B3 := Lib.hid (B2.out.trans (hb3.mono B2.out.size))
   have X3 := Lib.hid ((hb3.block w.heap.size (lt_of_block X2.out)).trans X2.out)
   have Y3 := Lib.hid ((hb3.block (w.heap.size + 1) (lt_of_block Y2.out)).trans Y2.out)
   clear hb3 X2 Y2 hw2 c0 d0 c1 d1 RGA RGB
   rw [E2.out]
   as_aux_lemma =>
    have c9 := box_cell X3.out 9 rfl
    have d9 := box_cell Y3.out 9 rfl
    have c10 := box_cell X3.out 10 rfl
    have d10 := box_cell Y3.out 10 rfl
    cases b2 with
    | false =>
     have HD := Lib.hid (show false = samePB p q from by have := HR.out; simpa using this)
     go_wp2
     go_ret
     exact ⟨Book.ret_b HD.out, B3.out⟩
    | true =>
     cases b3 with
     | false =>
      have HD := Lib.hid (show false = samePB p q from by have := HR.out; simpa using this)
      go_wp2
      go_ret
      exact ⟨Book.ret_b HD.out, B3.out⟩
     | true =>
      go_wp2_with fail
      refine (sameInts_any RA rc p.rs RAx rcx q.rs H.out.nr HX.out.nr w3 (Sd.Nums.below H.out.rs B3.out) (Sd.Nums.below HX.out.rs B3.out)).mono ?_
      rintro e w4 ⟨rfl, hb4⟩
      have B4 := Lib.hid (B3.out.trans (hb4.mono B3.out.size))
      have X4 := Lib.hid ((hb4.block w.heap.size (lt_of_block X3.out)).trans X3.out)
      have Y4 := Lib.hid ((hb4.block (w.heap.size + 1) (lt_of_block Y3.out)).trans Y3.out)
      clear hb4 X3 Y3 c9 d9 c10 d10
      rw [E4.out]
      as_aux_lemma =>
       have c11 := box_cell X4.out 11 rfl
       have d11 := box_cell Y4.out 11 rfl
       have c12 := box_cell X4.out 12 rfl
       have d12 := box_cell Y4.out 12 rfl
       cases b4 with
       | false =>
        have HD := Lib.hid (show false = samePB p q from by have := HR.out; simpa using this)
        go_wp2
        go_ret
        exact ⟨Book.ret_b HD.out, B4.out⟩
       | true =>
        cases b5 with
        | false =>
         have HD := Lib.hid (show false = samePB p q from by have := HR.out; simpa using this)
         go_wp2
         go_ret
         exact ⟨Book.ret_b HD.out, B4.out⟩
        | true =>
         have HD := Lib.hid (show b6 = samePB p q from by have := HR.out; simpa using this)
         go_wp2
         go_ret
         exact ⟨Book.ret_b HD.out, B4.out⟩

set_option maxRecDepth 100000 in
set_option maxHeartbeats 4000000 in
theorem sameEvent_any (u v_ : Ev) (LA : Option Addr) (lc : Nat) (IA : Option Addr) (ic : Nat) (MA : Option Addr) (mc : Nat) (RA : Option Addr) (rc : Nat) (LAx : Option Addr) (lcx : Nat) (IAx : Option Addr) (icx : Nat) (MAx : Option Addr) (mcx : Nat) (RAx : Option Addr) (rcx : Nat) (w : World) (h : u.pod.In w LA lc IA ic MA mc RA) (hx : v_.pod.In w LAx lcx IAx icx MAx mcx RAx) :
 Calls Tryz.prog 80 #[.agg #[.int .i64 u.kind, .int .u64 u.rev, .int .i64 u.pod.uid, .int .u64 u.pod.rev, .string u.pod.spec.name, .slice LA u.pod.spec.labels.length lc, .slice IA u.pod.spec.init.length ic, .slice MA u.pod.spec.main.length mc, .int .i64 u.pod.spec.restart, .int .i64 u.pod.spec.grace, .int .i64 u.pod.spec.prio, .int .i64 u.pod.phase, .slice RA u.pod.rs.length rc, .int .i64 u.pod.mark, .int .i64 u.pod.grace], .agg #[.int .i64 v_.kind, .int .u64 v_.rev, .int .i64 v_.pod.uid, .int .u64 v_.pod.rev, .string v_.pod.spec.name, .slice LAx v_.pod.spec.labels.length lcx, .slice IAx v_.pod.spec.init.length icx, .slice MAx v_.pod.spec.main.length mcx, .int .i64 v_.pod.spec.restart, .int .i64 v_.pod.spec.grace, .int .i64 v_.pod.spec.prio, .int .i64 v_.pod.phase, .slice RAx v_.pod.rs.length rcx, .int .i64 v_.pod.mark, .int .i64 v_.pod.grace]] w fun e w' => e = .returned (.bool (sameEB u v_)) ∧ Below w.heap.size w w' := by
 obtain ⟨b0, e0⟩ : ∃ b : Bool, (u.kind == v_.kind) = b := ⟨_, rfl⟩
 obtain ⟨b1, e1⟩ : ∃ b : Bool, ((u.rev : Int) == (v_.rev : Int)) = b := ⟨_, rfl⟩
 obtain ⟨b2, e2⟩ : ∃ b : Bool, samePB u.pod v_.pod = b := ⟨_, rfl⟩
 have HR := Lib.hid (show (b0 && b1 && b2) = sameEB u v_ by rw [← e0, ← e1, ← e2]; (try simp only [nat_eq]); rfl)
 have E2 := Lib.hid e2
 clear e2
 have H := Lib.hid h
 have HX := Lib.hid hx
 clear h hx
 obtain ⟨w2, hw2⟩ : ∃ v, (w.alloc (.cells #[.int .i64 u.kind, .int .u64 u.rev, .int .i64 u.pod.uid, .int .u64 u.pod.rev, .string u.pod.spec.name, .slice LA u.pod.spec.labels.length lc, .slice IA u.pod.spec.init.length ic, .slice MA u.pod.spec.main.length mc, .int .i64 u.pod.spec.restart, .int .i64 u.pod.spec.grace, .int .i64 u.pod.spec.prio, .int .i64 u.pod.phase, .slice RA u.pod.rs.length rc, .int .i64 u.pod.mark, .int .i64 u.pod.grace] 48)).alloc (.cells #[.int .i64 v_.kind, .int .u64 v_.rev, .int .i64 v_.pod.uid, .int .u64 v_.pod.rev, .string v_.pod.spec.name, .slice LAx v_.pod.spec.labels.length lcx, .slice IAx v_.pod.spec.init.length icx, .slice MAx v_.pod.spec.main.length mcx, .int .i64 v_.pod.spec.restart, .int .i64 v_.pod.spec.grace, .int .i64 v_.pod.spec.prio, .int .i64 v_.pod.phase, .slice RAx v_.pod.rs.length rcx, .int .i64 v_.pod.mark, .int .i64 v_.pod.grace] 48) = v := ⟨_, rfl⟩
 have hx : Below w.heap.size w w2 ∧ w2.heap[w.heap.size]? = some (.cells #[.int .i64 u.kind, .int .u64 u.rev, .int .i64 u.pod.uid, .int .u64 u.pod.rev, .string u.pod.spec.name, .slice LA u.pod.spec.labels.length lc, .slice IA u.pod.spec.init.length ic, .slice MA u.pod.spec.main.length mc, .int .i64 u.pod.spec.restart, .int .i64 u.pod.spec.grace, .int .i64 u.pod.spec.prio, .int .i64 u.pod.phase, .slice RA u.pod.rs.length rc, .int .i64 u.pod.mark, .int .i64 u.pod.grace] 48) ∧ w2.heap[w.heap.size + 1]? = some (.cells #[.int .i64 v_.kind, .int .u64 v_.rev, .int .i64 v_.pod.uid, .int .u64 v_.pod.rev, .string v_.pod.spec.name, .slice LAx v_.pod.spec.labels.length lcx, .slice IAx v_.pod.spec.init.length icx, .slice MAx v_.pod.spec.main.length mcx, .int .i64 v_.pod.spec.restart, .int .i64 v_.pod.spec.grace, .int .i64 v_.pod.spec.prio, .int .i64 v_.pod.phase, .slice RAx v_.pod.rs.length rcx, .int .i64 v_.pod.mark, .int .i64 v_.pod.grace] 48) := by
  subst hw2
  have a1 := heap_alloc_new w (.cells #[.int .i64 u.kind, .int .u64 u.rev, .int .i64 u.pod.uid, .int .u64 u.pod.rev, .string u.pod.spec.name, .slice LA u.pod.spec.labels.length lc, .slice IA u.pod.spec.init.length ic, .slice MA u.pod.spec.main.length mc, .int .i64 u.pod.spec.restart, .int .i64 u.pod.spec.grace, .int .i64 u.pod.spec.prio, .int .i64 u.pod.phase, .slice RA u.pod.rs.length rc, .int .i64 u.pod.mark, .int .i64 u.pod.grace] 48)
  have a2 := heap_alloc_new (w.alloc (.cells #[.int .i64 u.kind, .int .u64 u.rev, .int .i64 u.pod.uid, .int .u64 u.pod.rev, .string u.pod.spec.name, .slice LA u.pod.spec.labels.length lc, .slice IA u.pod.spec.init.length ic, .slice MA u.pod.spec.main.length mc, .int .i64 u.pod.spec.restart, .int .i64 u.pod.spec.grace, .int .i64 u.pod.spec.prio, .int .i64 u.pod.phase, .slice RA u.pod.rs.length rc, .int .i64 u.pod.mark, .int .i64 u.pod.grace] 48)) (.cells #[.int .i64 v_.kind, .int .u64 v_.rev, .int .i64 v_.pod.uid, .int .u64 v_.pod.rev, .string v_.pod.spec.name, .slice LAx v_.pod.spec.labels.length lcx, .slice IAx v_.pod.spec.init.length icx, .slice MAx v_.pod.spec.main.length mcx, .int .i64 v_.pod.spec.restart, .int .i64 v_.pod.spec.grace, .int .i64 v_.pod.spec.prio, .int .i64 v_.pod.phase, .slice RAx v_.pod.rs.length rcx, .int .i64 v_.pod.mark, .int .i64 v_.pod.grace] 48)
  have s1 : (w.alloc (.cells #[.int .i64 u.kind, .int .u64 u.rev, .int .i64 u.pod.uid, .int .u64 u.pod.rev, .string u.pod.spec.name, .slice LA u.pod.spec.labels.length lc, .slice IA u.pod.spec.init.length ic, .slice MA u.pod.spec.main.length mc, .int .i64 u.pod.spec.restart, .int .i64 u.pod.spec.grace, .int .i64 u.pod.spec.prio, .int .i64 u.pod.phase, .slice RA u.pod.rs.length rc, .int .i64 u.pod.mark, .int .i64 u.pod.grace] 48)).heap.size = w.heap.size + 1 := by simp
  have k2 := ((Below.refl (w.heap.size + 1) (w.alloc (.cells #[.int .i64 u.kind, .int .u64 u.rev, .int .i64 u.pod.uid, .int .u64 u.pod.rev, .string u.pod.spec.name, .slice LA u.pod.spec.labels.length lc, .slice IA u.pod.spec.init.length ic, .slice MA u.pod.spec.main.length mc, .int .i64 u.pod.spec.restart, .int .i64 u.pod.spec.grace, .int .i64 u.pod.spec.prio, .int .i64 u.pod.phase, .slice RA u.pod.rs.length rc, .int .i64 u.pod.mark, .int .i64 u.pod.grace] 48))).alloc (by omega) (.cells #[.int .i64 v_.kind, .int .u64 v_.rev, .int .i64 v_.pod.uid, .int .u64 v_.pod.rev, .string v_.pod.spec.name, .slice LAx v_.pod.spec.labels.length lcx, .slice IAx v_.pod.spec.init.length icx, .slice MAx v_.pod.spec.main.length mcx, .int .i64 v_.pod.spec.restart, .int .i64 v_.pod.spec.grace, .int .i64 v_.pod.spec.prio, .int .i64 v_.pod.phase, .slice RAx v_.pod.rs.length rcx, .int .i64 v_.pod.mark, .int .i64 v_.pod.grace] 48)).block
  rw [s1] at a2
  exact ⟨((Below.refl _ _).alloc (Nat.le_refl _) _).alloc (by omega) _, (k2 _ (by omega)).trans a1, a2⟩
 have B2 := Lib.hid hx.1
 have X2 := Lib.hid hx.2.1
 have Y2 := Lib.hid hx.2.2
 clear hx
 have c0 := box_cell X2.out 0 rfl
 have d0 := box_cell Y2.out 0 rfl
 have c1 := box_cell X2.out 1 rfl
 have d1 := box_cell Y2.out 1 rfl
 have RGA := Lib.hid (range_at X2.out 2 [.int .i64 u.pod.uid, .int .u64 u.pod.rev, .string u.pod.spec.name, .slice LA u.pod.spec.labels.length lc, .slice IA u.pod.spec.init.length ic, .slice MA u.pod.spec.main.length mc, .int .i64 u.pod.spec.restart, .int .i64 u.pod.spec.grace, .int .i64 u.pod.spec.prio, .int .i64 u.pod.phase, .slice RA u.pod.rs.length rc, .int .i64 u.pod.mark, .int .i64 u.pod.grace] rfl)
 have RGB := Lib.hid (range_at Y2.out 2 [.int .i64 v_.pod.uid, .int .u64 v_.pod.rev, .string v_.pod.spec.name, .slice LAx v_.pod.spec.labels.length lcx, .slice IAx v_.pod.spec.init.length icx, .slice MAx v_.pod.spec.main.length mcx, .int .i64 v_.pod.spec.restart, .int .i64 v_.pod.spec.grace, .int .i64 v_.pod.spec.prio, .int .i64 v_.pod.phase, .slice RAx v_.pod.rs.length rcx, .int .i64 v_.pod.mark, .int .i64 v_.pod.grace] rfl)
 go_enter Tryz.func80, Tryz.ntmps80
 cases b0 with
 | false =>
  have HD := Lib.hid (show false = sameEB u v_ from by have := HR.out; simpa using this)
  go_wp2
  go_ret
  exact ⟨Book.ret_b HD.out, B2.out⟩
 | true =>
  cases b1 with
  | false =>
   have HD := Lib.hid (show false = sameEB u v_ from by have := HR.out; simpa using this)
   go_wp2
   go_ret
   exact ⟨Book.ret_b HD.out, B2.out⟩
  | true =>
   go_wp2_with (first | (refine wpList_load_mid rfl _ _ rfl _ _ rfl _ _ RGA.out Tryz.underlying42 rfl (by kernel_rfl) ?_) | (refine wpList_load_midG rfl _ _ rfl _ _ rfl _ _ RGA.out Tryz.underlying42 rfl (by kernel_rfl) ?_) | (refine wpList_load_mid rfl _ _ rfl _ _ rfl _ _ RGB.out Tryz.underlying42 rfl (by kernel_rfl) ?_) | (refine wpList_load_midG rfl _ _ rfl _ _ rfl _ _ RGB.out Tryz.underlying42 rfl (by kernel_rfl) ?_))
   refine (samePod_any u.pod v_.pod LA lc IA ic MA mc RA rc LAx lcx IAx icx MAx mcx RAx rcx w2 (H.out.below B2.out) (HX.out.below B2.out)).mono ?_
   rintro e w3 ⟨rfl, hb3⟩
   have B3 := Lib.hid (B2.out.trans (hb3.mono B2.out.size))
   have X3 := Lib.hid ((hb3.block w.heap.size (lt_of_block X2.out)).trans X2.out)
   have Y3 := Lib.hid ((hb3.block (w.heap.size + 1) (lt_of_block Y2.out)).trans Y2.out)
   clear hb3 X2 Y2 hw2 c0 d0 c1 d1 RGA RGB
   rw [E2.out]
   have HD := Lib.hid (show b2 = sameEB u v_ from by have := HR.out; simpa using this)
   go_wp2
   go_ret
   exact ⟨Book.ret_b HD.out, B3.out⟩

def FSP (x y : Pd) (LA : Option Addr) (lc : Nat) (IA : Option Addr) (ic : Nat) (MA : Option Addr) (mc : Nat) (RA : Option Addr) (rc : Nat) (LAx : Option Addr) (lcx : Nat) (IAx : Option Addr) (icx : Nat) (MAx : Option Addr) (mcx : Nat) (RAx : Option Addr) (rcx : Nat) (ad bd : Addr) (na ac nb bc k : Nat) (t : Bool) : Nat → Value → World → Prop
 | 0 => fun v _ => v = .slice (some ad) na ac
 | 1 => fun v _ => v = .int .i64 (k : Nat)
 | 2 => fun v _ => v = .pointer (some (ad.add (k * 13)))
 | 3 => fun v _ => v = .agg #[.int .i64 x.uid, .int .u64 x.rev, .string x.spec.name, .slice LA x.spec.labels.length lc, .slice IA x.spec.init.length ic, .slice MA x.spec.main.length mc, .int .i64 x.spec.restart, .int .i64 x.spec.grace, .int .i64 x.spec.prio, .int .i64 x.phase, .slice RA x.rs.length rc, .int .i64 x.mark, .int .i64 x.grace]
 | 4 => fun v _ => v = .slice (some bd) nb bc
 | 5 => fun v _ => v = .int .i64 (k : Nat)
 | 6 => fun v _ => v = .pointer (some (bd.add (k * 13)))
 | 7 => fun v _ => v = .agg #[.int .i64 y.uid, .int .u64 y.rev, .string y.spec.name, .slice LAx y.spec.labels.length lcx, .slice IAx y.spec.init.length icx, .slice MAx y.spec.main.length mcx, .int .i64 y.spec.restart, .int .i64 y.spec.grace, .int .i64 y.spec.prio, .int .i64 y.phase, .slice RAx y.rs.length rcx, .int .i64 y.mark, .int .i64 y.grace]
 | 8 => fun v _ => v = .bool t
 | _ => fun v _ => v = .bool t
theorem FSP_keep (x y : Pd) (LA : Option Addr) (lc : Nat) (IA : Option Addr) (ic : Nat) (MA : Option Addr) (mc : Nat) (RA : Option Addr) (rc : Nat) (LAx : Option Addr) (lcx : Nat) (IAx : Option Addr) (icx : Nat) (MAx : Option Addr) (mcx : Nat) (RAx : Option Addr) (rcx : Nat) (ad bd : Addr) (na ac nb bc k : Nat) (t : Bool) (i_ : Nat) (v_ : Value) (w_ w2_ : World) (h_ : FSP x y LA lc IA ic MA mc RA rc LAx lcx IAx icx MAx mcx RAx rcx ad bd na ac nb bc k t i_ v_ w_) (hb_ : Below w_.heap.size w_ w2_) : FSP x y LA lc IA ic MA mc RA rc LAx lcx IAx icx MAx mcx RAx rcx ad bd na ac nb bc k t i_ v_ w2_ := by
 unfold FSP at h_ ⊢
 split at h_ <;> exact h_
set_option maxRecDepth 100000 in
set_option maxHeartbeats 4000000 in
theorem samePods_any (A : Option Addr) (ac : Nat) (la : List Pd) (B : Option Addr) (bc : Nat) (lb : List Pd) (hl : la.length ≤ 9223372036854775807) (hm : lb.length ≤ 9223372036854775807) (w : World) (hA : Pds w A la) (hB : Pds w B lb) :
 Calls Tryz.prog 128 #[.slice A la.length ac, .slice B lb.length bc] w fun e w' => e = .returned (.bool (sameAll samePB la lb)) ∧ Below w.heap.size w w' := by
 have HA := Lib.hid hA
 have HB := Lib.hid hB
 have hl' : (la.length : Int) ≤ 9223372036854775807 := by omega
 have hm' : (lb.length : Int) ≤ 9223372036854775807 := by omega
 clear hA hB hl hm
 go_enter Tryz.func128, Tryz.ntmps128
 go_wp2_with fail
 go_loopw [5, 6] (fun sm i wr => ∃ (k : Nat) (s : Bool), k ≤ la.length ∧ sm = .bool s ∧ i = .int .i64 k ∧ Hid (Below w.heap.size w wr) ∧ Hid (Far la lb k s)) (fun _ i _ => la.length - (RowKit.intOf i).toNat)
 case atStart => exact ⟨0, _, Nat.zero_le _, rfl, rfl, Below.refl _ _, far_start la lb⟩
 case round =>
  obtain ⟨k, s, hk, rfl, rfl, HW, HF⟩ := hrel
  cases s with
  | false =>
   have HD := Lib.hid (show false = sameAll samePB la lb from Book.same_bool ((HF.out.done (fun h => by cases h)).trans (sameAll_iff samePB_iff la lb).symm))
   go_wp2
   go_ret
   exact ⟨Book.ret_b HD.out, HW.out⟩
  | true =>
   have hlen := (HF.out.1 rfl).1
   by_cases hlt : k < la.length
   · have hlb : k < lb.length := by omega
     obtain ⟨ad, LA, lc, IA, ic, MA, mc, RA, rc, rfl, hp, hc⟩ := (HA.out.below HW.out).at hlt
     obtain ⟨bd, LAx, lcx, IAx, icx, MAx, mcx, RAx, rcx, rfl, hq, hd⟩ := (HB.out.below HW.out).at hlb
     obtain ⟨t, ht⟩ : ∃ t : Bool, samePB la[k] lb[k] = t := ⟨_, rfl⟩
     have HN := Lib.hid (show Far la lb (k + 1) t from HF.out.next hlt hlb (by rw [← ht]; exact samePB_iff _ _))
     obtain ⟨x, hx⟩ : ∃ x, la[k] = x := ⟨_, rfl⟩
     obtain ⟨y, hy⟩ : ∃ y, lb[k] = y := ⟨_, rfl⟩
     rw [hx] at hc ht
     rw [hy] at hd ht
     have HC := Lib.hid hc
     have HDD := Lib.hid hd
     have HT := Lib.hid ht
     have HadB := Lib.hid hp
     have HbdB := Lib.hid hq
     have hka : (k : Int) < (la.length : Int) := by omega
     have hkb : (k : Int) < (lb.length : Int) := by omega
     skip
     clear hx hy hp hq hlen hc hd ht
     as_aux_lemma =>
      go_wp2_with fail
      refine Loose.wp_region_walk (by kernel_rfl) (by kernel_rfl) (FSP x y LA lc IA ic MA mc RA rc LAx lcx IAx icx MAx mcx RAx rcx ad bd la.length ac lb.length bc k t) (FSP_keep x y LA lc IA ic MA mc RA rc LAx lcx IAx icx MAx mcx RAx rcx ad bd la.length ac lb.length bc k t) ?_ ?_
      · refine ⟨?_, ?_, ?_, ?_, ?_, ?_, ?_, ?_, ?_, ?_, trivial⟩
        · intro a w1 hfr hdep
          have f0 : a.tmps.getD 0 undef = .slice (some ad) la.length ac := hfr.slot 0 (by kernel_rfl)
          refine Loose.Step.value rfl (v := .slice (some ad) la.length ac) (w' := w1) ?_ rfl (Below.refl _ _)
          simp [go_sem, Act.eval, f0]
        · intro a w1 hfr hdep
          have f0 : a.tmps.getD 6 undef = .int .i64 (k : Nat) := hfr.slot 6 (by kernel_rfl)
          refine Loose.Step.value rfl (v := .int .i64 (k : Nat)) (w' := w1) ?_ rfl (Below.refl _ _)
          simp [go_sem, Act.eval, f0]
        · intro a w1 hfr hdep
          have e0 : a.tmps.getD 27 undef = .slice (some ad) la.length ac := Loose.dep_of hdep 0 27 (by kernel_rfl)
          have e1 : a.tmps.getD 28 undef = .int .i64 (k : Nat) := Loose.dep_of hdep 1 28 (by kernel_rfl)
          refine Loose.Step.value rfl (v := .pointer (some (ad.add (k * 13)))) (w' := w1) ?_ rfl (Below.refl _ _)
          simp [go_sem, Act.eval, e0, e1, hka, hlt]
        · intro a w1 hfr hdep
          have hl_ := run_load_addr w1 (ad.add (k * 13)) 42 [.int .i64 x.uid, .int .u64 x.rev, .string x.spec.name, .slice LA x.spec.labels.length lc, .slice IA x.spec.init.length ic, .slice MA x.spec.main.length mc, .int .i64 x.spec.restart, .int .i64 x.spec.grace, .int .i64 x.spec.prio, .int .i64 x.phase, .slice RA x.rs.length rc, .int .i64 x.mark, .int .i64 x.grace] _ (CellsAt.all (HC.out.1.keep (by rw [Lists.add_block]; exact hfr.below.block _ HadB.out))) Tryz.underlying42 rfl (by kernel_rfl)
          have e0 : a.tmps.getD 29 undef = .pointer (some (ad.add (k * 13))) := Loose.dep_of hdep 2 29 (by kernel_rfl)
          refine Loose.Step.value rfl (v := .agg #[.int .i64 x.uid, .int .u64 x.rev, .string x.spec.name, .slice LA x.spec.labels.length lc, .slice IA x.spec.init.length ic, .slice MA x.spec.main.length mc, .int .i64 x.spec.restart, .int .i64 x.spec.grace, .int .i64 x.spec.prio, .int .i64 x.phase, .slice RA x.rs.length rc, .int .i64 x.mark, .int .i64 x.grace]) (w' := w1) ?_ rfl (Below.refl _ _)
          unfold execOp; simp only [Act.eval, e0, Instr.loadAt, Instr.sureAddr, Sem.run_bind, Sem.run_pure, Result.andThen_ok, hl_]
        · intro a w1 hfr hdep
          have f0 : a.tmps.getD 1 undef = .slice (some bd) lb.length bc := hfr.slot 1 (by kernel_rfl)
          refine Loose.Step.value rfl (v := .slice (some bd) lb.length bc) (w' := w1) ?_ rfl (Below.refl _ _)
          simp [go_sem, Act.eval, f0]
        · intro a w1 hfr hdep
          have f0 : a.tmps.getD 6 undef = .int .i64 (k : Nat) := hfr.slot 6 (by kernel_rfl)
          refine Loose.Step.value rfl (v := .int .i64 (k : Nat)) (w' := w1) ?_ rfl (Below.refl _ _)
          simp [go_sem, Act.eval, f0]
        · intro a w1 hfr hdep
          have e0 : a.tmps.getD 31 undef = .slice (some bd) lb.length bc := Loose.dep_of hdep 4 31 (by kernel_rfl)
          have e1 : a.tmps.getD 32 undef = .int .i64 (k : Nat) := Loose.dep_of hdep 5 32 (by kernel_rfl)
          refine Loose.Step.value rfl (v := .pointer (some (bd.add (k * 13)))) (w' := w1) ?_ rfl (Below.refl _ _)
          simp [go_sem, Act.eval, e0, e1, hkb, hlb]
        · intro a w1 hfr hdep
          have hl_ := run_load_addr w1 (bd.add (k * 13)) 42 [.int .i64 y.uid, .int .u64 y.rev, .string y.spec.name, .slice LAx y.spec.labels.length lcx, .slice IAx y.spec.init.length icx, .slice MAx y.spec.main.length mcx, .int .i64 y.spec.restart, .int .i64 y.spec.grace, .int .i64 y.spec.prio, .int .i64 y.phase, .slice RAx y.rs.length rcx, .int .i64 y.mark, .int .i64 y.grace] _ (CellsAt.all (HDD.out.1.keep (by rw [Lists.add_block]; exact hfr.below.block _ HbdB.out))) Tryz.underlying42 rfl (by kernel_rfl)
          have e0 : a.tmps.getD 33 undef = .pointer (some (bd.add (k * 13))) := Loose.dep_of hdep 6 33 (by kernel_rfl)
          refine Loose.Step.value rfl (v := .agg #[.int .i64 y.uid, .int .u64 y.rev, .string y.spec.name, .slice LAx y.spec.labels.length lcx, .slice IAx y.spec.init.length icx, .slice MAx y.spec.main.length mcx, .int .i64 y.spec.restart, .int .i64 y.spec.grace, .int .i64 y.spec.prio, .int .i64 y.phase, .slice RAx y.rs.length rcx, .int .i64 y.mark, .int .i64 y.grace]) (w' := w1) ?_ rfl (Below.refl _ _)
          unfold execOp; simp only [Act.eval, e0, Instr.loadAt, Instr.sureAddr, Sem.run_bind, Sem.run_pure, Result.andThen_ok, hl_]
        · intro a w1 hfr hdep
          have e0 : a.tmps.getD 30 undef = .agg #[.int .i64 x.uid, .int .u64 x.rev, .string x.spec.name, .slice LA x.spec.labels.length lc, .slice IA x.spec.init.length ic, .slice MA x.spec.main.length mc, .int .i64 x.spec.restart, .int .i64 x.spec.grace, .int .i64 x.spec.prio, .int .i64 x.phase, .slice RA x.rs.length rc, .int .i64 x.mark, .int .i64 x.grace] := Loose.dep_of hdep 3 30 (by kernel_rfl)
          have e1 : a.tmps.getD 34 undef = .agg #[.int .i64 y.uid, .int .u64 y.rev, .string y.spec.name, .slice LAx y.spec.labels.length lcx, .slice IAx y.spec.init.length icx, .slice MAx y.spec.main.length mcx, .int .i64 y.spec.restart, .int .i64 y.spec.grace, .int .i64 y.spec.prio, .int .i64 y.phase, .slice RAx y.rs.length rcx, .int .i64 y.mark, .int .i64 y.grace] := Loose.dep_of hdep 7 34 (by kernel_rfl)
          refine Loose.Step.call rfl (f := 19) (args := #[.agg #[.int .i64 x.uid, .int .u64 x.rev, .string x.spec.name, .slice LA x.spec.labels.length lc, .slice IA x.spec.init.length ic, .slice MA x.spec.main.length mc, .int .i64 x.spec.restart, .int .i64 x.spec.grace, .int .i64 x.spec.prio, .int .i64 x.phase, .slice RA x.rs.length rc, .int .i64 x.mark, .int .i64 x.grace], .agg #[.int .i64 y.uid, .int .u64 y.rev, .string y.spec.name, .slice LAx y.spec.labels.length lcx, .slice IAx y.spec.init.length icx, .slice MAx y.spec.main.length mcx, .int .i64 y.spec.restart, .int .i64 y.spec.grace, .int .i64 y.spec.prio, .int .i64 y.phase, .slice RAx y.rs.length rcx, .int .i64 y.mark, .int .i64 y.grace]]) ?_ ?_
          · simp [go_sem, Act.eval, e0, e1]
          · refine (samePod_any x y LA lc IA ic MA mc RA rc LAx lcx IAx icx MAx mcx RAx rcx w1 (HC.out.2.below hfr.below) (HDD.out.2.below hfr.below)).mono ?_
            rintro e w2 ⟨rfl, hb⟩
            rw [HT.out]
            exact ⟨_, rfl, rfl, hb⟩
        · intro a w1 hfr hdep
          have e0 : a.tmps.getD 35 undef = .bool t := Loose.dep_of hdep 8 35 (by kernel_rfl)
          refine Loose.Step.value rfl (v := .bool t) (w' := w1) ?_ rfl (Below.refl _ _)
          simp [go_sem, Act.eval, e0]
      · intro v0 v1 v2 v3 v4 v5 v6 v7 v8 v9 w5 hb5 hC
        have h1 : v9 = .bool t := hC.2
        subst h1
        have HW5 := Lib.hid (HW.out.trans (hb5.mono HW.out.size))
        clear hb5 hC
        simp only [SpecOwn.put_lit, List.set_cons_succ, List.set_cons_zero]
        go_wp2
        go_roundw
        case rel => exact ⟨k + 1, t, by omega, rfl, by go_num, HW5.out, HN.out⟩
        case measure => simp [RowKit.intOf]; omega
   · have hka : ¬ (k : Int) < (la.length : Int) := by omega
     have HD := Lib.hid (show true = sameAll samePB la lb from Book.same_bool ((HF.out.done (fun _ => by omega)).trans (sameAll_iff samePB_iff la lb).symm))
     clear hlen
     go_wp2
     go_ret
     exact ⟨Book.ret_b HD.out, HW.out⟩

def FSR (x y : (Int × Int × Int))  (ad bd : Addr) (na ac nb bc k : Nat) (t : Bool) : Nat → Value → World → Prop
 | 0 => fun v _ => v = .slice (some ad) na ac
 | 1 => fun v _ => v = .int .i64 (k : Nat)
 | 2 => fun v _ => v = .pointer (some (ad.add (k * 3)))
 | 3 => fun v _ => v = .agg #[.int .i64 x.1, .int .i64 x.2.1, .int .i64 x.2.2]
 | 4 => fun v _ => v = .slice (some bd) nb bc
 | 5 => fun v _ => v = .int .i64 (k : Nat)
 | 6 => fun v _ => v = .pointer (some (bd.add (k * 3)))
 | 7 => fun v _ => v = .agg #[.int .i64 y.1, .int .i64 y.2.1, .int .i64 y.2.2]
 | 8 => fun v _ => v = .bool t
 | _ => fun v _ => v = .bool t
theorem FSR_keep (x y : (Int × Int × Int))  (ad bd : Addr) (na ac nb bc k : Nat) (t : Bool) (i_ : Nat) (v_ : Value) (w_ w2_ : World) (h_ : FSR x y  ad bd na ac nb bc k t i_ v_ w_) (hb_ : Below w_.heap.size w_ w2_) : FSR x y  ad bd na ac nb bc k t i_ v_ w2_ := by
 unfold FSR at h_ ⊢
 split at h_ <;> exact h_
set_option maxRecDepth 100000 in
set_option maxHeartbeats 4000000 in
theorem sameRes_any (A : Option Addr) (ac : Nat) (la : List (Int × Int × Int)) (B : Option Addr) (bc : Nat) (lb : List (Int × Int × Int)) (hl : la.length ≤ 9223372036854775807) (hm : lb.length ≤ 9223372036854775807) (w : World) (hA : Uses w A la) (hB : Uses w B lb) :
 Calls Tryz.prog 129 #[.slice A la.length ac, .slice B lb.length bc] w fun e w' => e = .returned (.bool (sameAll sameUB la lb)) ∧ Below w.heap.size w w' := by
 have HA := Lib.hid hA
 have HB := Lib.hid hB
 have hl' : (la.length : Int) ≤ 9223372036854775807 := by omega
 have hm' : (lb.length : Int) ≤ 9223372036854775807 := by omega
 clear hA hB hl hm
 go_enter Tryz.func129, Tryz.ntmps129
 go_wp2_with fail
 go_loopw [5, 6] (fun sm i wr => ∃ (k : Nat) (s : Bool), k ≤ la.length ∧ sm = .bool s ∧ i = .int .i64 k ∧ Hid (Below w.heap.size w wr) ∧ Hid (Far la lb k s)) (fun _ i _ => la.length - (RowKit.intOf i).toNat)
 case atStart => exact ⟨0, _, Nat.zero_le _, rfl, rfl, Below.refl _ _, far_start la lb⟩
 case round =>
  obtain ⟨k, s, hk, rfl, rfl, HW, HF⟩ := hrel
  cases s with
  | false =>
   have HD := Lib.hid (show false = sameAll sameUB la lb from Book.same_bool ((HF.out.done (fun h => by cases h)).trans (sameAll_iff sameUB_iff la lb).symm))
   go_wp2
   go_ret
   exact ⟨Book.ret_b HD.out, HW.out⟩
  | true =>
   have hlen := (HF.out.1 rfl).1
   by_cases hlt : k < la.length
   · have hlb : k < lb.length := by omega
     obtain ⟨ad, rfl, hp, hc⟩ := (HA.out.below HW.out).at hlt
     obtain ⟨bd, rfl, hq, hd⟩ := (HB.out.below HW.out).at hlb
     obtain ⟨t, ht⟩ : ∃ t : Bool, sameUB la[k] lb[k] = t := ⟨_, rfl⟩
     have HN := Lib.hid (show Far la lb (k + 1) t from HF.out.next hlt hlb (by rw [← ht]; exact sameUB_iff _ _))
     obtain ⟨x, hx⟩ : ∃ x, la[k] = x := ⟨_, rfl⟩
     obtain ⟨y, hy⟩ : ∃ y, lb[k] = y := ⟨_, rfl⟩
     rw [hx] at hc ht
     rw [hy] at hd ht
     have HC := Lib.hid hc
     have HDD := Lib.hid hd
     have HT := Lib.hid ht
     have HadB := Lib.hid hp
     have HbdB := Lib.hid hq
     have hka : (k : Int) < (la.length : Int) := by omega
     have hkb : (k : Int) < (lb.length : Int) := by omega
     have hgr : Tryz.prog.eqGuardType Tryz.prog.depth 70 = false := by kernel_rfl
     have qr := fun v_ => eql_res x.1 x.2.1 x.2.2 y.1 y.2.1 y.2.2 v_
     rw [show resB x.1 x.2.1 x.2.2 y.1 y.2.1 y.2.2 = t from HT.out] at qr
     clear hx hy hp hq hlen hc hd ht
     as_aux_lemma =>
      go_wp2_with fail
      refine Loose.wp_region_walk (by kernel_rfl) (by kernel_rfl) (FSR x y  ad bd la.length ac lb.length bc k t) (FSR_keep x y  ad bd la.length ac lb.length bc k t) ?_ ?_
      · refine ⟨?_, ?_, ?_, ?_, ?_, ?_, ?_, ?_, ?_, ?_, trivial⟩
        · intro a w1 hfr hdep
          have f0 : a.tmps.getD 0 undef = .slice (some ad) la.length ac := hfr.slot 0 (by kernel_rfl)
          refine Loose.Step.value rfl (v := .slice (some ad) la.length ac) (w' := w1) ?_ rfl (Below.refl _ _)
          simp [go_sem, Act.eval, f0]
        · intro a w1 hfr hdep
          have f0 : a.tmps.getD 6 undef = .int .i64 (k : Nat) := hfr.slot 6 (by kernel_rfl)
          refine Loose.Step.value rfl (v := .int .i64 (k : Nat)) (w' := w1) ?_ rfl (Below.refl _ _)
          simp [go_sem, Act.eval, f0]
        · intro a w1 hfr hdep
          have e0 : a.tmps.getD 27 undef = .slice (some ad) la.length ac := Loose.dep_of hdep 0 27 (by kernel_rfl)
          have e1 : a.tmps.getD 28 undef = .int .i64 (k : Nat) := Loose.dep_of hdep 1 28 (by kernel_rfl)
          refine Loose.Step.value rfl (v := .pointer (some (ad.add (k * 3)))) (w' := w1) ?_ rfl (Below.refl _ _)
          simp [go_sem, Act.eval, e0, e1, hka, hlt]
        · intro a w1 hfr hdep
          have hl_ := run_load_addr w1 (ad.add (k * 3)) 70 [.int .i64 x.1, .int .i64 x.2.1, .int .i64 x.2.2] _ (CellsAt.all (HC.out.keep (by rw [Lists.add_block]; exact hfr.below.block _ HadB.out))) Tryz.underlying70 rfl (by kernel_rfl)
          have e0 : a.tmps.getD 29 undef = .pointer (some (ad.add (k * 3))) := Loose.dep_of hdep 2 29 (by kernel_rfl)
          refine Loose.Step.value rfl (v := .agg #[.int .i64 x.1, .int .i64 x.2.1, .int .i64 x.2.2]) (w' := w1) ?_ rfl (Below.refl _ _)
          unfold execOp; simp only [Act.eval, e0, Instr.loadAt, Instr.sureAddr, Sem.run_bind, Sem.run_pure, Result.andThen_ok, hl_]
        · intro a w1 hfr hdep
          have f0 : a.tmps.getD 1 undef = .slice (some bd) lb.length bc := hfr.slot 1 (by kernel_rfl)
          refine Loose.Step.value rfl (v := .slice (some bd) lb.length bc) (w' := w1) ?_ rfl (Below.refl _ _)
          simp [go_sem, Act.eval, f0]
        · intro a w1 hfr hdep
          have f0 : a.tmps.getD 6 undef = .int .i64 (k : Nat) := hfr.slot 6 (by kernel_rfl)
          refine Loose.Step.value rfl (v := .int .i64 (k : Nat)) (w' := w1) ?_ rfl (Below.refl _ _)
          simp [go_sem, Act.eval, f0]
        · intro a w1 hfr hdep
          have e0 : a.tmps.getD 31 undef = .slice (some bd) lb.length bc := Loose.dep_of hdep 4 31 (by kernel_rfl)
          have e1 : a.tmps.getD 32 undef = .int .i64 (k : Nat) := Loose.dep_of hdep 5 32 (by kernel_rfl)
          refine Loose.Step.value rfl (v := .pointer (some (bd.add (k * 3)))) (w' := w1) ?_ rfl (Below.refl _ _)
          simp [go_sem, Act.eval, e0, e1, hkb, hlb]
        · intro a w1 hfr hdep
          have hl_ := run_load_addr w1 (bd.add (k * 3)) 70 [.int .i64 y.1, .int .i64 y.2.1, .int .i64 y.2.2] _ (CellsAt.all (HDD.out.keep (by rw [Lists.add_block]; exact hfr.below.block _ HbdB.out))) Tryz.underlying70 rfl (by kernel_rfl)
          have e0 : a.tmps.getD 33 undef = .pointer (some (bd.add (k * 3))) := Loose.dep_of hdep 6 33 (by kernel_rfl)
          refine Loose.Step.value rfl (v := .agg #[.int .i64 y.1, .int .i64 y.2.1, .int .i64 y.2.2]) (w' := w1) ?_ rfl (Below.refl _ _)
          unfold execOp; simp only [Act.eval, e0, Instr.loadAt, Instr.sureAddr, Sem.run_bind, Sem.run_pure, Result.andThen_ok, hl_]
        · intro a w1 hfr hdep
          have e0 : a.tmps.getD 30 undef = .agg #[.int .i64 x.1, .int .i64 x.2.1, .int .i64 x.2.2] := Loose.dep_of hdep 3 30 (by kernel_rfl)
          have e1 : a.tmps.getD 34 undef = .agg #[.int .i64 y.1, .int .i64 y.2.1, .int .i64 y.2.2] := Loose.dep_of hdep 7 34 (by kernel_rfl)
          refine Loose.Step.value rfl (v := .bool t) (w' := w1) ?_ rfl (Below.refl _ _)
          simp [go_sem, Act.eval, e0, e1, hgr, qr]
        · intro a w1 hfr hdep
          have e0 : a.tmps.getD 35 undef = .bool t := Loose.dep_of hdep 8 35 (by kernel_rfl)
          refine Loose.Step.value rfl (v := .bool t) (w' := w1) ?_ rfl (Below.refl _ _)
          simp [go_sem, Act.eval, e0]
      · intro v0 v1 v2 v3 v4 v5 v6 v7 v8 v9 w5 hb5 hC
        have h1 : v9 = .bool t := hC.2
        subst h1
        have HW5 := Lib.hid (HW.out.trans (hb5.mono HW.out.size))
        clear hb5 hC
        simp only [SpecOwn.put_lit, List.set_cons_succ, List.set_cons_zero]
        go_wp2
        go_roundw
        case rel => exact ⟨k + 1, t, by omega, rfl, by go_num, HW5.out, HN.out⟩
        case measure => simp [RowKit.intOf]; omega
   · have hka : ¬ (k : Int) < (la.length : Int) := by omega
     have HD := Lib.hid (show true = sameAll sameUB la lb from Book.same_bool ((HF.out.done (fun _ => by omega)).trans (sameAll_iff sameUB_iff la lb).symm))
     clear hlen
     go_wp2
     go_ret
     exact ⟨Book.ret_b HD.out, HW.out⟩

set_option maxRecDepth 100000 in
set_option maxHeartbeats 4000000 in
theorem sameReply_any (y z : Rp) (PA : Option Addr) (pc : Nat) (UA : Option Addr) (uc : Nat) (PAx : Option Addr) (pcx : Nat) (UAx : Option Addr) (ucx : Nat) (w : World) (h : y.In w PA UA) (hx : z.In w PAx UAx) :
 Calls Tryz.prog 79 #[.agg #[.int .i64 y.code, .int .i64 y.uid, .int .i64 y.id, .int .u64 y.rev, .string y.data, .slice PA y.pods.length pc, .slice UA y.use.length uc], .agg #[.int .i64 z.code, .int .i64 z.uid, .int .i64 z.id, .int .u64 z.rev, .string z.data, .slice PAx z.pods.length pcx, .slice UAx z.use.length ucx]] w fun e w' => e = .returned (.bool (sameRB y z)) ∧ Below w.heap.size w w' := by
 obtain ⟨b0, e0⟩ : ∃ b : Bool, (y.code == z.code) = b := ⟨_, rfl⟩
 obtain ⟨b1, e1⟩ : ∃ b : Bool, (y.uid == z.uid) = b := ⟨_, rfl⟩
 obtain ⟨b2, e2⟩ : ∃ b : Bool, (y.id == z.id) = b := ⟨_, rfl⟩
 obtain ⟨b3, e3⟩ : ∃ b : Bool, ((y.rev : Int) == (z.rev : Int)) = b := ⟨_, rfl⟩
 obtain ⟨b4, e4⟩ : ∃ b : Bool, (y.data.toList == z.data.toList) = b := ⟨_, rfl⟩
 obtain ⟨b5, e5⟩ : ∃ b : Bool, sameAll samePB y.pods z.pods = b := ⟨_, rfl⟩
 obtain ⟨b6, e6⟩ : ∃ b : Bool, sameAll sameUB y.use z.use = b := ⟨_, rfl⟩
 have HR := Lib.hid (show (b0 && b1 && b2 && b3 && b4 && b5 && b6) = sameRB y z by rw [← e0, ← e1, ← e2, ← e3, ← e4, ← e5, ← e6]; (try simp only [nat_eq]); rfl)
 have E5 := Lib.hid e5
 clear e5
 have E6 := Lib.hid e6
 clear e6
 have H := Lib.hid h
 have HX := Lib.hid hx
 clear h hx
 obtain ⟨w2, hw2⟩ : ∃ v, (w.alloc (.cells #[.int .i64 y.code, .int .i64 y.uid, .int .i64 y.id, .int .u64 y.rev, .string y.data, .slice PA y.pods.length pc, .slice UA y.use.length uc] 46)).alloc (.cells #[.int .i64 z.code, .int .i64 z.uid, .int .i64 z.id, .int .u64 z.rev, .string z.data, .slice PAx z.pods.length pcx, .slice UAx z.use.length ucx] 46) = v := ⟨_, rfl⟩
 have hx : Below w.heap.size w w2 ∧ w2.heap[w.heap.size]? = some (.cells #[.int .i64 y.code, .int .i64 y.uid, .int .i64 y.id, .int .u64 y.rev, .string y.data, .slice PA y.pods.length pc, .slice UA y.use.length uc] 46) ∧ w2.heap[w.heap.size + 1]? = some (.cells #[.int .i64 z.code, .int .i64 z.uid, .int .i64 z.id, .int .u64 z.rev, .string z.data, .slice PAx z.pods.length pcx, .slice UAx z.use.length ucx] 46) := by
  subst hw2
  have a1 := heap_alloc_new w (.cells #[.int .i64 y.code, .int .i64 y.uid, .int .i64 y.id, .int .u64 y.rev, .string y.data, .slice PA y.pods.length pc, .slice UA y.use.length uc] 46)
  have a2 := heap_alloc_new (w.alloc (.cells #[.int .i64 y.code, .int .i64 y.uid, .int .i64 y.id, .int .u64 y.rev, .string y.data, .slice PA y.pods.length pc, .slice UA y.use.length uc] 46)) (.cells #[.int .i64 z.code, .int .i64 z.uid, .int .i64 z.id, .int .u64 z.rev, .string z.data, .slice PAx z.pods.length pcx, .slice UAx z.use.length ucx] 46)
  have s1 : (w.alloc (.cells #[.int .i64 y.code, .int .i64 y.uid, .int .i64 y.id, .int .u64 y.rev, .string y.data, .slice PA y.pods.length pc, .slice UA y.use.length uc] 46)).heap.size = w.heap.size + 1 := by simp
  have k2 := ((Below.refl (w.heap.size + 1) (w.alloc (.cells #[.int .i64 y.code, .int .i64 y.uid, .int .i64 y.id, .int .u64 y.rev, .string y.data, .slice PA y.pods.length pc, .slice UA y.use.length uc] 46))).alloc (by omega) (.cells #[.int .i64 z.code, .int .i64 z.uid, .int .i64 z.id, .int .u64 z.rev, .string z.data, .slice PAx z.pods.length pcx, .slice UAx z.use.length ucx] 46)).block
  rw [s1] at a2
  exact ⟨((Below.refl _ _).alloc (Nat.le_refl _) _).alloc (by omega) _, (k2 _ (by omega)).trans a1, a2⟩
 have B2 := Lib.hid hx.1
 have X2 := Lib.hid hx.2.1
 have Y2 := Lib.hid hx.2.2
 clear hx
 have c0 := box_cell X2.out 0 rfl
 have d0 := box_cell Y2.out 0 rfl
 have c1 := box_cell X2.out 1 rfl
 have d1 := box_cell Y2.out 1 rfl
 have c2 := box_cell X2.out 2 rfl
 have d2 := box_cell Y2.out 2 rfl
 have c3 := box_cell X2.out 3 rfl
 have d3 := box_cell Y2.out 3 rfl
 have c4 := box_cell X2.out 4 rfl
 have d4 := box_cell Y2.out 4 rfl
 have c5 := box_cell X2.out 5 rfl
 have d5 := box_cell Y2.out 5 rfl
 go_enter Tryz.func79, Tryz.ntmps79
 cases b0 with
 | false =>
  have HD := Lib.hid (show false = sameRB y z from by have := HR.out; simpa using this)
  go_wp2
  go_ret
  exact ⟨Book.ret_b HD.out, B2.out⟩
 | true =>
  cases b1 with
  | false =>
   have HD := Lib.hid (show false = sameRB y z from by have := HR.out; simpa using this)
   go_wp2
   go_ret
   exact ⟨Book.ret_b HD.out, B2.out⟩
  | true =>
   cases b2 with
   | false =>
    have HD := Lib.hid (show false = sameRB y z from by have := HR.out; simpa using this)
    go_wp2
    go_ret
    exact ⟨Book.ret_b HD.out, B2.out⟩
   | true =>
    cases b3 with
    | false =>
     have HD := Lib.hid (show false = sameRB y z from by have := HR.out; simpa using this)
     go_wp2
     go_ret
     exact ⟨Book.ret_b HD.out, B2.out⟩
    | true =>
     cases b4 with
     | false =>
      have HD := Lib.hid (show false = sameRB y z from by have := HR.out; simpa using this)
      go_wp2
      go_ret
      exact ⟨Book.ret_b HD.out, B2.out⟩
     | true =>
      go_wp2_with fail
      refine (samePods_any PA pc y.pods PAx pcx z.pods H.out.np HX.out.np w2 (H.out.pods.below B2.out) (HX.out.pods.below B2.out)).mono ?_
      rintro e w3 ⟨rfl, hb3⟩
      have B3 := Lib.hid (B2.out.trans (hb3.mono B2.out.size))
      have X3 := Lib.hid ((hb3.block w.heap.size (lt_of_block X2.out)).trans X2.out)
      have Y3 := Lib.hid ((hb3.block (w.heap.size + 1) (lt_of_block Y2.out)).trans Y2.out)
      clear hb3 X2 Y2 hw2 c0 d0 c1 d1 c2 d2 c3 d3 c4 d4 c5 d5
      rw [E5.out]
      as_aux_lemma =>
       have c6 := box_cell X3.out 6 rfl
       have d6 := box_cell Y3.out 6 rfl
       cases b5 with
       | false =>
        have HD := Lib.hid (show false = sameRB y z from by have := HR.out; simpa using this)
        go_wp2
        go_ret
        exact ⟨Book.ret_b HD.out, B3.out⟩
       | true =>
        go_wp2_with fail
        refine (sameRes_any UA uc y.use UAx ucx z.use H.out.nu HX.out.nu w3 (H.out.use.below B3.out) (HX.out.use.below B3.out)).mono ?_
        rintro e w4 ⟨rfl, hb4⟩
        have B4 := Lib.hid (B3.out.trans (hb4.mono B3.out.size))
        have X4 := Lib.hid ((hb4.block w.heap.size (lt_of_block X3.out)).trans X3.out)
        have Y4 := Lib.hid ((hb4.block (w.heap.size + 1) (lt_of_block Y3.out)).trans Y3.out)
        clear hb4 X3 Y3 c6 d6
        rw [E6.out]
        have HD := Lib.hid (show b6 = sameRB y z from by have := HR.out; simpa using this)
        go_wp2
        go_ret
        exact ⟨Book.ret_b HD.out, B4.out⟩

set_option maxRecDepth 100000 in
set_option maxHeartbeats 4000000 in
theorem sameMsg_any (m n : Mg) (PA : Option Addr) (pc : Nat) (UA : Option Addr) (uc : Nat) (LA : Option Addr) (lc : Nat) (IA : Option Addr) (ic : Nat) (MA : Option Addr) (mc : Nat) (RA : Option Addr) (rc : Nat) (PAx : Option Addr) (pcx : Nat) (UAx : Option Addr) (ucx : Nat) (LAx : Option Addr) (lcx : Nat) (IAx : Option Addr) (icx : Nat) (MAx : Option Addr) (mcx : Nat) (RAx : Option Addr) (rcx : Nat) (w : World) (h : m.In w PA UA LA lc IA ic MA mc RA) (hx : n.In w PAx UAx LAx lcx IAx icx MAx mcx RAx) :
 Calls Tryz.prog 32 #[.agg #[.int .i64 m.kind, .int .i64 m.num, .int .i64 m.reply.code, .int .i64 m.reply.uid, .int .i64 m.reply.id, .int .u64 m.reply.rev, .string m.reply.data, .slice PA m.reply.pods.length pc, .slice UA m.reply.use.length uc, .int .i64 m.event.kind, .int .u64 m.event.rev, .int .i64 m.event.pod.uid, .int .u64 m.event.pod.rev, .string m.event.pod.spec.name, .slice LA m.event.pod.spec.labels.length lc, .slice IA m.event.pod.spec.init.length ic, .slice MA m.event.pod.spec.main.length mc, .int .i64 m.event.pod.spec.restart, .int .i64 m.event.pod.spec.grace, .int .i64 m.event.pod.spec.prio, .int .i64 m.event.pod.phase, .slice RA m.event.pod.rs.length rc, .int .i64 m.event.pod.mark, .int .i64 m.event.pod.grace], .agg #[.int .i64 n.kind, .int .i64 n.num, .int .i64 n.reply.code, .int .i64 n.reply.uid, .int .i64 n.reply.id, .int .u64 n.reply.rev, .string n.reply.data, .slice PAx n.reply.pods.length pcx, .slice UAx n.reply.use.length ucx, .int .i64 n.event.kind, .int .u64 n.event.rev, .int .i64 n.event.pod.uid, .int .u64 n.event.pod.rev, .string n.event.pod.spec.name, .slice LAx n.event.pod.spec.labels.length lcx, .slice IAx n.event.pod.spec.init.length icx, .slice MAx n.event.pod.spec.main.length mcx, .int .i64 n.event.pod.spec.restart, .int .i64 n.event.pod.spec.grace, .int .i64 n.event.pod.spec.prio, .int .i64 n.event.pod.phase, .slice RAx n.event.pod.rs.length rcx, .int .i64 n.event.pod.mark, .int .i64 n.event.pod.grace]] w fun e w' => e = .returned (.bool (sameMB m n)) ∧ Below w.heap.size w w' := by
 obtain ⟨b0, e0⟩ : ∃ b : Bool, (m.kind == n.kind) = b := ⟨_, rfl⟩
 obtain ⟨b1, e1⟩ : ∃ b : Bool, (m.num == n.num) = b := ⟨_, rfl⟩
 obtain ⟨b2, e2⟩ : ∃ b : Bool, sameRB m.reply n.reply = b := ⟨_, rfl⟩
 obtain ⟨b3, e3⟩ : ∃ b : Bool, sameEB m.event n.event = b := ⟨_, rfl⟩
 have HR := Lib.hid (show (b0 && b1 && b2 && b3) = sameMB m n by rw [← e0, ← e1, ← e2, ← e3]; (try simp only [nat_eq]); rfl)
 have E2 := Lib.hid e2
 clear e2
 have E3 := Lib.hid e3
 clear e3
 have H := Lib.hid h
 have HX := Lib.hid hx
 clear h hx
 obtain ⟨w2, hw2⟩ : ∃ v, (w.alloc (.cells #[.int .i64 m.kind, .int .i64 m.num, .int .i64 m.reply.code, .int .i64 m.reply.uid, .int .i64 m.reply.id, .int .u64 m.reply.rev, .string m.reply.data, .slice PA m.reply.pods.length pc, .slice UA m.reply.use.length uc, .int .i64 m.event.kind, .int .u64 m.event.rev, .int .i64 m.event.pod.uid, .int .u64 m.event.pod.rev, .string m.event.pod.spec.name, .slice LA m.event.pod.spec.labels.length lc, .slice IA m.event.pod.spec.init.length ic, .slice MA m.event.pod.spec.main.length mc, .int .i64 m.event.pod.spec.restart, .int .i64 m.event.pod.spec.grace, .int .i64 m.event.pod.spec.prio, .int .i64 m.event.pod.phase, .slice RA m.event.pod.rs.length rc, .int .i64 m.event.pod.mark, .int .i64 m.event.pod.grace] 50)).alloc (.cells #[.int .i64 n.kind, .int .i64 n.num, .int .i64 n.reply.code, .int .i64 n.reply.uid, .int .i64 n.reply.id, .int .u64 n.reply.rev, .string n.reply.data, .slice PAx n.reply.pods.length pcx, .slice UAx n.reply.use.length ucx, .int .i64 n.event.kind, .int .u64 n.event.rev, .int .i64 n.event.pod.uid, .int .u64 n.event.pod.rev, .string n.event.pod.spec.name, .slice LAx n.event.pod.spec.labels.length lcx, .slice IAx n.event.pod.spec.init.length icx, .slice MAx n.event.pod.spec.main.length mcx, .int .i64 n.event.pod.spec.restart, .int .i64 n.event.pod.spec.grace, .int .i64 n.event.pod.spec.prio, .int .i64 n.event.pod.phase, .slice RAx n.event.pod.rs.length rcx, .int .i64 n.event.pod.mark, .int .i64 n.event.pod.grace] 50) = v := ⟨_, rfl⟩
 have hx : Below w.heap.size w w2 ∧ w2.heap[w.heap.size]? = some (.cells #[.int .i64 m.kind, .int .i64 m.num, .int .i64 m.reply.code, .int .i64 m.reply.uid, .int .i64 m.reply.id, .int .u64 m.reply.rev, .string m.reply.data, .slice PA m.reply.pods.length pc, .slice UA m.reply.use.length uc, .int .i64 m.event.kind, .int .u64 m.event.rev, .int .i64 m.event.pod.uid, .int .u64 m.event.pod.rev, .string m.event.pod.spec.name, .slice LA m.event.pod.spec.labels.length lc, .slice IA m.event.pod.spec.init.length ic, .slice MA m.event.pod.spec.main.length mc, .int .i64 m.event.pod.spec.restart, .int .i64 m.event.pod.spec.grace, .int .i64 m.event.pod.spec.prio, .int .i64 m.event.pod.phase, .slice RA m.event.pod.rs.length rc, .int .i64 m.event.pod.mark, .int .i64 m.event.pod.grace] 50) ∧ w2.heap[w.heap.size + 1]? = some (.cells #[.int .i64 n.kind, .int .i64 n.num, .int .i64 n.reply.code, .int .i64 n.reply.uid, .int .i64 n.reply.id, .int .u64 n.reply.rev, .string n.reply.data, .slice PAx n.reply.pods.length pcx, .slice UAx n.reply.use.length ucx, .int .i64 n.event.kind, .int .u64 n.event.rev, .int .i64 n.event.pod.uid, .int .u64 n.event.pod.rev, .string n.event.pod.spec.name, .slice LAx n.event.pod.spec.labels.length lcx, .slice IAx n.event.pod.spec.init.length icx, .slice MAx n.event.pod.spec.main.length mcx, .int .i64 n.event.pod.spec.restart, .int .i64 n.event.pod.spec.grace, .int .i64 n.event.pod.spec.prio, .int .i64 n.event.pod.phase, .slice RAx n.event.pod.rs.length rcx, .int .i64 n.event.pod.mark, .int .i64 n.event.pod.grace] 50) := by
  subst hw2
  have a1 := heap_alloc_new w (.cells #[.int .i64 m.kind, .int .i64 m.num, .int .i64 m.reply.code, .int .i64 m.reply.uid, .int .i64 m.reply.id, .int .u64 m.reply.rev, .string m.reply.data, .slice PA m.reply.pods.length pc, .slice UA m.reply.use.length uc, .int .i64 m.event.kind, .int .u64 m.event.rev, .int .i64 m.event.pod.uid, .int .u64 m.event.pod.rev, .string m.event.pod.spec.name, .slice LA m.event.pod.spec.labels.length lc, .slice IA m.event.pod.spec.init.length ic, .slice MA m.event.pod.spec.main.length mc, .int .i64 m.event.pod.spec.restart, .int .i64 m.event.pod.spec.grace, .int .i64 m.event.pod.spec.prio, .int .i64 m.event.pod.phase, .slice RA m.event.pod.rs.length rc, .int .i64 m.event.pod.mark, .int .i64 m.event.pod.grace] 50)
  have a2 := heap_alloc_new (w.alloc (.cells #[.int .i64 m.kind, .int .i64 m.num, .int .i64 m.reply.code, .int .i64 m.reply.uid, .int .i64 m.reply.id, .int .u64 m.reply.rev, .string m.reply.data, .slice PA m.reply.pods.length pc, .slice UA m.reply.use.length uc, .int .i64 m.event.kind, .int .u64 m.event.rev, .int .i64 m.event.pod.uid, .int .u64 m.event.pod.rev, .string m.event.pod.spec.name, .slice LA m.event.pod.spec.labels.length lc, .slice IA m.event.pod.spec.init.length ic, .slice MA m.event.pod.spec.main.length mc, .int .i64 m.event.pod.spec.restart, .int .i64 m.event.pod.spec.grace, .int .i64 m.event.pod.spec.prio, .int .i64 m.event.pod.phase, .slice RA m.event.pod.rs.length rc, .int .i64 m.event.pod.mark, .int .i64 m.event.pod.grace] 50)) (.cells #[.int .i64 n.kind, .int .i64 n.num, .int .i64 n.reply.code, .int .i64 n.reply.uid, .int .i64 n.reply.id, .int .u64 n.reply.rev, .string n.reply.data, .slice PAx n.reply.pods.length pcx, .slice UAx n.reply.use.length ucx, .int .i64 n.event.kind, .int .u64 n.event.rev, .int .i64 n.event.pod.uid, .int .u64 n.event.pod.rev, .string n.event.pod.spec.name, .slice LAx n.event.pod.spec.labels.length lcx, .slice IAx n.event.pod.spec.init.length icx, .slice MAx n.event.pod.spec.main.length mcx, .int .i64 n.event.pod.spec.restart, .int .i64 n.event.pod.spec.grace, .int .i64 n.event.pod.spec.prio, .int .i64 n.event.pod.phase, .slice RAx n.event.pod.rs.length rcx, .int .i64 n.event.pod.mark, .int .i64 n.event.pod.grace] 50)
  have s1 : (w.alloc (.cells #[.int .i64 m.kind, .int .i64 m.num, .int .i64 m.reply.code, .int .i64 m.reply.uid, .int .i64 m.reply.id, .int .u64 m.reply.rev, .string m.reply.data, .slice PA m.reply.pods.length pc, .slice UA m.reply.use.length uc, .int .i64 m.event.kind, .int .u64 m.event.rev, .int .i64 m.event.pod.uid, .int .u64 m.event.pod.rev, .string m.event.pod.spec.name, .slice LA m.event.pod.spec.labels.length lc, .slice IA m.event.pod.spec.init.length ic, .slice MA m.event.pod.spec.main.length mc, .int .i64 m.event.pod.spec.restart, .int .i64 m.event.pod.spec.grace, .int .i64 m.event.pod.spec.prio, .int .i64 m.event.pod.phase, .slice RA m.event.pod.rs.length rc, .int .i64 m.event.pod.mark, .int .i64 m.event.pod.grace] 50)).heap.size = w.heap.size + 1 := by simp
  have k2 := ((Below.refl (w.heap.size + 1) (w.alloc (.cells #[.int .i64 m.kind, .int .i64 m.num, .int .i64 m.reply.code, .int .i64 m.reply.uid, .int .i64 m.reply.id, .int .u64 m.reply.rev, .string m.reply.data, .slice PA m.reply.pods.length pc, .slice UA m.reply.use.length uc, .int .i64 m.event.kind, .int .u64 m.event.rev, .int .i64 m.event.pod.uid, .int .u64 m.event.pod.rev, .string m.event.pod.spec.name, .slice LA m.event.pod.spec.labels.length lc, .slice IA m.event.pod.spec.init.length ic, .slice MA m.event.pod.spec.main.length mc, .int .i64 m.event.pod.spec.restart, .int .i64 m.event.pod.spec.grace, .int .i64 m.event.pod.spec.prio, .int .i64 m.event.pod.phase, .slice RA m.event.pod.rs.length rc, .int .i64 m.event.pod.mark, .int .i64 m.event.pod.grace] 50))).alloc (by omega) (.cells #[.int .i64 n.kind, .int .i64 n.num, .int .i64 n.reply.code, .int .i64 n.reply.uid, .int .i64 n.reply.id, .int .u64 n.reply.rev, .string n.reply.data, .slice PAx n.reply.pods.length pcx, .slice UAx n.reply.use.length ucx, .int .i64 n.event.kind, .int .u64 n.event.rev, .int .i64 n.event.pod.uid, .int .u64 n.event.pod.rev, .string n.event.pod.spec.name, .slice LAx n.event.pod.spec.labels.length lcx, .slice IAx n.event.pod.spec.init.length icx, .slice MAx n.event.pod.spec.main.length mcx, .int .i64 n.event.pod.spec.restart, .int .i64 n.event.pod.spec.grace, .int .i64 n.event.pod.spec.prio, .int .i64 n.event.pod.phase, .slice RAx n.event.pod.rs.length rcx, .int .i64 n.event.pod.mark, .int .i64 n.event.pod.grace] 50)).block
  rw [s1] at a2
  exact ⟨((Below.refl _ _).alloc (Nat.le_refl _) _).alloc (by omega) _, (k2 _ (by omega)).trans a1, a2⟩
 have B2 := Lib.hid hx.1
 have X2 := Lib.hid hx.2.1
 have Y2 := Lib.hid hx.2.2
 clear hx
 have c0 := box_cell X2.out 0 rfl
 have d0 := box_cell Y2.out 0 rfl
 have c1 := box_cell X2.out 1 rfl
 have d1 := box_cell Y2.out 1 rfl
 have RGA := Lib.hid (range_at X2.out 2 [.int .i64 m.reply.code, .int .i64 m.reply.uid, .int .i64 m.reply.id, .int .u64 m.reply.rev, .string m.reply.data, .slice PA m.reply.pods.length pc, .slice UA m.reply.use.length uc] rfl)
 have RGB := Lib.hid (range_at Y2.out 2 [.int .i64 n.reply.code, .int .i64 n.reply.uid, .int .i64 n.reply.id, .int .u64 n.reply.rev, .string n.reply.data, .slice PAx n.reply.pods.length pcx, .slice UAx n.reply.use.length ucx] rfl)
 go_enter Tryz.func32, Tryz.ntmps32
 cases b0 with
 | false =>
  have HD := Lib.hid (show false = sameMB m n from by have := HR.out; simpa using this)
  go_wp2
  go_ret
  exact ⟨Book.ret_b HD.out, B2.out⟩
 | true =>
  cases b1 with
  | false =>
   have HD := Lib.hid (show false = sameMB m n from by have := HR.out; simpa using this)
   go_wp2
   go_ret
   exact ⟨Book.ret_b HD.out, B2.out⟩
  | true =>
   go_wp2_with (first | (refine wpList_load_mid rfl _ _ rfl _ _ rfl _ _ RGA.out Tryz.underlying46 rfl (by kernel_rfl) ?_) | (refine wpList_load_midG rfl _ _ rfl _ _ rfl _ _ RGA.out Tryz.underlying46 rfl (by kernel_rfl) ?_) | (refine wpList_load_mid rfl _ _ rfl _ _ rfl _ _ RGB.out Tryz.underlying46 rfl (by kernel_rfl) ?_) | (refine wpList_load_midG rfl _ _ rfl _ _ rfl _ _ RGB.out Tryz.underlying46 rfl (by kernel_rfl) ?_))
   refine (sameReply_any m.reply n.reply PA pc UA uc PAx pcx UAx ucx w2 (H.out.reply.below B2.out) (HX.out.reply.below B2.out)).mono ?_
   rintro e w3 ⟨rfl, hb3⟩
   have B3 := Lib.hid (B2.out.trans (hb3.mono B2.out.size))
   have X3 := Lib.hid ((hb3.block w.heap.size (lt_of_block X2.out)).trans X2.out)
   have Y3 := Lib.hid ((hb3.block (w.heap.size + 1) (lt_of_block Y2.out)).trans Y2.out)
   clear hb3 X2 Y2 hw2 c0 d0 c1 d1 RGA RGB
   rw [E2.out]
   as_aux_lemma =>
    have RGA := Lib.hid (range_at X3.out 9 [.int .i64 m.event.kind, .int .u64 m.event.rev, .int .i64 m.event.pod.uid, .int .u64 m.event.pod.rev, .string m.event.pod.spec.name, .slice LA m.event.pod.spec.labels.length lc, .slice IA m.event.pod.spec.init.length ic, .slice MA m.event.pod.spec.main.length mc, .int .i64 m.event.pod.spec.restart, .int .i64 m.event.pod.spec.grace, .int .i64 m.event.pod.spec.prio, .int .i64 m.event.pod.phase, .slice RA m.event.pod.rs.length rc, .int .i64 m.event.pod.mark, .int .i64 m.event.pod.grace] rfl)
    have RGB := Lib.hid (range_at Y3.out 9 [.int .i64 n.event.kind, .int .u64 n.event.rev, .int .i64 n.event.pod.uid, .int .u64 n.event.pod.rev, .string n.event.pod.spec.name, .slice LAx n.event.pod.spec.labels.length lcx, .slice IAx n.event.pod.spec.init.length icx, .slice MAx n.event.pod.spec.main.length mcx, .int .i64 n.event.pod.spec.restart, .int .i64 n.event.pod.spec.grace, .int .i64 n.event.pod.spec.prio, .int .i64 n.event.pod.phase, .slice RAx n.event.pod.rs.length rcx, .int .i64 n.event.pod.mark, .int .i64 n.event.pod.grace] rfl)
    cases b2 with
    | false =>
     have HD := Lib.hid (show false = sameMB m n from by have := HR.out; simpa using this)
     go_wp2
     go_ret
     exact ⟨Book.ret_b HD.out, B3.out⟩
    | true =>
     go_wp2_with (first | (refine wpList_load_mid rfl _ _ rfl _ _ rfl _ _ RGA.out Tryz.underlying48 rfl (by kernel_rfl) ?_) | (refine wpList_load_midG rfl _ _ rfl _ _ rfl _ _ RGA.out Tryz.underlying48 rfl (by kernel_rfl) ?_) | (refine wpList_load_mid rfl _ _ rfl _ _ rfl _ _ RGB.out Tryz.underlying48 rfl (by kernel_rfl) ?_) | (refine wpList_load_midG rfl _ _ rfl _ _ rfl _ _ RGB.out Tryz.underlying48 rfl (by kernel_rfl) ?_))
     refine (sameEvent_any m.event n.event LA lc IA ic MA mc RA rc LAx lcx IAx icx MAx mcx RAx rcx w3 (H.out.pod.below B3.out) (HX.out.pod.below B3.out)).mono ?_
     rintro e w4 ⟨rfl, hb4⟩
     have B4 := Lib.hid (B3.out.trans (hb4.mono B3.out.size))
     have X4 := Lib.hid ((hb4.block w.heap.size (lt_of_block X3.out)).trans X3.out)
     have Y4 := Lib.hid ((hb4.block (w.heap.size + 1) (lt_of_block Y3.out)).trans Y3.out)
     clear hb4 X3 Y3 RGA RGB
     rw [E3.out]
     have HD := Lib.hid (show b3 = sameMB m n from by have := HR.out; simpa using this)
     go_wp2
     go_ret
     exact ⟨Book.ret_b HD.out, B4.out⟩

end Tl
end Go.Proofs.YtalnncgomlibbaaGreatDoor
