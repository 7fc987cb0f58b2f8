/-
 The contracts of provostbook's SameRes, SamePod, SamePods, SameReply, SameEvent, SameMsg: are two the same. All that was there is left as it was. Condition: lists of fewer than 2^63. And what follows of it, part by part, each with its conditions.
-/
import Derived.Test.YtljbpelogjmciaaGreatDoorTellA
import Derived.Test.YtljbpelogjmciaaGreatDoorSpecDataAll
import Derived.Test.YtljbpelogjmciaaGreatDoorRegionAll
import Derived.Test.YtljbpelogjmciaaGreatDoorSpecStepAll
import Derived.Test.YtljbpelogjmciaaGreatDoorSpecCheck
import Derived.Test.YtljbpelogjmciaaGreatDoorTellB
import Derived.Test.YtljbpelogjmciaaGreatDoorCopyAll
import Derived.Deep.DeepCutAuto
set_option maxHeartbeats 4000000
set_option maxRecDepth 100000
set_option linter.unusedVariables false
set_option linter.unusedSimpArgs false
namespace Go.Proofs.YtljbpelogjmciaaGreatDoor
open Go.ChangeShapes Go.WideShapes Go.ChangeAt Go.RowKit Go.Lib
open LebMath WirePure Sd Wire SpecOwn SpecRef Book Pk
namespace Tl
theorem wpList_load_midG {P : Program} {ops : Array Oper} {rest : List Oper} {op : Oper} {a : Act} {w : World} {Q : Exit → Act → World → Prop} (hw : Region.wanted op (yielded ops a.tmps) = true) (ty : TypeId) (x : Operand) (ho : op.op = .load ty x)
 (b o : Nat) (hx : a.eval x = .pointer (some ⟨b, o, none⟩)) (cs : List Value) (d : TypeDesc) (hc : w.rangeAt b o cs)
 (hu : P.underlying ty = some d) (hd : d.isRow = true) (hi : (P.info? ty).map (·.size) = some cs.length)
 (h : wpList P ops Q rest (a.put op.dst (.agg cs.toArray)) w) : wpList P ops Q (op :: rest) a w :=
 wpList_step fun K hK => by rw [if_pos hw]; exact wp_load_mid ty x ho b o hx cs d hc hu hd hi (hK _ _ h)
theorem nat_eq (n m : Nat) : ((n : Int) == (m : Int)) = (n == m) := by
 by_cases h : n = m
 · subst h; simp
 · rw [beq_eq_false_iff_ne.2 h, beq_eq_false_iff_ne]; omega
def sameUB (x y : Int × Int × Int) : Bool := resB x.1 x.2.1 x.2.2 y.1 y.2.1 y.2.2
theorem sameUB_iff (x y : Int × Int × Int) : sameUB x y = true ↔ x = y := by
 obtain ⟨a, b, c⟩ := x
 obtain ⟨d, e, f⟩ := y
 simp [sameUB, resB, and_assoc]
def samePB (p q : Pd) : Bool := p.uid == q.uid && p.rev == q.rev && sameS p.spec q.spec && p.phase == q.phase && sameIs p.rs q.rs && p.mark == q.mark && p.grace == q.grace
theorem samePB_iff (p q : Pd) : samePB p q = true ↔ p = q := by
 unfold samePB
 simp only [Bool.and_eq_true, beq_iff_eq, sameS_iff, sameIs_iff]
 constructor
 · rintro ⟨⟨⟨⟨⟨⟨h0, h1⟩, h2⟩, h3⟩, h4⟩, h5⟩, h6⟩
   obtain ⟨a0, a1, a2, a3, a4, a5, a6⟩ := p
   obtain ⟨e0, e1, e2, e3, e4, e5, e6⟩ := q
   simp only at h0 h1 h2 h3 h4 h5 h6
   subst h0 h1 h2 h3 h4 h5 h6
   rfl
 · rintro rfl
   simp
def sameEB (u v : Ev) : Bool := u.kind == v.kind && u.rev == v.rev && samePB u.pod v.pod
theorem sameEB_iff (u v : Ev) : sameEB u v = true ↔ u = v := by
 unfold sameEB
 simp only [Bool.and_eq_true, beq_iff_eq, samePB_iff]
 constructor
 · rintro ⟨⟨h0, h1⟩, h2⟩
   obtain ⟨a0, a1, a2⟩ := u
   obtain ⟨e0, e1, e2⟩ := v
   simp only at h0 h1 h2
   subst h0 h1 h2
   rfl
 · rintro rfl
   simp
def sameRB (y z : Rp) : Bool := y.code == z.code && y.uid == z.uid && y.id == z.id && y.rev == z.rev && y.data.toList == z.data.toList && sameAll samePB y.pods z.pods && sameAll sameUB y.use z.use
theorem sameRB_iff (y z : Rp) : sameRB y z = true ↔ y = z := by
 unfold sameRB
 simp only [Bool.and_eq_true, beq_iff_eq, text_eq, sameAll_iff samePB_iff, sameAll_iff sameUB_iff]
 constructor
 · rintro ⟨⟨⟨⟨⟨⟨h0, h1⟩, h2⟩, h3⟩, h4⟩, h5⟩, h6⟩
   obtain ⟨a0, a1, a2, a3, a4, a5, a6⟩ := y
   obtain ⟨e0, e1, e2, e3, e4, e5, e6⟩ := z
   simp only at h0 h1 h2 h3 h4 h5 h6
   subst h0 h1 h2 h3 h4 h5 h6
   rfl
 · rintro rfl
   simp
def sameMB (m n : Mg) : Bool := m.kind == n.kind && m.num == n.num && sameRB m.reply n.reply && sameEB m.event n.event
theorem sameMB_iff (m n : Mg) : sameMB m n = true ↔ m = n := by
 unfold sameMB
 simp only [Bool.and_eq_true, beq_iff_eq, sameRB_iff, sameEB_iff]
 constructor
 · rintro ⟨⟨⟨h0, h1⟩, h2⟩, h3⟩
   obtain ⟨a0, a1, a2, a3⟩ := m
   obtain ⟨e0, e1, e2, e3⟩ := n
   simp only at h0 h1 h2 h3
   subst h0 h1 h2 h3
   rfl
 · rintro rfl
   simp
theorem samePod_any (p q : Pd) (LA : Option Addr) (lc : Nat) (IA : Option Addr) (ic : Nat) (MA : Option Addr) (mc : Nat) (RA : Option Addr) (rc : Nat) (LAx : Option Addr) (lcx : Nat) (IAx : Option Addr) (icx : Nat) (MAx : Option Addr) (mcx : Nat) (RAx : Option Addr) (rcx : Nat) (w : World) (h : p.In w LA lc IA ic MA mc RA) (hx : q.In w LAx lcx IAx icx MAx mcx RAx) :
 Calls Tryz.prog 19 #[.agg (P13 p LA lc IA ic MA mc RA rc).toArray, .agg (P13 q LAx lcx IAx icx MAx mcx RAx rcx).toArray] w fun e w' => e = .returned (.bool (samePB p q)) ∧ Below w.heap.size w w' := by
 obtain ⟨b0, e0⟩ : ∃ b : Bool, (p.uid == q.uid) = b := ⟨_, rfl⟩
 obtain ⟨b1, e1⟩ : ∃ b : Bool, ((p.rev : Int) == (q.rev : Int)) = b := ⟨_, rfl⟩
 obtain ⟨b2, e2⟩ : ∃ b : Bool, sameS p.spec q.spec = b := ⟨_, rfl⟩
 obtain ⟨b3, e3⟩ : ∃ b : Bool, (p.phase == q.phase) = b := ⟨_, rfl⟩
 obtain ⟨b4, e4⟩ : ∃ b : Bool, sameIs p.rs q.rs = b := ⟨_, rfl⟩
 obtain ⟨b5, e5⟩ : ∃ b : Bool, (p.mark == q.mark) = b := ⟨_, rfl⟩
 obtain ⟨b6, e6⟩ : ∃ b : Bool, (p.grace == q.grace) = b := ⟨_, rfl⟩
 have HR := hid (show (b0 && b1 && b2 && b3 && b4 && b5 && b6) = samePB p q by rw [← e0, ← e1, ← e2, ← e3, ← e4, ← e5, ← e6]; (try simp only [nat_eq]); rfl)
 have E2 := hid e2
 clear e2
 have E4 := hid e4
 clear e4
 have H := hid h
 have HX := hid hx
 clear h hx
 obtain ⟨w2, hw2⟩ : ∃ v, (w.alloc (.cells (P13 p LA lc IA ic MA mc RA rc).toArray 42)).alloc (.cells (P13 q LAx lcx IAx icx MAx mcx RAx rcx).toArray 42) = v := ⟨_, rfl⟩
 have hx : Below w.heap.size w w2 ∧ w2.heap[w.heap.size]? = some (.cells (P13 p LA lc IA ic MA mc RA rc).toArray 42) ∧ w2.heap[w.heap.size + 1]? = some (.cells (P13 q LAx lcx IAx icx MAx mcx RAx rcx).toArray 42) := by
  subst hw2
  have a1 := heap_alloc_new w (.cells (P13 p LA lc IA ic MA mc RA rc).toArray 42)
  have a2 := heap_alloc_new (w.alloc (.cells (P13 p LA lc IA ic MA mc RA rc).toArray 42)) (.cells (P13 q LAx lcx IAx icx MAx mcx RAx rcx).toArray 42)
  have s1 : (w.alloc (.cells (P13 p LA lc IA ic MA mc RA rc).toArray 42)).heap.size = w.heap.size + 1 := by simp
  have k2 := ((Below.refl (w.heap.size + 1) (w.alloc (.cells (P13 p LA lc IA ic MA mc RA rc).toArray 42))).alloc (by omega) (.cells (P13 q LAx lcx IAx icx MAx mcx RAx rcx).toArray 42)).block
  rw [s1] at a2
  exact ⟨((Below.refl _ _).alloc (Nat.le_refl _) _).alloc (by omega) _, (k2 _ (by omega)).trans a1, a2⟩
 have B2 := hid hx.1
 have X2 := hid hx.2.1
 have Y2 := hid hx.2.2
 clear hx
 have c0 := box_cell X2.out 0 rfl
 have d0 := box_cell Y2.out 0 rfl
 have c1 := box_cell X2.out 1 rfl
 have d1 := box_cell Y2.out 1 rfl
 have RGA := hid (range_at X2.out 2 [.string p.spec.name, .slice LA p.spec.labels.length lc, .slice IA p.spec.init.length ic, .slice MA p.spec.main.length mc, .int .i64 p.spec.restart, .int .i64 p.spec.grace, .int .i64 p.spec.prio] rfl)
 have RGB := hid (range_at Y2.out 2 [.string q.spec.name, .slice LAx q.spec.labels.length lcx, .slice IAx q.spec.init.length icx, .slice MAx q.spec.main.length mcx, .int .i64 q.spec.restart, .int .i64 q.spec.grace, .int .i64 q.spec.prio] rfl)
 go_enter Tryz.func19, Tryz.ntmps19
 cases b0 with
 | false =>
  have HD := hid (show false = samePB p q from by have := HR.out; simpa using this); go_wp2
  go_ret
  exact ⟨Book.ret_b HD.out, B2.out⟩
 | true =>
  cases b1 with
  | false =>
   have HD := hid (show false = samePB p q from by have := HR.out; simpa using this); go_wp2
   go_ret
   exact ⟨Book.ret_b HD.out, B2.out⟩
  | true =>
   go_wp2_with (first | (refine wpList_load_mid rfl _ _ rfl _ _ rfl _ _ RGA.out Tryz.underlying28 rfl (by kernel_rfl) ?_) | (refine wpList_load_midG rfl _ _ rfl _ _ rfl _ _ RGA.out Tryz.underlying28 rfl (by kernel_rfl) ?_) | (refine wpList_load_mid rfl _ _ rfl _ _ rfl _ _ RGB.out Tryz.underlying28 rfl (by kernel_rfl) ?_) | (refine wpList_load_midG rfl _ _ rfl _ _ rfl _ _ RGB.out Tryz.underlying28 rfl (by kernel_rfl) ?_))
   refine (sameSpec_any p.spec LA lc IA ic MA mc q.spec LAx lcx IAx icx MAx mcx w2 (H.out.spec.below B2.out) (HX.out.spec.below B2.out)).mono ?_
   rintro e w3 ⟨rfl, hb3⟩; have B3 := hid (B2.out.trans (hb3.mono B2.out.size)); have X3 := hid ((hb3.block w.heap.size (lt_of_block X2.out)).trans X2.out); have Y3 := hid ((hb3.block (w.heap.size + 1) (lt_of_block Y2.out)).trans Y2.out); clear hb3 X2 Y2 hw2 c0 d0 c1 d1 RGA RGB; rw [E2.out]
   as_aux_lemma =>
    have c9 := box_cell X3.out 9 rfl
    have d9 := box_cell Y3.out 9 rfl
    have c10 := box_cell X3.out 10 rfl
    have d10 := box_cell Y3.out 10 rfl
    cases b2 with
    | false =>
     have HD := hid (show false = samePB p q from by have := HR.out; simpa using this); go_wp2
     go_ret
     exact ⟨Book.ret_b HD.out, B3.out⟩
    | true =>
     cases b3 with
     | false =>
      have HD := hid (show false = samePB p q from by have := HR.out; simpa using this); go_wp2
      go_ret
      exact ⟨Book.ret_b HD.out, B3.out⟩
     | true =>
      go_wp2_with fail
      refine (sameInts_any RA rc p.rs RAx rcx q.rs H.out.nr HX.out.nr w3 (Sd.Nums.below H.out.rs B3.out) (Sd.Nums.below HX.out.rs B3.out)).mono ?_
      rintro e w4 ⟨rfl, hb4⟩; have B4 := hid (B3.out.trans (hb4.mono B3.out.size)); have X4 := hid ((hb4.block w.heap.size (lt_of_block X3.out)).trans X3.out); have Y4 := hid ((hb4.block (w.heap.size + 1) (lt_of_block Y3.out)).trans Y3.out); clear hb4 X3 Y3 c9 d9 c10 d10; rw [E4.out]
      as_aux_lemma =>
       have c11 := box_cell X4.out 11 rfl
       have d11 := box_cell Y4.out 11 rfl
       have c12 := box_cell X4.out 12 rfl
       have d12 := box_cell Y4.out 12 rfl
       cases b4 with
       | false =>
        have HD := hid (show false = samePB p q from by have := HR.out; simpa using this); go_wp2
        go_ret
        exact ⟨Book.ret_b HD.out, B4.out⟩
       | true =>
        cases b5 with
        | false =>
         have HD := hid (show false = samePB p q from by have := HR.out; simpa using this); go_wp2
         go_ret
         exact ⟨Book.ret_b HD.out, B4.out⟩
        | true =>
         have HD := hid (show b6 = samePB p q from by have := HR.out; simpa using this); go_wp2
         go_ret
         exact ⟨Book.ret_b HD.out, B4.out⟩
theorem sameEvent_any (u v_ : Ev) (LA : Option Addr) (lc : Nat) (IA : Option Addr) (ic : Nat) (MA : Option Addr) (mc : Nat) (RA : Option Addr) (rc : Nat) (LAx : Option Addr) (lcx : Nat) (IAx : Option Addr) (icx : Nat) (MAx : Option Addr) (mcx : Nat) (RAx : Option Addr) (rcx : Nat) (w : World) (h : u.pod.In w LA lc IA ic MA mc RA) (hx : v_.pod.In w LAx lcx IAx icx MAx mcx RAx) :
 Calls Tryz.prog 80 #[.agg (V15 u LA lc IA ic MA mc RA rc).toArray, .agg (V15 v_ LAx lcx IAx icx MAx mcx RAx rcx).toArray] w fun e w' => e = .returned (.bool (sameEB u v_)) ∧ Below w.heap.size w w' := by
 obtain ⟨b0, e0⟩ : ∃ b : Bool, (u.kind == v_.kind) = b := ⟨_, rfl⟩
 obtain ⟨b1, e1⟩ : ∃ b : Bool, ((u.rev : Int) == (v_.rev : Int)) = b := ⟨_, rfl⟩
 obtain ⟨b2, e2⟩ : ∃ b : Bool, samePB u.pod v_.pod = b := ⟨_, rfl⟩
 have HR := hid (show (b0 && b1 && b2) = sameEB u v_ by rw [← e0, ← e1, ← e2]; (try simp only [nat_eq]); rfl)
 have E2 := hid e2
 clear e2
 have H := hid h
 have HX := hid hx
 clear h hx
 obtain ⟨w2, hw2⟩ : ∃ v, (w.alloc (.cells (V15 u LA lc IA ic MA mc RA rc).toArray 48)).alloc (.cells (V15 v_ LAx lcx IAx icx MAx mcx RAx rcx).toArray 48) = v := ⟨_, rfl⟩
 have hx : Below w.heap.size w w2 ∧ w2.heap[w.heap.size]? = some (.cells (V15 u LA lc IA ic MA mc RA rc).toArray 48) ∧ w2.heap[w.heap.size + 1]? = some (.cells (V15 v_ LAx lcx IAx icx MAx mcx RAx rcx).toArray 48) := by
  subst hw2
  have a1 := heap_alloc_new w (.cells (V15 u LA lc IA ic MA mc RA rc).toArray 48)
  have a2 := heap_alloc_new (w.alloc (.cells (V15 u LA lc IA ic MA mc RA rc).toArray 48)) (.cells (V15 v_ LAx lcx IAx icx MAx mcx RAx rcx).toArray 48)
  have s1 : (w.alloc (.cells (V15 u LA lc IA ic MA mc RA rc).toArray 48)).heap.size = w.heap.size + 1 := by simp
  have k2 := ((Below.refl (w.heap.size + 1) (w.alloc (.cells (V15 u LA lc IA ic MA mc RA rc).toArray 48))).alloc (by omega) (.cells (V15 v_ LAx lcx IAx icx MAx mcx RAx rcx).toArray 48)).block
  rw [s1] at a2
  exact ⟨((Below.refl _ _).alloc (Nat.le_refl _) _).alloc (by omega) _, (k2 _ (by omega)).trans a1, a2⟩
 have B2 := hid hx.1
 have X2 := hid hx.2.1
 have Y2 := hid hx.2.2
 clear hx
 have c0 := box_cell X2.out 0 rfl
 have d0 := box_cell Y2.out 0 rfl
 have c1 := box_cell X2.out 1 rfl
 have d1 := box_cell Y2.out 1 rfl
 have RGA := hid (range_at X2.out 2 (P13 u.pod LA lc IA ic MA mc RA rc) rfl)
 have RGB := hid (range_at Y2.out 2 (P13 v_.pod LAx lcx IAx icx MAx mcx RAx rcx) rfl)
 go_enter Tryz.func80, Tryz.ntmps80
 cases b0 with
 | false =>
  have HD := hid (show false = sameEB u v_ from by have := HR.out; simpa using this); go_wp2
  go_ret
  exact ⟨Book.ret_b HD.out, B2.out⟩
 | true =>
  cases b1 with
  | false =>
   have HD := hid (show false = sameEB u v_ from by have := HR.out; simpa using this); go_wp2
   go_ret
   exact ⟨Book.ret_b HD.out, B2.out⟩
  | true =>
   go_wp2_with (first | (refine wpList_load_mid rfl _ _ rfl _ _ rfl _ _ RGA.out Tryz.underlying42 rfl (by kernel_rfl) ?_) | (refine wpList_load_midG rfl _ _ rfl _ _ rfl _ _ RGA.out Tryz.underlying42 rfl (by kernel_rfl) ?_) | (refine wpList_load_mid rfl _ _ rfl _ _ rfl _ _ RGB.out Tryz.underlying42 rfl (by kernel_rfl) ?_) | (refine wpList_load_midG rfl _ _ rfl _ _ rfl _ _ RGB.out Tryz.underlying42 rfl (by kernel_rfl) ?_))
   refine (samePod_any u.pod v_.pod LA lc IA ic MA mc RA rc LAx lcx IAx icx MAx mcx RAx rcx w2 (H.out.below B2.out) (HX.out.below B2.out)).mono ?_
   rintro e w3 ⟨rfl, hb3⟩; have B3 := hid (B2.out.trans (hb3.mono B2.out.size)); have X3 := hid ((hb3.block w.heap.size (lt_of_block X2.out)).trans X2.out); have Y3 := hid ((hb3.block (w.heap.size + 1) (lt_of_block Y2.out)).trans Y2.out); clear hb3 X2 Y2 hw2 c0 d0 c1 d1 RGA RGB; rw [E2.out]; have HD := hid (show b2 = sameEB u v_ from by have := HR.out; simpa using this); go_wp2
   go_ret
   exact ⟨Book.ret_b HD.out, B3.out⟩
def FSP (x y : Pd) (LA : Option Addr) (lc : Nat) (IA : Option Addr) (ic : Nat) (MA : Option Addr) (mc : Nat) (RA : Option Addr) (rc : Nat) (LAx : Option Addr) (lcx : Nat) (IAx : Option Addr) (icx : Nat) (MAx : Option Addr) (mcx : Nat) (RAx : Option Addr) (rcx : Nat) (ad bd : Addr) (na ac nb bc k : Nat) (t : Bool) : Nat → Value → World → Prop
 | 0 => fun v _ => v = .slice (some ad) na ac
 | 1 => fun v _ => v = .int .i64 (k : Nat)
 | 2 => fun v _ => v = .pointer (some (ad.add (k * 13)))
 | 3 => fun v _ => v = .agg (P13 x LA lc IA ic MA mc RA rc).toArray
 | 4 => fun v _ => v = .slice (some bd) nb bc
 | 5 => fun v _ => v = .int .i64 (k : Nat)
 | 6 => fun v _ => v = .pointer (some (bd.add (k * 13)))
 | 7 => fun v _ => v = .agg (P13 y LAx lcx IAx icx MAx mcx RAx rcx).toArray
 | 8 => fun v _ => v = .bool t
 | _ => fun v _ => v = .bool t
theorem FSP_keep (x y : Pd) (LA : Option Addr) (lc : Nat) (IA : Option Addr) (ic : Nat) (MA : Option Addr) (mc : Nat) (RA : Option Addr) (rc : Nat) (LAx : Option Addr) (lcx : Nat) (IAx : Option Addr) (icx : Nat) (MAx : Option Addr) (mcx : Nat) (RAx : Option Addr) (rcx : Nat) (ad bd : Addr) (na ac nb bc k : Nat) (t : Bool) (i_ : Nat) (v_ : Value) (w_ w2_ : World) (h_ : FSP x y LA lc IA ic MA mc RA rc LAx lcx IAx icx MAx mcx RAx rcx ad bd na ac nb bc k t i_ v_ w_) (hb_ : Below w_.heap.size w_ w2_) : FSP x y LA lc IA ic MA mc RA rc LAx lcx IAx icx MAx mcx RAx rcx ad bd na ac nb bc k t i_ v_ w2_ := by
 unfold FSP at h_ ⊢
 split at h_ <;> exact h_
theorem samePods_any (A : Option Addr) (ac : Nat) (la : List Pd) (B : Option Addr) (bc : Nat) (lb : List Pd) (hl : la.length ≤ 9223372036854775807) (hm : lb.length ≤ 9223372036854775807) (w : World) (hA : Pds w A la) (hB : Pds w B lb) :
 Calls Tryz.prog 128 #[.slice A la.length ac, .slice B lb.length bc] w fun e w' => e = .returned (.bool (sameAll samePB la lb)) ∧ Below w.heap.size w w' := by
 have HA := hid hA
 have HB := hid hB
 have hl' : (la.length : Int) ≤ 9223372036854775807 := by omega
 have hm' : (lb.length : Int) ≤ 9223372036854775807 := by omega
 clear hA hB hl hm
 go_enter Tryz.func128, Tryz.ntmps128
 go_wp2_with fail
 go_loopw [5, 6] (fun sm i wr => ∃ (k : Nat) (s : Bool), k ≤ la.length ∧ sm = .bool s ∧ i = .int .i64 k ∧ Hid (Below w.heap.size w wr) ∧ Hid (Far la lb k s)) (fun _ i _ => la.length - (RowKit.intOf i).toNat)
 case atStart => exact ⟨0, _, Nat.zero_le _, rfl, rfl, Below.refl _ _, far_start la lb⟩
 case round =>
  obtain ⟨k, s, hk, rfl, rfl, HW, HF⟩ := hrel
  cases s with
  | false =>
   have HD := hid (show false = sameAll samePB la lb from Book.same_bool ((HF.out.done (fun h => by cases h)).trans (sameAll_iff samePB_iff la lb).symm)); go_wp2
   go_ret
   exact ⟨Book.ret_b HD.out, HW.out⟩
  | true =>
   have hlen := (HF.out.1 rfl).1
   by_cases hlt : k < la.length
   · have hlb : k < lb.length := by omega
     obtain ⟨ad, LA, lc, IA, ic, MA, mc, RA, rc, rfl, hp, hc⟩ := (HA.out.below HW.out).at hlt
     obtain ⟨bd, LAx, lcx, IAx, icx, MAx, mcx, RAx, rcx, rfl, hq, hd⟩ := (HB.out.below HW.out).at hlb
     obtain ⟨t, ht⟩ : ∃ t : Bool, samePB la[k] lb[k] = t := ⟨_, rfl⟩; have HN := hid (show Far la lb (k + 1) t from HF.out.next hlt hlb (by rw [← ht]; exact samePB_iff _ _)); obtain ⟨x, hx⟩ : ∃ x, la[k] = x := ⟨_, rfl⟩; obtain ⟨y, hy⟩ : ∃ y, lb[k] = y := ⟨_, rfl⟩
     rw [hx] at hc ht
     rw [hy] at hd ht
     have HC := hid hc
     have HDD := hid hd
     have HT := hid ht
     have HadB := hid hp
     have HbdB := hid hq
     have hka : (k : Int) < (la.length : Int) := by omega
     have hkb : (k : Int) < (lb.length : Int) := by omega
     skip
     clear hx hy hp hq hlen hc hd ht
     as_aux_lemma =>
      go_wp2_with fail
      refine Loose.wp_region_walk (by kernel_rfl) (by kernel_rfl) (FSP x y LA lc IA ic MA mc RA rc LAx lcx IAx icx MAx mcx RAx rcx ad bd la.length ac lb.length bc k t) (FSP_keep x y LA lc IA ic MA mc RA rc LAx lcx IAx icx MAx mcx RAx rcx ad bd la.length ac lb.length bc k t) ?_ ?_
      · refine ⟨?_, ?_, ?_, ?_, ?_, ?_, ?_, ?_, ?_, ?_, trivial⟩
        · intro a w1 hfr hdep
          have f0 : a.tmps.getD 0 undef = .slice (some ad) la.length ac := hfr.slot 0 (by kernel_rfl)
          refine Loose.Step.value rfl (v := .slice (some ad) la.length ac) (w' := w1) ?_ rfl (Below.refl _ _)
          simp [go_sem, Act.eval, f0]
        · intro a w1 hfr hdep
          have f0 : a.tmps.getD 6 undef = .int .i64 (k : Nat) := hfr.slot 6 (by kernel_rfl)
          refine Loose.Step.value rfl (v := .int .i64 (k : Nat)) (w' := w1) ?_ rfl (Below.refl _ _)
          simp [go_sem, Act.eval, f0]
        · intro a w1 hfr hdep
          have e0 : a.tmps.getD 27 undef = .slice (some ad) la.length ac := Loose.dep_of hdep 0 27 (by kernel_rfl)
          have e1 : a.tmps.getD 28 undef = .int .i64 (k : Nat) := Loose.dep_of hdep 1 28 (by kernel_rfl)
          refine Loose.Step.value rfl (v := .pointer (some (ad.add (k * 13)))) (w' := w1) ?_ rfl (Below.refl _ _)
          simp [go_sem, Act.eval, e0, e1, hka, hlt]
        · intro a w1 hfr hdep
          have hl_ := run_load_addr w1 (ad.add (k * 13)) 42 (P13 x LA lc IA ic MA mc RA rc) _ (CellsAt.all (HC.out.1.keep (by rw [Lists.add_block]; exact hfr.below.block _ HadB.out))) Tryz.underlying42 rfl (by kernel_rfl)
          have e0 : a.tmps.getD 29 undef = .pointer (some (ad.add (k * 13))) := Loose.dep_of hdep 2 29 (by kernel_rfl)
          refine Loose.Step.value rfl (v := .agg (P13 x LA lc IA ic MA mc RA rc).toArray) (w' := w1) ?_ rfl (Below.refl _ _)
          unfold execOp; simp only [Act.eval, e0, Instr.loadAt, Instr.sureAddr, Sem.run_bind, Sem.run_pure, Result.andThen_ok, hl_]
        · intro a w1 hfr hdep
          have f0 : a.tmps.getD 1 undef = .slice (some bd) lb.length bc := hfr.slot 1 (by kernel_rfl)
          refine Loose.Step.value rfl (v := .slice (some bd) lb.length bc) (w' := w1) ?_ rfl (Below.refl _ _)
          simp [go_sem, Act.eval, f0]
        · intro a w1 hfr hdep
          have f0 : a.tmps.getD 6 undef = .int .i64 (k : Nat) := hfr.slot 6 (by kernel_rfl)
          refine Loose.Step.value rfl (v := .int .i64 (k : Nat)) (w' := w1) ?_ rfl (Below.refl _ _)
          simp [go_sem, Act.eval, f0]
        · intro a w1 hfr hdep
          have e0 : a.tmps.getD 31 undef = .slice (some bd) lb.length bc := Loose.dep_of hdep 4 31 (by kernel_rfl)
          have e1 : a.tmps.getD 32 undef = .int .i64 (k : Nat) := Loose.dep_of hdep 5 32 (by kernel_rfl)
          refine Loose.Step.value rfl (v := .pointer (some (bd.add (k * 13)))) (w' := w1) ?_ rfl (Below.refl _ _)
          simp [go_sem, Act.eval, e0, e1, hkb, hlb]
        · intro a w1 hfr hdep
          have hl_ := run_load_addr w1 (bd.add (k * 13)) 42 (P13 y LAx lcx IAx icx MAx mcx RAx rcx) _ (CellsAt.all (HDD.out.1.keep (by rw [Lists.add_block]; exact hfr.below.block _ HbdB.out))) Tryz.underlying42 rfl (by kernel_rfl)
          have e0 : a.tmps.getD 33 undef = .pointer (some (bd.add (k * 13))) := Loose.dep_of hdep 6 33 (by kernel_rfl)
          refine Loose.Step.value rfl (v := .agg (P13 y LAx lcx IAx icx MAx mcx RAx rcx).toArray) (w' := w1) ?_ rfl (Below.refl _ _)
          unfold execOp; simp only [Act.eval, e0, Instr.loadAt, Instr.sureAddr, Sem.run_bind, Sem.run_pure, Result.andThen_ok, hl_]
        · intro a w1 hfr hdep
          have e0 : a.tmps.getD 30 undef = .agg (P13 x LA lc IA ic MA mc RA rc).toArray := Loose.dep_of hdep 3 30 (by kernel_rfl)
          have e1 : a.tmps.getD 34 undef = .agg (P13 y LAx lcx IAx icx MAx mcx RAx rcx).toArray := Loose.dep_of hdep 7 34 (by kernel_rfl)
          refine Loose.Step.call rfl (f := 19) (args := #[.agg (P13 x LA lc IA ic MA mc RA rc).toArray, .agg (P13 y LAx lcx IAx icx MAx mcx RAx rcx).toArray]) ?_ ?_
          · simp [go_sem, Act.eval, e0, e1]
          · refine (samePod_any x y LA lc IA ic MA mc RA rc LAx lcx IAx icx MAx mcx RAx rcx w1 (HC.out.2.below hfr.below) (HDD.out.2.below hfr.below)).mono ?_
            rintro e w2 ⟨rfl, hb⟩; rw [HT.out]
            exact ⟨_, rfl, rfl, hb⟩
        · intro a w1 hfr hdep
          have e0 : a.tmps.getD 35 undef = .bool t := Loose.dep_of hdep 8 35 (by kernel_rfl)
          refine Loose.Step.value rfl (v := .bool t) (w' := w1) ?_ rfl (Below.refl _ _)
          simp [go_sem, Act.eval, e0]
      · intro v0 v1 v2 v3 v4 v5 v6 v7 v8 v9 w5 hb5 hC
        have h1 : v9 = .bool t := hC.2
        subst h1; have HW5 := hid (HW.out.trans (hb5.mono HW.out.size)); clear hb5 hC; simp only [SpecOwn.put_lit, List.set_cons_succ, List.set_cons_zero]; go_wp2
        go_roundw
        case rel => exact ⟨k + 1, t, by omega, rfl, by go_num, HW5.out, HN.out⟩
        case measure => simp [RowKit.intOf]; omega
   · have hka : ¬ (k : Int) < (la.length : Int) := by omega
     have HD := hid (show true = sameAll samePB la lb from Book.same_bool ((HF.out.done (fun _ => by omega)).trans (sameAll_iff samePB_iff la lb).symm)); clear hlen; go_wp2
     go_ret
     exact ⟨Book.ret_b HD.out, HW.out⟩
def FSR (x y : (Int × Int × Int))  (ad bd : Addr) (na ac nb bc k : Nat) (t : Bool) : Nat → Value → World → Prop
 | 0 => fun v _ => v = .slice (some ad) na ac
 | 1 => fun v _ => v = .int .i64 (k : Nat)
 | 2 => fun v _ => v = .pointer (some (ad.add (k * 3)))
 | 3 => fun v _ => v = .agg #[.int .i64 x.1, .int .i64 x.2.1, .int .i64 x.2.2]
 | 4 => fun v _ => v = .slice (some bd) nb bc
 | 5 => fun v _ => v = .int .i64 (k : Nat)
 | 6 => fun v _ => v = .pointer (some (bd.add (k * 3)))
 | 7 => fun v _ => v = .agg #[.int .i64 y.1, .int .i64 y.2.1, .int .i64 y.2.2]
 | 8 => fun v _ => v = .bool t
 | _ => fun v _ => v = .bool t
theorem FSR_keep (x y : (Int × Int × Int))  (ad bd : Addr) (na ac nb bc k : Nat) (t : Bool) (i_ : Nat) (v_ : Value) (w_ w2_ : World) (h_ : FSR x y  ad bd na ac nb bc k t i_ v_ w_) (hb_ : Below w_.heap.size w_ w2_) : FSR x y  ad bd na ac nb bc k t i_ v_ w2_ := by
 unfold FSR at h_ ⊢
 split at h_ <;> exact h_
theorem sameRes_any (A : Option Addr) (ac : Nat) (la : List (Int × Int × Int)) (B : Option Addr) (bc : Nat) (lb : List (Int × Int × Int)) (hl : la.length ≤ 9223372036854775807) (hm : lb.length ≤ 9223372036854775807) (w : World) (hA : Uses w A la) (hB : Uses w B lb) :
 Calls Tryz.prog 129 #[.slice A la.length ac, .slice B lb.length bc] w fun e w' => e = .returned (.bool (sameAll sameUB la lb)) ∧ Below w.heap.size w w' := by
 have HA := hid hA
 have HB := hid hB
 have hl' : (la.length : Int) ≤ 9223372036854775807 := by omega
 have hm' : (lb.length : Int) ≤ 9223372036854775807 := by omega
 clear hA hB hl hm
 go_enter Tryz.func129, Tryz.ntmps129
 go_wp2_with fail
 go_loopw [5, 6] (fun sm i wr => ∃ (k : Nat) (s : Bool), k ≤ la.length ∧ sm = .bool s ∧ i = .int .i64 k ∧ Hid (Below w.heap.size w wr) ∧ Hid (Far la lb k s)) (fun _ i _ => la.length - (RowKit.intOf i).toNat)
 case atStart => exact ⟨0, _, Nat.zero_le _, rfl, rfl, Below.refl _ _, far_start la lb⟩
 case round =>
  obtain ⟨k, s, hk, rfl, rfl, HW, HF⟩ := hrel
  cases s with
  | false =>
   have HD := hid (show false = sameAll sameUB la lb from Book.same_bool ((HF.out.done (fun h => by cases h)).trans (sameAll_iff sameUB_iff la lb).symm)); go_wp2
   go_ret
   exact ⟨Book.ret_b HD.out, HW.out⟩
  | true =>
   have hlen := (HF.out.1 rfl).1
   by_cases hlt : k < la.length
   · have hlb : k < lb.length := by omega
     obtain ⟨ad, rfl, hp, hc⟩ := (HA.out.below HW.out).at hlt
     obtain ⟨bd, rfl, hq, hd⟩ := (HB.out.below HW.out).at hlb
     obtain ⟨t, ht⟩ : ∃ t : Bool, sameUB la[k] lb[k] = t := ⟨_, rfl⟩; have HN := hid (show Far la lb (k + 1) t from HF.out.next hlt hlb (by rw [← ht]; exact sameUB_iff _ _)); obtain ⟨x, hx⟩ : ∃ x, la[k] = x := ⟨_, rfl⟩; obtain ⟨y, hy⟩ : ∃ y, lb[k] = y := ⟨_, rfl⟩
     rw [hx] at hc ht
     rw [hy] at hd ht
     have HC := hid hc
     have HDD := hid hd
     have HT := hid ht
     have HadB := hid hp
     have HbdB := hid hq
     have hka : (k : Int) < (la.length : Int) := by omega
     have hkb : (k : Int) < (lb.length : Int) := by omega
     have hgr : Tryz.prog.eqGuardType Tryz.prog.depth 70 = false := by kernel_rfl
     have qr := fun v_ => eql_res x.1 x.2.1 x.2.2 y.1 y.2.1 y.2.2 v_
     rw [show resB x.1 x.2.1 x.2.2 y.1 y.2.1 y.2.2 = t from HT.out] at qr
     clear hx hy hp hq hlen hc hd ht
     as_aux_lemma =>
      go_wp2_with fail
      refine Loose.wp_region_walk (by kernel_rfl) (by kernel_rfl) (FSR x y  ad bd la.length ac lb.length bc k t) (FSR_keep x y  ad bd la.length ac lb.length bc k t) ?_ ?_
      · refine ⟨?_, ?_, ?_, ?_, ?_, ?_, ?_, ?_, ?_, ?_, trivial⟩
        · intro a w1 hfr hdep
          have f0 : a.tmps.getD 0 undef = .slice (some ad) la.length ac := hfr.slot 0 (by kernel_rfl)
          refine Loose.Step.value rfl (v := .slice (some ad) la.length ac) (w' := w1) ?_ rfl (Below.refl _ _)
          simp [go_sem, Act.eval, f0]
        · intro a w1 hfr hdep
          have f0 : a.tmps.getD 6 undef = .int .i64 (k : Nat) := hfr.slot 6 (by kernel_rfl)
          refine Loose.Step.value rfl (v := .int .i64 (k : Nat)) (w' := w1) ?_ rfl (Below.refl _ _)
          simp [go_sem, Act.eval, f0]
        · intro a w1 hfr hdep
          have e0 : a.tmps.getD 27 undef = .slice (some ad) la.length ac := Loose.dep_of hdep 0 27 (by kernel_rfl)
          have e1 : a.tmps.getD 28 undef = .int .i64 (k : Nat) := Loose.dep_of hdep 1 28 (by kernel_rfl)
          refine Loose.Step.value rfl (v := .pointer (some (ad.add (k * 3)))) (w' := w1) ?_ rfl (Below.refl _ _)
          simp [go_sem, Act.eval, e0, e1, hka, hlt]
        · intro a w1 hfr hdep
          have hl_ := run_load_addr w1 (ad.add (k * 3)) 70 [.int .i64 x.1, .int .i64 x.2.1, .int .i64 x.2.2] _ (CellsAt.all (HC.out.keep (by rw [Lists.add_block]; exact hfr.below.block _ HadB.out))) Tryz.underlying70 rfl (by kernel_rfl)
          have e0 : a.tmps.getD 29 undef = .pointer (some (ad.add (k * 3))) := Loose.dep_of hdep 2 29 (by kernel_rfl)
          refine Loose.Step.value rfl (v := .agg #[.int .i64 x.1, .int .i64 x.2.1, .int .i64 x.2.2]) (w' := w1) ?_ rfl (Below.refl _ _)
          unfold execOp; simp only [Act.eval, e0, Instr.loadAt, Instr.sureAddr, Sem.run_bind, Sem.run_pure, Result.andThen_ok, hl_]
        · intro a w1 hfr hdep
          have f0 : a.tmps.getD 1 undef = .slice (some bd) lb.length bc := hfr.slot 1 (by kernel_rfl)
          refine Loose.Step.value rfl (v := .slice (some bd) lb.length bc) (w' := w1) ?_ rfl (Below.refl _ _)
          simp [go_sem, Act.eval, f0]
        · intro a w1 hfr hdep
          have f0 : a.tmps.getD 6 undef = .int .i64 (k : Nat) := hfr.slot 6 (by kernel_rfl)
          refine Loose.Step.value rfl (v := .int .i64 (k : Nat)) (w' := w1) ?_ rfl (Below.refl _ _)
          simp [go_sem, Act.eval, f0]
        · intro a w1 hfr hdep
          have e0 : a.tmps.getD 31 undef = .slice (some bd) lb.length bc := Loose.dep_of hdep 4 31 (by kernel_rfl)
          have e1 : a.tmps.getD 32 undef = .int .i64 (k : Nat) := Loose.dep_of hdep 5 32 (by kernel_rfl)
          refine Loose.Step.value rfl (v := .pointer (some (bd.add (k * 3)))) (w' := w1) ?_ rfl (Below.refl _ _)
          simp [go_sem, Act.eval, e0, e1, hkb, hlb]
        · intro a w1 hfr hdep
          have hl_ := run_load_addr w1 (bd.add (k * 3)) 70 [.int .i64 y.1, .int .i64 y.2.1, .int .i64 y.2.2] _ (CellsAt.all (HDD.out.keep (by rw [Lists.add_block]; exact hfr.below.block _ HbdB.out))) Tryz.underlying70 rfl (by kernel_rfl)
          have e0 : a.tmps.getD 33 undef = .pointer (some (bd.add (k * 3))) := Loose.dep_of hdep 6 33 (by kernel_rfl)
          refine Loose.Step.value rfl (v := .agg #[.int .i64 y.1, .int .i64 y.2.1, .int .i64 y.2.2]) (w' := w1) ?_ rfl (Below.refl _ _)
          unfold execOp; simp only [Act.eval, e0, Instr.loadAt, Instr.sureAddr, Sem.run_bind, Sem.run_pure, Result.andThen_ok, hl_]
        · intro a w1 hfr hdep
          have e0 : a.tmps.getD 30 undef = .agg #[.int .i64 x.1, .int .i64 x.2.1, .int .i64 x.2.2] := Loose.dep_of hdep 3 30 (by kernel_rfl)
          have e1 : a.tmps.getD 34 undef = .agg #[.int .i64 y.1, .int .i64 y.2.1, .int .i64 y.2.2] := Loose.dep_of hdep 7 34 (by kernel_rfl)
          refine Loose.Step.value rfl (v := .bool t) (w' := w1) ?_ rfl (Below.refl _ _)
          simp [go_sem, Act.eval, e0, e1, hgr, qr]
        · intro a w1 hfr hdep
          have e0 : a.tmps.getD 35 undef = .bool t := Loose.dep_of hdep 8 35 (by kernel_rfl)
          refine Loose.Step.value rfl (v := .bool t) (w' := w1) ?_ rfl (Below.refl _ _)
          simp [go_sem, Act.eval, e0]
      · intro v0 v1 v2 v3 v4 v5 v6 v7 v8 v9 w5 hb5 hC
        have h1 : v9 = .bool t := hC.2
        subst h1; have HW5 := hid (HW.out.trans (hb5.mono HW.out.size)); clear hb5 hC; simp only [SpecOwn.put_lit, List.set_cons_succ, List.set_cons_zero]; go_wp2
        go_roundw
        case rel => exact ⟨k + 1, t, by omega, rfl, by go_num, HW5.out, HN.out⟩
        case measure => simp [RowKit.intOf]; omega
   · have hka : ¬ (k : Int) < (la.length : Int) := by omega
     have HD := hid (show true = sameAll sameUB la lb from Book.same_bool ((HF.out.done (fun _ => by omega)).trans (sameAll_iff sameUB_iff la lb).symm)); clear hlen; go_wp2
     go_ret
     exact ⟨Book.ret_b HD.out, HW.out⟩
theorem sameReply_any (y z : Rp) (PA : Option Addr) (pc : Nat) (UA : Option Addr) (uc : Nat) (PAx : Option Addr) (pcx : Nat) (UAx : Option Addr) (ucx : Nat) (w : World) (h : y.In w PA UA) (hx : z.In w PAx UAx) :
 Calls Tryz.prog 79 #[.agg (Y7 y PA pc UA uc).toArray, .agg (Y7 z PAx pcx UAx ucx).toArray] w fun e w' => e = .returned (.bool (sameRB y z)) ∧ Below w.heap.size w w' := by
 obtain ⟨b0, e0⟩ : ∃ b : Bool, (y.code == z.code) = b := ⟨_, rfl⟩
 obtain ⟨b1, e1⟩ : ∃ b : Bool, (y.uid == z.uid) = b := ⟨_, rfl⟩
 obtain ⟨b2, e2⟩ : ∃ b : Bool, (y.id == z.id) = b := ⟨_, rfl⟩
 obtain ⟨b3, e3⟩ : ∃ b : Bool, ((y.rev : Int) == (z.rev : Int)) = b := ⟨_, rfl⟩
 obtain ⟨b4, e4⟩ : ∃ b : Bool, (y.data.toList == z.data.toList) = b := ⟨_, rfl⟩
 obtain ⟨b5, e5⟩ : ∃ b : Bool, sameAll samePB y.pods z.pods = b := ⟨_, rfl⟩
 obtain ⟨b6, e6⟩ : ∃ b : Bool, sameAll sameUB y.use z.use = b := ⟨_, rfl⟩
 have HR := hid (show (b0 && b1 && b2 && b3 && b4 && b5 && b6) = sameRB y z by rw [← e0, ← e1, ← e2, ← e3, ← e4, ← e5, ← e6]; (try simp only [nat_eq]); rfl)
 have E5 := hid e5
 clear e5
 have E6 := hid e6
 clear e6
 have H := hid h
 have HX := hid hx
 clear h hx
 obtain ⟨w2, hw2⟩ : ∃ v, (w.alloc (.cells (Y7 y PA pc UA uc).toArray 46)).alloc (.cells (Y7 z PAx pcx UAx ucx).toArray 46) = v := ⟨_, rfl⟩
 have hx : Below w.heap.size w w2 ∧ w2.heap[w.heap.size]? = some (.cells (Y7 y PA pc UA uc).toArray 46) ∧ w2.heap[w.heap.size + 1]? = some (.cells (Y7 z PAx pcx UAx ucx).toArray 46) := by
  subst hw2
  have a1 := heap_alloc_new w (.cells (Y7 y PA pc UA uc).toArray 46)
  have a2 := heap_alloc_new (w.alloc (.cells (Y7 y PA pc UA uc).toArray 46)) (.cells (Y7 z PAx pcx UAx ucx).toArray 46)
  have s1 : (w.alloc (.cells (Y7 y PA pc UA uc).toArray 46)).heap.size = w.heap.size + 1 := by simp
  have k2 := ((Below.refl (w.heap.size + 1) (w.alloc (.cells (Y7 y PA pc UA uc).toArray 46))).alloc (by omega) (.cells (Y7 z PAx pcx UAx ucx).toArray 46)).block
  rw [s1] at a2
  exact ⟨((Below.refl _ _).alloc (Nat.le_refl _) _).alloc (by omega) _, (k2 _ (by omega)).trans a1, a2⟩
 have B2 := hid hx.1
 have X2 := hid hx.2.1
 have Y2 := hid hx.2.2
 clear hx
 have c0 := box_cell X2.out 0 rfl
 have d0 := box_cell Y2.out 0 rfl
 have c1 := box_cell X2.out 1 rfl
 have d1 := box_cell Y2.out 1 rfl
 have c2 := box_cell X2.out 2 rfl
 have d2 := box_cell Y2.out 2 rfl
 have c3 := box_cell X2.out 3 rfl
 have d3 := box_cell Y2.out 3 rfl
 have c4 := box_cell X2.out 4 rfl
 have d4 := box_cell Y2.out 4 rfl
 have c5 := box_cell X2.out 5 rfl
 have d5 := box_cell Y2.out 5 rfl
 go_enter Tryz.func79, Tryz.ntmps79
 cases b0 with
 | false =>
  have HD := hid (show false = sameRB y z from by have := HR.out; simpa using this); go_wp2
  go_ret
  exact ⟨Book.ret_b HD.out, B2.out⟩
 | true =>
  cases b1 with
  | false =>
   have HD := hid (show false = sameRB y z from by have := HR.out; simpa using this); go_wp2
   go_ret
   exact ⟨Book.ret_b HD.out, B2.out⟩
  | true =>
   cases b2 with
   | false =>
    have HD := hid (show false = sameRB y z from by have := HR.out; simpa using this); go_wp2
    go_ret
    exact ⟨Book.ret_b HD.out, B2.out⟩
   | true =>
    cases b3 with
    | false =>
     have HD := hid (show false = sameRB y z from by have := HR.out; simpa using this); go_wp2
     go_ret
     exact ⟨Book.ret_b HD.out, B2.out⟩
    | true =>
     cases b4 with
     | false =>
      have HD := hid (show false = sameRB y z from by have := HR.out; simpa using this); go_wp2
      go_ret
      exact ⟨Book.ret_b HD.out, B2.out⟩
     | true =>
      go_wp2_with fail
      refine (samePods_any PA pc y.pods PAx pcx z.pods H.out.np HX.out.np w2 (H.out.pods.below B2.out) (HX.out.pods.below B2.out)).mono ?_
      rintro e w3 ⟨rfl, hb3⟩; have B3 := hid (B2.out.trans (hb3.mono B2.out.size)); have X3 := hid ((hb3.block w.heap.size (lt_of_block X2.out)).trans X2.out); have Y3 := hid ((hb3.block (w.heap.size + 1) (lt_of_block Y2.out)).trans Y2.out); clear hb3 X2 Y2 hw2 c0 d0 c1 d1 c2 d2 c3 d3 c4 d4 c5 d5; rw [E5.out]
      as_aux_lemma =>
       have c6 := box_cell X3.out 6 rfl
       have d6 := box_cell Y3.out 6 rfl
       cases b5 with
       | false =>
        have HD := hid (show false = sameRB y z from by have := HR.out; simpa using this); go_wp2
        go_ret
        exact ⟨Book.ret_b HD.out, B3.out⟩
       | true =>
        go_wp2_with fail
        refine (sameRes_any UA uc y.use UAx ucx z.use H.out.nu HX.out.nu w3 (H.out.use.below B3.out) (HX.out.use.below B3.out)).mono ?_
        rintro e w4 ⟨rfl, hb4⟩; have B4 := hid (B3.out.trans (hb4.mono B3.out.size)); have X4 := hid ((hb4.block w.heap.size (lt_of_block X3.out)).trans X3.out); have Y4 := hid ((hb4.block (w.heap.size + 1) (lt_of_block Y3.out)).trans Y3.out); clear hb4 X3 Y3 c6 d6; rw [E6.out]; have HD := hid (show b6 = sameRB y z from by have := HR.out; simpa using this); go_wp2
        go_ret
        exact ⟨Book.ret_b HD.out, B4.out⟩
theorem sameMsg_any (m n : Mg) (PA : Option Addr) (pc : Nat) (UA : Option Addr) (uc : Nat) (LA : Option Addr) (lc : Nat) (IA : Option Addr) (ic : Nat) (MA : Option Addr) (mc : Nat) (RA : Option Addr) (rc : Nat) (PAx : Option Addr) (pcx : Nat) (UAx : Option Addr) (ucx : Nat) (LAx : Option Addr) (lcx : Nat) (IAx : Option Addr) (icx : Nat) (MAx : Option Addr) (mcx : Nat) (RAx : Option Addr) (rcx : Nat) (w : World) (h : m.In w PA UA LA lc IA ic MA mc RA) (hx : n.In w PAx UAx LAx lcx IAx icx MAx mcx RAx) :
 Calls Tryz.prog 32 #[.agg (M24 m PA pc UA uc LA lc IA ic MA mc RA rc).toArray, .agg (M24 n PAx pcx UAx ucx LAx lcx IAx icx MAx mcx RAx rcx).toArray] w fun e w' => e = .returned (.bool (sameMB m n)) ∧ Below w.heap.size w w' := by
 obtain ⟨b0, e0⟩ : ∃ b : Bool, (m.kind == n.kind) = b := ⟨_, rfl⟩
 obtain ⟨b1, e1⟩ : ∃ b : Bool, (m.num == n.num) = b := ⟨_, rfl⟩
 obtain ⟨b2, e2⟩ : ∃ b : Bool, sameRB m.reply n.reply = b := ⟨_, rfl⟩
 obtain ⟨b3, e3⟩ : ∃ b : Bool, sameEB m.event n.event = b := ⟨_, rfl⟩
 have HR := hid (show (b0 && b1 && b2 && b3) = sameMB m n by rw [← e0, ← e1, ← e2, ← e3]; (try simp only [nat_eq]); rfl)
 have E2 := hid e2
 clear e2
 have E3 := hid e3
 clear e3
 have H := hid h
 have HX := hid hx
 clear h hx
 obtain ⟨w2, hw2⟩ : ∃ v, (w.alloc (.cells (M24 m PA pc UA uc LA lc IA ic MA mc RA rc).toArray 50)).alloc (.cells (M24 n PAx pcx UAx ucx LAx lcx IAx icx MAx mcx RAx rcx).toArray 50) = v := ⟨_, rfl⟩
 have hx : Below w.heap.size w w2 ∧ w2.heap[w.heap.size]? = some (.cells (M24 m PA pc UA uc LA lc IA ic MA mc RA rc).toArray 50) ∧ w2.heap[w.heap.size + 1]? = some (.cells (M24 n PAx pcx UAx ucx LAx lcx IAx icx MAx mcx RAx rcx).toArray 50) := by
  subst hw2
  have a1 := heap_alloc_new w (.cells (M24 m PA pc UA uc LA lc IA ic MA mc RA rc).toArray 50)
  have a2 := heap_alloc_new (w.alloc (.cells (M24 m PA pc UA uc LA lc IA ic MA mc RA rc).toArray 50)) (.cells (M24 n PAx pcx UAx ucx LAx lcx IAx icx MAx mcx RAx rcx).toArray 50)
  have s1 : (w.alloc (.cells (M24 m PA pc UA uc LA lc IA ic MA mc RA rc).toArray 50)).heap.size = w.heap.size + 1 := by simp
  have k2 := ((Below.refl (w.heap.size + 1) (w.alloc (.cells (M24 m PA pc UA uc LA lc IA ic MA mc RA rc).toArray 50))).alloc (by omega) (.cells (M24 n PAx pcx UAx ucx LAx lcx IAx icx MAx mcx RAx rcx).toArray 50)).block
  rw [s1] at a2
  exact ⟨((Below.refl _ _).alloc (Nat.le_refl _) _).alloc (by omega) _, (k2 _ (by omega)).trans a1, a2⟩
 have B2 := hid hx.1
 have X2 := hid hx.2.1
 have Y2 := hid hx.2.2
 clear hx
 have c0 := box_cell X2.out 0 rfl
 have d0 := box_cell Y2.out 0 rfl
 have c1 := box_cell X2.out 1 rfl
 have d1 := box_cell Y2.out 1 rfl
 have RGA := hid (range_at X2.out 2 (Y7 m.reply PA pc UA uc) rfl)
 have RGB := hid (range_at Y2.out 2 (Y7 n.reply PAx pcx UAx ucx) rfl)
 go_enter Tryz.func32, Tryz.ntmps32
 cases b0 with
 | false =>
  have HD := hid (show false = sameMB m n from by have := HR.out; simpa using this); go_wp2
  go_ret
  exact ⟨Book.ret_b HD.out, B2.out⟩
 | true =>
  cases b1 with
  | false =>
   have HD := hid (show false = sameMB m n from by have := HR.out; simpa using this); go_wp2
   go_ret
   exact ⟨Book.ret_b HD.out, B2.out⟩
  | true =>
   go_wp2_with (first | (refine wpList_load_mid rfl _ _ rfl _ _ rfl _ _ RGA.out Tryz.underlying46 rfl (by kernel_rfl) ?_) | (refine wpList_load_midG rfl _ _ rfl _ _ rfl _ _ RGA.out Tryz.underlying46 rfl (by kernel_rfl) ?_) | (refine wpList_load_mid rfl _ _ rfl _ _ rfl _ _ RGB.out Tryz.underlying46 rfl (by kernel_rfl) ?_) | (refine wpList_load_midG rfl _ _ rfl _ _ rfl _ _ RGB.out Tryz.underlying46 rfl (by kernel_rfl) ?_))
   refine (sameReply_any m.reply n.reply PA pc UA uc PAx pcx UAx ucx w2 (H.out.reply.below B2.out) (HX.out.reply.below B2.out)).mono ?_
   rintro e w3 ⟨rfl, hb3⟩; have B3 := hid (B2.out.trans (hb3.mono B2.out.size)); have X3 := hid ((hb3.block w.heap.size (lt_of_block X2.out)).trans X2.out); have Y3 := hid ((hb3.block (w.heap.size + 1) (lt_of_block Y2.out)).trans Y2.out); clear hb3 X2 Y2 hw2 c0 d0 c1 d1 RGA RGB; rw [E2.out]
   as_aux_lemma =>
    have RGA := hid (range_at X3.out 9 (V15 m.event LA lc IA ic MA mc RA rc) rfl); have RGB := hid (range_at Y3.out 9 (V15 n.event LAx lcx IAx icx MAx mcx RAx rcx) rfl)
    cases b2 with
    | false =>
     have HD := hid (show false = sameMB m n from by have := HR.out; simpa using this); go_wp2
     go_ret
     exact ⟨Book.ret_b HD.out, B3.out⟩
    | true =>
     go_wp2_with (first | (refine wpList_load_mid rfl _ _ rfl _ _ rfl _ _ RGA.out Tryz.underlying48 rfl (by kernel_rfl) ?_) | (refine wpList_load_midG rfl _ _ rfl _ _ rfl _ _ RGA.out Tryz.underlying48 rfl (by kernel_rfl) ?_) | (refine wpList_load_mid rfl _ _ rfl _ _ rfl _ _ RGB.out Tryz.underlying48 rfl (by kernel_rfl) ?_) | (refine wpList_load_midG rfl _ _ rfl _ _ rfl _ _ RGB.out Tryz.underlying48 rfl (by kernel_rfl) ?_))
     refine (sameEvent_any m.event n.event LA lc IA ic MA mc RA rc LAx lcx IAx icx MAx mcx RAx rcx w3 (H.out.pod.below B3.out) (HX.out.pod.below B3.out)).mono ?_
     rintro e w4 ⟨rfl, hb4⟩; have B4 := hid (B3.out.trans (hb4.mono B3.out.size)); have X4 := hid ((hb4.block w.heap.size (lt_of_block X3.out)).trans X3.out); have Y4 := hid ((hb4.block (w.heap.size + 1) (lt_of_block Y3.out)).trans Y3.out); clear hb4 X3 Y3 RGA RGB; rw [E3.out]; have HD := hid (show b3 = sameMB m n from by have := HR.out; simpa using this); go_wp2
     go_ret
     exact ⟨Book.ret_b HD.out, B4.out⟩
theorem refwithin_any (n a b : Int) (w : World) : Calls Tryz.prog 56 #[.int .i64 n, .int .i64 a, .int .i64 b] w fun e w' => e = .returned (.bool (inB n a b)) ∧ w = w' := by
 by_cases h1 : a ≤ n
 · by_cases h2 : n ≤ b
   · have hb : inB n a b = true := inB_iff.2 ⟨h1, h2⟩
     have HB := hid hb
     clear hb
     go_enter Tryz.func56, Tryz.ntmps56
     go_wp2_with fail
     go_ret
     exact ⟨Book.ret_b HB.out.symm, rfl⟩
   · have hb : inB n a b = false := by rw [Bool.eq_false_iff]; intro h; exact h2 (inB_iff.1 h).2
     have HB := hid hb
     clear hb
     go_enter Tryz.func56, Tryz.ntmps56
     go_wp2_with fail
     go_ret
     exact ⟨Book.ret_b HB.out.symm, rfl⟩
 · have hb : inB n a b = false := by rw [Bool.eq_false_iff]; intro h; exact h1 (inB_iff.1 h).1
   have HB := hid hb
   clear hb
   go_enter Tryz.func56, Tryz.ntmps56
   go_wp2_with fail
   go_ret
   exact ⟨Book.ret_b HB.out.symm, rfl⟩
theorem right_any (S : Spc) (LA : Option Addr) (lc : Nat) (IA : Option Addr) (ic : Nat) (MA : Option Addr) (mc : Nat) (hL : Book.Light S) (w : World) (h : S.In w LA lc IA ic MA mc) :
 Calls Tryz.prog 57 #[.agg #[.string S.name, .slice LA S.labels.length lc, .slice IA S.init.length ic, .slice MA S.main.length mc, .int .i64 S.restart, .int .i64 S.grace, .int .i64 S.prio]] w fun e w' => e = .returned (.bool (decide ((checkV S).1 = 0))) ∧ Below w.heap.size w w' := by
 have H := hid h
 have HL := hid hL
 clear h hL
 obtain ⟨y, hy⟩ : ∃ y, checkV S = y := ⟨_, rfl⟩
 have HRUN := hid (check_ref S LA lc IA ic MA mc HL.out)
 rw [hy] at HRUN
 have HY := hid hy
 have hd : decide (y.1 = 0) = (y.1 == 0) := by by_cases h0 : y.1 = 0 <;> simp [h0]
 rw [hy, hd]
 clear hy hd
 obtain ⟨w2, hw2⟩ : ∃ v, w.alloc (.cells #[.string S.name, .slice LA S.labels.length lc, .slice IA S.init.length ic, .slice MA S.main.length mc, .int .i64 S.restart, .int .i64 S.grace, .int .i64 S.prio] 28) = v := ⟨_, rfl⟩
 have X2 := hid (show w2.heap[w.heap.size]? = some (.cells #[.string S.name, .slice LA S.labels.length lc, .slice IA S.init.length ic, .slice MA S.main.length mc, .int .i64 S.restart, .int .i64 S.grace, .int .i64 S.prio] 28 (0, 0)) by rw [← hw2]; exact heap_alloc_new w _)
 have B2 := hid (show Below w.heap.size w w2 by rw [← hw2]; exact (Below.refl _ _).alloc (Nat.le_refl _) _)
 have cX0 := box_cell X2.out 0 rfl
 have cX1 := box_cell X2.out 1 rfl
 have cX2 := box_cell X2.out 2 rfl
 have cX3 := box_cell X2.out 3 rfl
 have cX4 := box_cell X2.out 4 rfl
 have cX5 := box_cell X2.out 5 rfl
 have cX6 := box_cell X2.out 6 rfl
 go_enter Tryz.func57, Tryz.ntmps57
 go_wp2_with fail
 refine (HRUN.out w2 (H.out.below B2.out)).mono ?_
 rintro e w3 ⟨rfl, hb3⟩
 have B3 := hid (B2.out.trans (hb3.mono B2.out.size))
 clear hb3 hw2
 go_wp2_with fail
 go_ret
 exact ⟨rfl, B3.out⟩
def bareS (S : Spc) : Bool := decide (S.name = ⟨#[]⟩) && decide (S.labels.length = 0) && decide (S.init.length = 0) && decide (S.main.length = 0) && S.restart == 0 && S.grace == 0 && S.prio == 0
theorem bareS_eq (S : Spc) : bareS S = sameS S zeroS := by
 rw [Bool.eq_iff_iff, sameS_iff]
 unfold bareS
 simp only [Bool.and_eq_true, decide_eq_true_eq, beq_iff_eq]
 constructor
 · rintro ⟨⟨⟨⟨⟨⟨h1, h2⟩, h3⟩, h4⟩, h5⟩, h6⟩, h7⟩
   obtain ⟨a, b, c, d, e, f, g⟩ := S
   obtain rfl := List.eq_nil_of_length_eq_zero h2
   obtain rfl := List.eq_nil_of_length_eq_zero h3
   obtain rfl := List.eq_nil_of_length_eq_zero h4
   subst h1 h5 h6 h7
   rfl
 · rintro rfl
   exact ⟨⟨⟨⟨⟨⟨rfl, rfl⟩, rfl⟩, rfl⟩, rfl⟩, rfl⟩, rfl⟩
theorem refbareSpec_any (S : Spc) (LA : Option Addr) (lc : Nat) (IA : Option Addr) (ic : Nat) (MA : Option Addr) (mc : Nat) (w : World) :
 Calls Tryz.prog 110 #[.agg #[.string S.name, .slice LA S.labels.length lc, .slice IA S.init.length ic, .slice MA S.main.length mc, .int .i64 S.restart, .int .i64 S.grace, .int .i64 S.prio]] w fun e w' => e = .returned (.bool (bareS S)) ∧ Below w.heap.size w w' := by
 obtain ⟨w2, hw2⟩ : ∃ v, w.alloc (.cells #[.string S.name, .slice LA S.labels.length lc, .slice IA S.init.length ic, .slice MA S.main.length mc, .int .i64 S.restart, .int .i64 S.grace, .int .i64 S.prio] 28) = v := ⟨_, rfl⟩
 have X2 := hid (show w2.heap[w.heap.size]? = some (.cells #[.string S.name, .slice LA S.labels.length lc, .slice IA S.init.length ic, .slice MA S.main.length mc, .int .i64 S.restart, .int .i64 S.grace, .int .i64 S.prio] 28 (0, 0)) by rw [← hw2]; exact heap_alloc_new w _)
 have B2 := hid (show Below w.heap.size w w2 by rw [← hw2]; exact (Below.refl _ _).alloc (Nat.le_refl _) _)
 go_enter Tryz.func110, Tryz.ntmps110
 obtain ⟨b0, e0⟩ : ∃ b : Bool, S.name.toList.isEmpty = b := ⟨_, rfl⟩
 obtain ⟨b1, e1⟩ : ∃ b : Bool, ((S.labels.length : Int) == 0) = b := ⟨_, rfl⟩
 obtain ⟨b2, e2⟩ : ∃ b : Bool, ((S.init.length : Int) == 0) = b := ⟨_, rfl⟩
 obtain ⟨b3, e3⟩ : ∃ b : Bool, ((S.main.length : Int) == 0) = b := ⟨_, rfl⟩
 obtain ⟨b4, e4⟩ : ∃ b : Bool, (S.restart == 0) = b := ⟨_, rfl⟩
 obtain ⟨b5, e5⟩ : ∃ b : Bool, (S.grace == 0) = b := ⟨_, rfl⟩
 obtain ⟨b6, e6⟩ : ∃ b : Bool, (S.prio == 0) = b := ⟨_, rfl⟩
 have HR := hid (show (b0 && b1 && b2 && b3 && b4 && b5 && b6) = bareS S by rw [← e0, ← e1, ← e2, ← e3, ← e4, ← e5, ← e6]; (try simp only [text_empty, len_zero, le_32, le_16, le_4, len_eq, rev_zero]); rfl)
 have cX0 := box_cell X2.out 0 rfl
 have cX1 := box_cell X2.out 1 rfl
 have cX2 := box_cell X2.out 2 rfl
 have cX3 := box_cell X2.out 3 rfl
 have cX4 := box_cell X2.out 4 rfl
 have cX5 := box_cell X2.out 5 rfl
 have cX6 := box_cell X2.out 6 rfl
 cases b0 with
 | false =>
  have HD := hid (show false = bareS S from by have := HR.out; simpa using this); go_wp2
  go_ret
  exact ⟨Book.ret_b HD.out, B2.out⟩
 | true =>
  cases b1 with
  | false =>
   have HD := hid (show false = bareS S from by have := HR.out; simpa using this); go_wp2
   go_ret
   exact ⟨Book.ret_b HD.out, B2.out⟩
  | true =>
   cases b2 with
   | false =>
    have HD := hid (show false = bareS S from by have := HR.out; simpa using this); go_wp2
    go_ret
    exact ⟨Book.ret_b HD.out, B2.out⟩
   | true =>
    cases b3 with
    | false =>
     have HD := hid (show false = bareS S from by have := HR.out; simpa using this); go_wp2
     go_ret
     exact ⟨Book.ret_b HD.out, B2.out⟩
    | true =>
     cases b4 with
     | false =>
      have HD := hid (show false = bareS S from by have := HR.out; simpa using this); go_wp2
      go_ret
      exact ⟨Book.ret_b HD.out, B2.out⟩
     | true =>
      cases b5 with
      | false =>
       have HD := hid (show false = bareS S from by have := HR.out; simpa using this); go_wp2
       go_ret
       exact ⟨Book.ret_b HD.out, B2.out⟩
      | true =>
       have HD := hid (show b6 = bareS S from by have := HR.out; simpa using this); go_wp2
       go_ret
       exact ⟨Book.ret_b HD.out, B2.out⟩
theorem refbare_any (p : Pd) (LA : Option Addr) (lc : Nat) (IA : Option Addr) (ic : Nat) (MA : Option Addr) (mc : Nat) (RA : Option Addr) (rc : Nat) (w : World) :
 Calls Tryz.prog 59 #[.agg (P13 p LA lc IA ic MA mc RA rc).toArray] w fun e w' => e = .returned (.bool (noPodB p)) ∧ Below w.heap.size w w' := by
 obtain ⟨w2, hw2⟩ : ∃ v, w.alloc (.cells (P13 p LA lc IA ic MA mc RA rc).toArray 42) = v := ⟨_, rfl⟩
 have X2 := hid (show w2.heap[w.heap.size]? = some (.cells (P13 p LA lc IA ic MA mc RA rc).toArray 42 (0, 0)) by rw [← hw2]; exact heap_alloc_new w _)
 have B2 := hid (show Below w.heap.size w w2 by rw [← hw2]; exact (Below.refl _ _).alloc (Nat.le_refl _) _)
 go_enter Tryz.func59, Tryz.ntmps59
 obtain ⟨b0, e0⟩ : ∃ b : Bool, (p.uid == 0) = b := ⟨_, rfl⟩
 obtain ⟨b1, e1⟩ : ∃ b : Bool, ((p.rev : Int) == 0) = b := ⟨_, rfl⟩
 obtain ⟨b2, e2⟩ : ∃ b : Bool, bareS p.spec = b := ⟨_, rfl⟩
 obtain ⟨b3, e3⟩ : ∃ b : Bool, (p.phase == 0) = b := ⟨_, rfl⟩
 obtain ⟨b4, e4⟩ : ∃ b : Bool, ((p.rs.length : Int) == 0) = b := ⟨_, rfl⟩
 obtain ⟨b5, e5⟩ : ∃ b : Bool, (p.mark == 0) = b := ⟨_, rfl⟩
 obtain ⟨b6, e6⟩ : ∃ b : Bool, (p.grace == 0) = b := ⟨_, rfl⟩
 have HR := hid (show (b0 && b1 && b2 && b3 && b4 && b5 && b6) = noPodB p by rw [← e0, ← e1, ← e2, ← e3, ← e4, ← e5, ← e6]; (try simp only [text_empty, len_zero, le_32, le_16, le_4, len_eq, rev_zero, bareS_eq]); rfl)
 have E2 := hid e2
 clear e2
 have cX0 := box_cell X2.out 0 rfl
 have cX1 := box_cell X2.out 1 rfl
 have cX2 := box_cell X2.out 2 rfl
 have cX3 := box_cell X2.out 3 rfl
 have cX4 := box_cell X2.out 4 rfl
 have cX5 := box_cell X2.out 5 rfl
 have cX6 := box_cell X2.out 6 rfl
 have cX7 := box_cell X2.out 7 rfl
 have cX8 := box_cell X2.out 8 rfl
 cases b0 with
 | false =>
  have HD := hid (show false = noPodB p from by have := HR.out; simpa using this); go_wp2
  go_ret
  exact ⟨Book.ret_b HD.out, B2.out⟩
 | true =>
  cases b1 with
  | false =>
   have HD := hid (show false = noPodB p from by have := HR.out; simpa using this); go_wp2
   go_ret
   exact ⟨Book.ret_b HD.out, B2.out⟩
  | true =>
   go_wp2_with fail
   refine (refbareSpec_any p.spec LA lc IA ic MA mc w2).mono ?_
   rintro e w3 ⟨rfl, hb3⟩; have B3 := hid (B2.out.trans (hb3.mono B2.out.size)); have X3 := hid ((hb3.block w.heap.size (lt_of_block X2.out)).trans X2.out); clear hb3 X2 cX0 cX1 cX2 cX3 cX4 cX5 cX6 cX7 cX8 hw2; rw [E2.out]
   as_aux_lemma =>
    have cX9 := box_cell X3.out 9 rfl
    have cX10 := box_cell X3.out 10 rfl
    have cX11 := box_cell X3.out 11 rfl
    have cX12 := box_cell X3.out 12 rfl
    cases b2 with
    | false =>
     have HD := hid (show false = noPodB p from by have := HR.out; simpa using this); go_wp2
     go_ret
     exact ⟨Book.ret_b HD.out, B3.out⟩
    | true =>
     cases b3 with
     | false =>
      have HD := hid (show false = noPodB p from by have := HR.out; simpa using this); go_wp2
      go_ret
      exact ⟨Book.ret_b HD.out, B3.out⟩
     | true =>
      cases b4 with
      | false =>
       have HD := hid (show false = noPodB p from by have := HR.out; simpa using this); go_wp2
       go_ret
       exact ⟨Book.ret_b HD.out, B3.out⟩
      | true =>
       cases b5 with
       | false =>
        have HD := hid (show false = noPodB p from by have := HR.out; simpa using this); go_wp2
        go_ret
        exact ⟨Book.ret_b HD.out, B3.out⟩
       | true =>
        have HD := hid (show b6 = noPodB p from by have := HR.out; simpa using this); go_wp2
        go_ret
        exact ⟨Book.ret_b HD.out, B3.out⟩
def podHB (p : Pd) : Bool := inB p.uid 1 1073741824 && decide ((checkV p.spec).1 = 0) && inB p.phase 1 4 && decide (p.rs.length = p.spec.main.length) && inB p.mark 0 2 && inB p.grace 0 1000
theorem podHB_eq (p : Pd) : (podHB p && p.rs.all restB) = podB p := by
 unfold podHB podB
 cases p.rs.all restB <;> simp
theorem refpod_any (p : Pd) (LA : Option Addr) (lc : Nat) (IA : Option Addr) (ic : Nat) (MA : Option Addr) (mc : Nat) (RA : Option Addr) (rc : Nat) (hLt : LightP p) (w : World) (hL : SLaid w) (h : p.In w LA lc IA ic MA mc RA) :
 Calls Tryz.prog 23 #[.agg (P13 p LA lc IA ic MA mc RA rc).toArray] w fun e w' => e = .returned (.bool (podB p)) ∧ Below w.heap.size w w' := by
 obtain ⟨w2, hw2⟩ : ∃ v, w.alloc (.cells (P13 p LA lc IA ic MA mc RA rc).toArray 42) = v := ⟨_, rfl⟩
 have X2 := hid (show w2.heap[w.heap.size]? = some (.cells (P13 p LA lc IA ic MA mc RA rc).toArray 42 (0, 0)) by rw [← hw2]; exact heap_alloc_new w _)
 have B2 := hid (show Below w.heap.size w w2 by rw [← hw2]; exact (Below.refl _ _).alloc (Nat.le_refl _) _)
 have HLT := hid hLt
 have HL := hid hL
 have H := hid h
 have hrl : (p.rs.length : Int) ≤ 20 := by have := hLt.rs; omega
 clear hLt hL h
 go_enter Tryz.func23, Tryz.ntmps23
 obtain ⟨b0, e0⟩ : ∃ b : Bool, inB p.uid 1 1073741824 = b := ⟨_, rfl⟩
 obtain ⟨b1, e1⟩ : ∃ b : Bool, decide ((checkV p.spec).1 = 0) = b := ⟨_, rfl⟩
 obtain ⟨b2, e2⟩ : ∃ b : Bool, inB p.phase 1 4 = b := ⟨_, rfl⟩
 obtain ⟨b3, e3⟩ : ∃ b : Bool, ((p.rs.length : Int) == (p.spec.main.length : Int)) = b := ⟨_, rfl⟩
 obtain ⟨b4, e4⟩ : ∃ b : Bool, inB p.mark 0 2 = b := ⟨_, rfl⟩
 obtain ⟨b5, e5⟩ : ∃ b : Bool, inB p.grace 0 1000 = b := ⟨_, rfl⟩
 have HR := hid (show (b0 && b1 && b2 && b3 && b4 && b5) = podHB p by rw [← e0, ← e1, ← e2, ← e3, ← e4, ← e5]; (try simp only [text_empty, len_zero, le_32, le_16, le_4, len_eq, rev_zero]); rfl)
 have E0 := hid e0
 clear e0
 have E1 := hid e1
 clear e1
 have E2 := hid e2
 clear e2
 have E4 := hid e4
 clear e4
 have E5 := hid e5
 clear e5
 have cX0 := box_cell X2.out 0 rfl
 have cX2 := box_cell X2.out 2 rfl
 have cX3 := box_cell X2.out 3 rfl
 have cX4 := box_cell X2.out 4 rfl
 have cX5 := box_cell X2.out 5 rfl
 have cX6 := box_cell X2.out 6 rfl
 have cX7 := box_cell X2.out 7 rfl
 have cX8 := box_cell X2.out 8 rfl
 have cX10 := box_cell X2.out 10 rfl
 go_wp2_with fail
 refine (refwithin_any p.uid 1 1073741824 w2).mono ?_
 rintro e w3 ⟨rfl, rfl⟩
 rw [E0.out]
 cases b0 with
 | false =>
  have HD := hid (show false = podB p by rw [← podHB_eq, show podHB p = false from by have := HR.out; simpa using this.symm]; rfl); go_wp2_with fail
  go_loop [3, 4] (fun s i => ∃ k : Nat, k ≤ p.rs.length ∧ i = .int .i64 k ∧ s = .bool false) (fun _ i => p.rs.length - (RowKit.intOf i).toNat)
  case atStart => exact ⟨0, Nat.zero_le _, rfl, rfl⟩
  case round =>
   obtain ⟨k, hk, rfl, rfl⟩ := hrel
   by_cases hlt : (k : Int) < (p.rs.length : Int)
   · go_wp2_with fail
     go_round
     case rel => exact ⟨k + 1, by omega, by go_num, rfl⟩
     case measure => simp [RowKit.intOf]; omega
   · go_wp2_with fail
     go_ret
     exact ⟨Book.ret_b HD.out, B2.out⟩
 | true =>
  go_wp2_with fail
  refine (right_any p.spec LA lc IA ic MA mc HLT.out.spec w2 (H.out.spec.below B2.out)).mono ?_
  rintro e w3 ⟨rfl, hb3⟩; have B3 := hid (B2.out.trans (hb3.mono B2.out.size)); have X3 := hid ((hb3.block w.heap.size (lt_of_block X2.out)).trans X2.out); clear hb3 X2 cX0 cX2 cX3 cX4 cX5 cX6 cX7 cX8 cX10 hw2; rw [E1.out]
  as_aux_lemma =>
   have cX5 := box_cell X3.out 5 rfl
   have cX9 := box_cell X3.out 9 rfl
   have cX10 := box_cell X3.out 10 rfl
   have cX11 := box_cell X3.out 11 rfl
   have cX12 := box_cell X3.out 12 rfl
   cases b1 with
   | false =>
    have HD := hid (show false = podB p by rw [← podHB_eq, show podHB p = false from by have := HR.out; simpa using this.symm]; rfl); go_wp2_with fail
    go_loop [3, 4] (fun s i => ∃ k : Nat, k ≤ p.rs.length ∧ i = .int .i64 k ∧ s = .bool false) (fun _ i => p.rs.length - (RowKit.intOf i).toNat)
    case atStart => exact ⟨0, Nat.zero_le _, rfl, rfl⟩
    case round =>
     obtain ⟨k, hk, rfl, rfl⟩ := hrel
     by_cases hlt : (k : Int) < (p.rs.length : Int)
     · go_wp2_with fail
       go_round
       case rel => exact ⟨k + 1, by omega, by go_num, rfl⟩
       case measure => simp [RowKit.intOf]; omega
     · go_wp2_with fail
       go_ret
       exact ⟨Book.ret_b HD.out, B3.out⟩
   | true =>
    go_wp2_with fail
    refine (refwithin_any p.phase 1 4 w3).mono ?_
    rintro e w4 ⟨rfl, rfl⟩; rw [E2.out]
    cases b2 with
    | false =>
     have HD := hid (show false = podB p by rw [← podHB_eq, show podHB p = false from by have := HR.out; simpa using this.symm]; rfl); go_wp2_with fail
     go_loop [3, 4] (fun s i => ∃ k : Nat, k ≤ p.rs.length ∧ i = .int .i64 k ∧ s = .bool false) (fun _ i => p.rs.length - (RowKit.intOf i).toNat)
     case atStart => exact ⟨0, Nat.zero_le _, rfl, rfl⟩
     case round =>
      obtain ⟨k, hk, rfl, rfl⟩ := hrel
      by_cases hlt : (k : Int) < (p.rs.length : Int)
      · go_wp2_with fail
        go_round
        case rel => exact ⟨k + 1, by omega, by go_num, rfl⟩
        case measure => simp [RowKit.intOf]; omega
      · go_wp2_with fail
        go_ret
        exact ⟨Book.ret_b HD.out, B3.out⟩
    | true =>
     cases b3 with
     | false =>
      have HD := hid (show false = podB p by rw [← podHB_eq, show podHB p = false from by have := HR.out; simpa using this.symm]; rfl); go_wp2_with fail
      go_loop [3, 4] (fun s i => ∃ k : Nat, k ≤ p.rs.length ∧ i = .int .i64 k ∧ s = .bool false) (fun _ i => p.rs.length - (RowKit.intOf i).toNat)
      case atStart => exact ⟨0, Nat.zero_le _, rfl, rfl⟩
      case round =>
       obtain ⟨k, hk, rfl, rfl⟩ := hrel
       by_cases hlt : (k : Int) < (p.rs.length : Int)
       · go_wp2_with fail
         go_round
         case rel => exact ⟨k + 1, by omega, by go_num, rfl⟩
         case measure => simp [RowKit.intOf]; omega
       · go_wp2_with fail
         go_ret
         exact ⟨Book.ret_b HD.out, B3.out⟩
     | true =>
      go_wp2_with fail
      refine (refwithin_any p.mark 0 2 w3).mono ?_
      rintro e w4 ⟨rfl, rfl⟩; rw [E4.out]
      cases b4 with
      | false =>
       have HD := hid (show false = podB p by rw [← podHB_eq, show podHB p = false from by have := HR.out; simpa using this.symm]; rfl); go_wp2_with fail
       go_loop [3, 4] (fun s i => ∃ k : Nat, k ≤ p.rs.length ∧ i = .int .i64 k ∧ s = .bool false) (fun _ i => p.rs.length - (RowKit.intOf i).toNat)
       case atStart => exact ⟨0, Nat.zero_le _, rfl, rfl⟩
       case round =>
        obtain ⟨k, hk, rfl, rfl⟩ := hrel
        by_cases hlt : (k : Int) < (p.rs.length : Int)
        · go_wp2_with fail
          go_round
          case rel => exact ⟨k + 1, by omega, by go_num, rfl⟩
          case measure => simp [RowKit.intOf]; omega
        · go_wp2_with fail
          go_ret
          exact ⟨Book.ret_b HD.out, B3.out⟩
      | true =>
       go_wp2_with fail
       refine (refwithin_any p.grace 0 1000 w3).mono ?_
       rintro e w4 ⟨rfl, rfl⟩; rw [E5.out]
       cases b5 with
       | false =>
        have HD := hid (show false = podB p by rw [← podHB_eq, show podHB p = false from by have := HR.out; simpa using this.symm]; rfl); go_wp2_with fail
        go_loop [3, 4] (fun s i => ∃ k : Nat, k ≤ p.rs.length ∧ i = .int .i64 k ∧ s = .bool false) (fun _ i => p.rs.length - (RowKit.intOf i).toNat)
        case atStart => exact ⟨0, Nat.zero_le _, rfl, rfl⟩
        case round =>
         obtain ⟨k, hk, rfl, rfl⟩ := hrel
         by_cases hlt : (k : Int) < (p.rs.length : Int)
         · go_wp2_with fail
           go_round
           case rel => exact ⟨k + 1, by omega, by go_num, rfl⟩
           case measure => simp [RowKit.intOf]; omega
         · go_wp2_with fail
           go_ret
           exact ⟨Book.ret_b HD.out, B3.out⟩
       | true =>
        have HA := hid (show p.rs.all restB = podB p by rw [← podHB_eq, show podHB p = true from by have := HR.out; simpa using this.symm]; rfl); have HRS := hid (Sd.Nums.below H.out.rs B3.out); go_wp2_with fail
        go_loop [3, 4] (fun s i => ∃ k : Nat, k ≤ p.rs.length ∧ i = .int .i64 k ∧ s = .bool ((p.rs.take k).all restB)) (fun _ i => p.rs.length - (RowKit.intOf i).toNat)
        case atStart => exact ⟨0, Nat.zero_le _, rfl, by simp⟩
        case round =>
         obtain ⟨k, hk, rfl, rfl⟩ := hrel
         by_cases hlt : k < p.rs.length
         · have hkI : (k : Int) < (p.rs.length : Int) := by omega
           obtain ⟨hwf, ad, hRA, hbl, hcell⟩ := HRS.out.at hlt
           have HST := hid (show (p.rs.take (k + 1)).all restB = ((p.rs.take k).all restB && restB p.rs[k]) by rw [List.take_succ_eq_append_getElem hlt, List.all_append]; simp); obtain ⟨t, ht⟩ : ∃ t, (p.rs.take k).all restB = t := ⟨_, rfl⟩
           rw [ht] at HST ⊢
           obtain ⟨z, hz⟩ : ∃ z, p.rs[k] = z := ⟨_, rfl⟩
           rw [hz] at HST hcell
           subst hRA; clear ht hz hwf
           cases t with
           | false =>
            go_wp2_with fail
            go_round
            case rel => exact ⟨k + 1, by omega, by go_num, by rw [HST.out]; rfl⟩
            case measure => simp [RowKit.intOf]; omega
           | true =>
            go_wp2_with fail
            refine (refwithin_any z 0 1073741824 w3).mono ?_
            rintro e w9 ⟨rfl, rfl⟩; go_wp2_with fail
            go_round
            case rel => exact ⟨k + 1, by omega, by go_num, by rw [HST.out]; rfl⟩
            case measure => simp [RowKit.intOf]; omega
         · have hkI : ¬ (k : Int) < (p.rs.length : Int) := by omega
           have HE := hid (show (p.rs.take k).all restB = podB p by rw [List.take_of_length_le (by omega)]; exact HA.out); rw [HE.out]; go_wp2_with fail
           go_ret
           exact ⟨rfl, B3.out⟩
theorem over_3 (a0 a1 a2 b0 b1 b2 : Value) : over #[a0, a1, a2] 0 [b0, b1, b2] = #[b0, b1, b2] := by
 simp [over]
theorem cover_7 (a0 a1 a2 a3 a4 a5 a6 b0 b1 b2 b3 b4 b5 b6 : Value) : over #[a0, a1, a2, a3, a4, a5, a6] 0 [b0, b1, b2, b3, b4, b5, b6] = #[b0, b1, b2, b3, b4, b5, b6] := by
 simp [over]
theorem cover_15 (a0 a1 a2 a3 a4 a5 a6 a7 a8 a9 a10 a11 a12 a13 a14 b0 b1 b2 b3 b4 b5 b6 b7 b8 b9 b10 b11 b12 b13 b14 : Value) : over #[a0, a1, a2, a3, a4, a5, a6, a7, a8, a9, a10, a11, a12, a13, a14] 0 [b0, b1, b2, b3, b4, b5, b6, b7, b8, b9, b10, b11, b12, b13, b14] = #[b0, b1, b2, b3, b4, b5, b6, b7, b8, b9, b10, b11, b12, b13, b14] := by
 simp [over]
theorem msg_num {m : Mg} (h : m.num < 1 ∨ 1073741824 < m.num) : msgB m = false := by
 unfold msgB
 rw [show inB m.num 1 1073741824 = false from by rw [Bool.eq_false_iff]; intro h1; have := inB_iff.1 h1; omega]
 rfl
theorem msg_2 {m : Mg} (hn : inB m.num 1 1073741824 = true) (hk : m.kind = 2) : msgB m = (noReplyB m.reply && eventB m.event) := by
 unfold msgB
 rw [hn, if_neg (by omega), if_pos hk]
 rfl
theorem ev_none {u : Ev} (h : u.kind < 1 ∨ 5 < u.kind) : eventB u = false := by
 unfold eventB hasB noneB
 rw [show inB u.kind 1 3 = false from by rw [Bool.eq_false_iff]; intro h1; have := inB_iff.1 h1; omega, show inB u.kind 4 5 = false from by rw [Bool.eq_false_iff]; intro h1; have := inB_iff.1 h1; omega]
 rfl
theorem ev_pod {u : Ev} (h1 : 1 ≤ u.kind) (h3 : u.kind ≤ 3) : eventB u = podB u.pod := by
 unfold eventB hasB noneB
 rw [show inB u.kind 1 3 = true from inB_iff.2 ⟨h1, h3⟩, show inB u.kind 4 5 = false from by rw [Bool.eq_false_iff]; intro h1; have := inB_iff.1 h1; omega]
 simp
theorem ev_bare {u : Ev} (h : u.kind = 4 ∨ u.kind = 5) : eventB u = noPodB u.pod := by
 unfold eventB hasB noneB
 rw [show inB u.kind 4 5 = true from inB_iff.2 ⟨by omega, by omega⟩, show inB u.kind 1 3 = false from by rw [Bool.eq_false_iff]; intro h1; have := inB_iff.1 h1; omega]
 simp
def okB (m : Mg) : Bool := m.kind == 1 && m.event.kind == 0 && m.event.rev == 0 && noPodB m.event.pod && inB m.reply.code 0 999 && inB m.reply.uid 0 1073741824 && inB m.reply.id 0 1073741824 && decide (m.reply.data.size ≤ 32) && decide (m.reply.pods.length ≤ 16) && decide (m.reply.use.length ≤ 4)
theorem msg_o {m : Mg} (hn : inB m.num 1 1073741824 = true) (hk : ¬ m.kind = 2) : msgB m = (okB m && (m.reply.pods.all podB && m.reply.use.all useB)) := by
 unfold msgB okB
 rw [hn]
 by_cases h1 : m.kind = 1
 · rw [if_pos h1, show (m.kind == 1) = true from by simpa using h1]
   unfold noEventB replyB
   cases m.reply.pods.all podB <;> cases m.reply.use.all useB <;> simp [Bool.and_assoc]
 · rw [if_neg h1, if_neg hk, show (m.kind == 1) = false from by simpa using h1]
   rfl
theorem ok_end {α : Type} {f : α → Bool} {l : List α} {k : Nat} {t b : Bool} (ht : (b && (l.take k).all f) = t) (hk : k ≤ l.length) (h : ¬ (t = true ∧ k < l.length)) : t = (b && l.all f) := by
 by_cases hkl : k < l.length
 · have h1 : t = false := by cases t; rfl; exact absurd ⟨rfl, hkl⟩ h
   subst h1; rw [← List.take_append_drop k l, List.all_append, ← Bool.and_assoc, ht]
   rfl
 · rw [← ht, List.take_of_length_le (by omega)]
theorem all_end {α : Type} {f : α → Bool} {l : List α} {k : Nat} {t : Bool} (ht : (l.take k).all f = t) (hk : k ≤ l.length) (h : ¬ (t = true ∧ k < l.length)) : t = l.all f := by
 by_cases hkl : k < l.length
 · have h1 : t = false := by cases t; rfl; exact absurd ⟨rfl, hkl⟩ h
   subst h1; rw [← List.take_append_drop k l, List.all_append, ht]
   rfl
 · rw [← ht, List.take_of_length_le (by omega)]
set_option maxHeartbeats 8000000 in
theorem refcheck_any (m : Mg) (PA : Option Addr) (pc : Nat) (UA : Option Addr) (uc : Nat) (LA : Option Addr) (lc : Nat) (IA : Option Addr) (ic : Nat) (MA : Option Addr) (mc : Nat) (RA : Option Addr) (rc : Nat) (hLt : LightM m) (w : World) (hL : SLaid w) (h : m.In w PA UA LA lc IA ic MA mc RA) :
 Calls Tryz.prog 25 #[.agg (M24 m PA pc UA uc LA lc IA ic MA mc RA rc).toArray] w fun e w' => e = .returned (.bool (msgB m)) ∧ Below w.heap.size w w' := by
 have HLT := hid hLt
 have HL := hid hL
 have H := hid h
 clear hLt hL h
 obtain ⟨w2, hw2⟩ : ∃ v, w.alloc (.cells (M24 m PA pc UA uc LA lc IA ic MA mc RA rc).toArray 50) = v := ⟨_, rfl⟩
 have X2 := hid (show w2.heap[w.heap.size]? = some (.cells (M24 m PA pc UA uc LA lc IA ic MA mc RA rc).toArray 50 (0, 0)) by rw [← hw2]; exact heap_alloc_new w _)
 have B2 := hid (show Below w.heap.size w w2 by rw [← hw2]; exact (Below.refl _ _).alloc (Nat.le_refl _) _)
 have RGr := hid (range_at X2.out 2 (Y7 m.reply PA pc UA uc) rfl)
 have hq_ := heap_alloc_new w2 (.cells #[.int .i64 0, .int .i64 0, .int .i64 0, .int .u64 0, .string ⟨#[]⟩, .slice none 0 0, .slice none 0 0] 46)
 obtain ⟨w3, hw3⟩ : ∃ v, (w2.alloc (.cells #[.int .i64 0, .int .i64 0, .int .i64 0, .int .u64 0, .string ⟨#[]⟩, .slice none 0 0, .slice none 0 0] 46)).setCells w2.heap.size 0 (Y7 m.reply PA pc UA uc) = v := ⟨_, rfl⟩
 have Z3 := hid (show w3.heap[w2.heap.size]? = some (.cells (Y7 m.reply PA pc UA uc).toArray 46 (0, 0)) by rw [← hw3]; exact box_into hq_ 0 _ (cover_7 _ _ _ _ _ _ _ _ _ _ _ _ _ _))
 have hb_ : Below w2.heap.size w2 w3 := by rw [← hw3]; exact below_cells (Nat.le_refl _) _ 0 ((Below.refl _ _).alloc (Nat.le_refl _) _)
 have THz := hid (show (w2.alloc (.cells #[.int .i64 0, .int .i64 0, .int .i64 0, .int .u64 0, .string ⟨#[]⟩, .slice none 0 0, .slice none 0 0] 46)).there w2.heap.size 0 7 from box_there hq_ 0 7 (by decide))
 have ONEz := hid (show ((Y7 m.reply PA pc UA uc).toArray : Array Value).all (·.oneCell') = true by simp [Value.oneCell'])
 have HVz := hid hw3
 clear hw3 hq_
 have X3 := hid ((hb_.block w.heap.size (lt_of_block X2.out)).trans X2.out)
 have B3 := hid (B2.out.trans (hb_.mono B2.out.size))
 clear hb_
 have RGe := hid (range_at X3.out 9 (V15 m.event LA lc IA ic MA mc RA rc) rfl)
 have hq_ := heap_alloc_new w3 (.cells (X16 0 0).toArray 48)
 obtain ⟨w4, hw4⟩ : ∃ v, (w3.alloc (.cells (X16 0 0).toArray 48)).setCells w3.heap.size 0 (V15 m.event LA lc IA ic MA mc RA rc) = v := ⟨_, rfl⟩
 have V4 := hid (show w4.heap[w3.heap.size]? = some (.cells (V15 m.event LA lc IA ic MA mc RA rc).toArray 48 (0, 0)) by rw [← hw4]; exact box_into hq_ 0 _ (cover_15 _ _ _ _ _ _ _ _ _ _ _ _ _ _ _ _ _ _ _ _ _ _ _ _ _ _ _ _ _ _))
 have hb_ : Below w3.heap.size w3 w4 := by rw [← hw4]; exact below_cells (Nat.le_refl _) _ 0 ((Below.refl _ _).alloc (Nat.le_refl _) _)
 have THx := hid (show (w3.alloc (.cells (X16 0 0).toArray 48)).there w3.heap.size 0 15 from box_there hq_ 0 15 (by decide))
 have ONEx := hid (show ((V15 m.event LA lc IA ic MA mc RA rc).toArray : Array Value).all (·.oneCell') = true by simp [Value.oneCell'])
 have HVx := hid hw4
 clear hw4 hq_
 have X4 := hid ((hb_.block w.heap.size (lt_of_block X3.out)).trans X3.out)
 have Z4 := hid ((hb_.block w2.heap.size (lt_of_block Z3.out)).trans Z3.out)
 have B4 := hid (B3.out.trans (hb_.mono B3.out.size))
 clear hb_ X2 X3 Z3 B2 B3
 have cX0 := box_cell X4.out 0 rfl
 have cX1 := box_cell X4.out 1 rfl
 go_enter Tryz.func25, Tryz.ntmps25
 go_upto_region 3 with (first | (refine wpList_load_mid rfl 46 _ rfl _ _ rfl _ _ RGr.out Tryz.underlying46 rfl (by kernel_rfl) ?_) | (refine wpList_load_mid rfl 48 _ rfl _ _ rfl _ _ RGe.out Tryz.underlying48 rfl (by kernel_rfl) ?_) | (refine wpList_store_to rfl 46 _ _ rfl _ _ _ rfl rfl THz.out (by kernel_rfl) ONEz.out HVz.out ?_) | (refine wpList_store_to rfl 48 _ _ rfl _ _ _ rfl rfl THx.out (by kernel_rfl) ONEx.out HVx.out ?_))
 clear RGr RGe THz ONEz HVz THx ONEx HVx hw2
 by_cases hn1 : m.num < 1
 · have HD := hid (show false = msgB m from (msg_num (.inl hn1)).symm)
   go_wp2_with fail
   go_ret
   exact ⟨Book.ret_b HD.out, B4.out⟩
 by_cases hn2 : 1073741824 < m.num
 · have HD := hid (show false = msgB m from (msg_num (.inr hn2)).symm)
   go_wp2_with fail
   go_ret
   exact ⟨Book.ret_b HD.out, B4.out⟩
 have HNUM := hid (show inB m.num 1 1073741824 = true from inB_iff.2 ⟨by omega, by omega⟩)
 by_cases hk2 : m.kind = 2
 · have HK := hid hk2
   have hkb : (m.kind == 2) = true := by simpa using hk2
   clear hk2
   go_upto_region 6 with fail
   go_cut [5] (fun c wx => c = .bool (noReplyB m.reply) ∧ w4 = wx)
   case first =>
    obtain ⟨b0, e0⟩ : ∃ b : Bool, (m.reply.code == 0) = b := ⟨_, rfl⟩; obtain ⟨b1, e1⟩ : ∃ b : Bool, (m.reply.uid == 0) = b := ⟨_, rfl⟩; obtain ⟨b2, e2⟩ : ∃ b : Bool, (m.reply.id == 0) = b := ⟨_, rfl⟩; obtain ⟨b3, e3⟩ : ∃ b : Bool, ((m.reply.rev : Int) == 0) = b := ⟨_, rfl⟩; obtain ⟨b4, e4⟩ : ∃ b : Bool, m.reply.data.toList.isEmpty = b := ⟨_, rfl⟩; obtain ⟨b5, e5⟩ : ∃ b : Bool, ((m.reply.pods.length : Int) == 0) = b := ⟨_, rfl⟩; obtain ⟨b6, e6⟩ : ∃ b : Bool, ((m.reply.use.length : Int) == 0) = b := ⟨_, rfl⟩; have HR := hid (show (b0 && b1 && b2 && b3 && b4 && b5 && b6) = noReplyB m.reply by rw [← e0, ← e1, ← e2, ← e3, ← e4, ← e5, ← e6]; (try simp only [text_empty, len_zero, le_32, le_16, le_4, len_eq, rev_zero]); rfl)
    have cZ0 := box_cell Z4.out 0 rfl
    have cZ1 := box_cell Z4.out 1 rfl
    have cZ2 := box_cell Z4.out 2 rfl
    have cZ3 := box_cell Z4.out 3 rfl
    have cZ4 := box_cell Z4.out 4 rfl
    have cZ5 := box_cell Z4.out 5 rfl
    have cZ6 := box_cell Z4.out 6 rfl
    cases b0 with
    | false =>
     have HD := hid (show false = noReplyB m.reply from by have := HR.out; simpa using this); go_wp2_with fail
     go_meet
     exact ⟨congrArg Value.bool HD.out, rfl⟩
    | true =>
     cases b1 with
     | false =>
      have HD := hid (show false = noReplyB m.reply from by have := HR.out; simpa using this); go_wp2_with fail
      go_meet
      exact ⟨congrArg Value.bool HD.out, rfl⟩
     | true =>
      cases b2 with
      | false =>
       have HD := hid (show false = noReplyB m.reply from by have := HR.out; simpa using this); go_wp2_with fail
       go_meet
       exact ⟨congrArg Value.bool HD.out, rfl⟩
      | true =>
       cases b3 with
       | false =>
        have HD := hid (show false = noReplyB m.reply from by have := HR.out; simpa using this); go_wp2_with fail
        go_meet
        exact ⟨congrArg Value.bool HD.out, rfl⟩
       | true =>
        cases b4 with
        | false =>
         have HD := hid (show false = noReplyB m.reply from by have := HR.out; simpa using this); go_wp2_with fail
         go_meet
         exact ⟨congrArg Value.bool HD.out, rfl⟩
        | true =>
         cases b5 with
         | false =>
          have HD := hid (show false = noReplyB m.reply from by have := HR.out; simpa using this); go_wp2_with fail
          go_meet
          exact ⟨congrArg Value.bool HD.out, rfl⟩
         | true =>
          have HD := hid (show b6 = noReplyB m.reply from by have := HR.out; simpa using this); go_wp2_with fail
          go_meet
          exact ⟨congrArg Value.bool HD.out, rfl⟩
   case rest =>
    obtain ⟨rfl, rfl⟩ := hcut
    have cV0 := box_cell V4.out 0 rfl
    cases hnr : noReplyB m.reply with
    | false =>
     have HD := hid (show false = msgB m by rw [msg_2 HNUM.out HK.out, hnr]; rfl); clear hnr; go_wp2_with fail
     all_goals
      go_ret
      exact ⟨Book.ret_b HD.out, B4.out⟩
    | true =>
     have HM := hid (show msgB m = eventB m.event by rw [msg_2 HNUM.out HK.out, hnr]; rfl); clear hnr; have RGp := hid (range_at V4.out 2 (P13 m.event.pod LA lc IA ic MA mc RA rc) rfl)
     by_cases hlo : m.event.kind < 1
     · have HD := hid (show false = msgB m by rw [HM.out]; exact (ev_none (by omega)).symm)
       have k4 : (m.event.kind == 4) = false := beq_eq_false_iff_ne.2 (by omega)
       have k5 : (m.event.kind == 5) = false := beq_eq_false_iff_ne.2 (by omega)
       have hlo' : ¬ (1 : Int) ≤ m.event.kind := by omega
       clear hlo; go_wp2_with fail
       all_goals
        go_ret
        exact ⟨Book.ret_b HD.out, B4.out⟩
     have hlo' : (1 : Int) ≤ m.event.kind := by omega
     clear hlo
     by_cases hhi : m.event.kind ≤ 3
     · have HD := hid (show podB m.event.pod = msgB m by rw [HM.out]; exact (ev_pod (by omega) hhi).symm)
       have HRUN := hid (refpod_any m.event.pod LA lc IA ic MA mc RA rc HLT.out.pod w4 (HL.out.below B4.out) (H.out.pod.below B4.out))
       go_wp2_with (first | (refine wpList_load_mid rfl 42 _ rfl _ _ rfl _ _ RGp.out Tryz.underlying42 rfl (by kernel_rfl) ?_) | (refine wpList_load_midG rfl 42 _ rfl _ _ rfl _ _ RGp.out Tryz.underlying42 rfl (by kernel_rfl) ?_))
       refine HRUN.out.mono ?_
       rintro e w5 ⟨rfl, hb5⟩; rw [HD.out]; go_wp2
       go_ret
       exact ⟨rfl, B4.out.trans (hb5.mono B4.out.size)⟩
     have hhi' : ¬ m.event.kind ≤ 3 := hhi
     clear hhi
     by_cases h45 : m.event.kind = 4 ∨ m.event.kind = 5
     · have HD := hid (show noPodB m.event.pod = msgB m by rw [HM.out]; exact (ev_bare h45).symm)
       have HRUN := hid (refbare_any m.event.pod LA lc IA ic MA mc RA rc w4)
       have hh : ((m.event.kind == 4) = true) ∨ ((m.event.kind == 4) = false ∧ (m.event.kind == 5) = true) := by
        rcases h45 with h | h
        · exact .inl (by simpa using h)
        · exact .inr ⟨by rw [h]; rfl, by simpa using h⟩
       clear h45
       rcases hh with hh | ⟨hh, hh2⟩
       all_goals
        go_wp2_with (first | (refine wpList_load_mid rfl 42 _ rfl _ _ rfl _ _ RGp.out Tryz.underlying42 rfl (by kernel_rfl) ?_) | (refine wpList_load_midG rfl 42 _ rfl _ _ rfl _ _ RGp.out Tryz.underlying42 rfl (by kernel_rfl) ?_))
        refine HRUN.out.mono ?_
        rintro e w5 ⟨rfl, hb5⟩; rw [HD.out]; go_wp2
        go_ret
        exact ⟨rfl, B4.out.trans (hb5.mono B4.out.size)⟩
     · have HD := hid (show false = msgB m by rw [HM.out]; exact (ev_none (by omega)).symm)
       have k4 : (m.event.kind == 4) = false := beq_eq_false_iff_ne.2 (by omega)
       have k5 : (m.event.kind == 5) = false := beq_eq_false_iff_ne.2 (by omega)
       clear h45; go_wp2_with fail
       all_goals
        go_ret
        exact ⟨Book.ret_b HD.out, B4.out⟩
 have HK := hid hk2
 have hkb : (m.kind == 2) = false := beq_eq_false_iff_ne.2 hk2
 clear hk2
 go_upto_region 10 with fail
 go_cut [6] (fun c wx => c = .bool (okB m) ∧ Below w.heap.size w wx ∧ wx.heap[w2.heap.size]? = some (.cells (Y7 m.reply PA pc UA uc).toArray 46 (0, 0)))
 case first =>
  have RGp := hid (range_at V4.out 2 (P13 m.event.pod LA lc IA ic MA mc RA rc) rfl); obtain ⟨b0, e0⟩ : ∃ b : Bool, (m.kind == 1) = b := ⟨_, rfl⟩; obtain ⟨b1, e1⟩ : ∃ b : Bool, (m.event.kind == 0) = b := ⟨_, rfl⟩; obtain ⟨b2, e2⟩ : ∃ b : Bool, ((m.event.rev : Int) == 0) = b := ⟨_, rfl⟩; obtain ⟨b3, e3⟩ : ∃ b : Bool, noPodB m.event.pod = b := ⟨_, rfl⟩; obtain ⟨b4, e4⟩ : ∃ b : Bool, inB m.reply.code 0 999 = b := ⟨_, rfl⟩; obtain ⟨b5, e5⟩ : ∃ b : Bool, inB m.reply.uid 0 1073741824 = b := ⟨_, rfl⟩; obtain ⟨b6, e6⟩ : ∃ b : Bool, inB m.reply.id 0 1073741824 = b := ⟨_, rfl⟩; obtain ⟨b7, e7⟩ : ∃ b : Bool, decide ((m.reply.data.size : Int) ≤ 32) = b := ⟨_, rfl⟩; obtain ⟨b8, e8⟩ : ∃ b : Bool, decide ((m.reply.pods.length : Int) ≤ 16) = b := ⟨_, rfl⟩; obtain ⟨b9, e9⟩ : ∃ b : Bool, decide ((m.reply.use.length : Int) ≤ 4) = b := ⟨_, rfl⟩; have HR := hid (show (b0 && b1 && b2 && b3 && b4 && b5 && b6 && b7 && b8 && b9) = okB m by rw [← e0, ← e1, ← e2, ← e3, ← e4, ← e5, ← e6, ← e7, ← e8, ← e9]; (try simp only [text_empty, len_zero, le_32, le_16, le_4, len_eq, rev_zero]); rfl)
  have E3 := hid e3
  clear e3
  have E4 := hid e4
  clear e4
  have E5 := hid e5
  clear e5
  have E6 := hid e6
  clear e6
  have cV0 := box_cell V4.out 0 rfl
  have cV1 := box_cell V4.out 1 rfl
  have cV2 := box_cell V4.out 2 rfl
  have cX0 := box_cell X4.out 0 rfl
  cases b0 with
  | false =>
   have HD := hid (show false = okB m from by have := HR.out; simpa using this); go_wp2_with fail
   go_meet
   exact ⟨congrArg Value.bool HD.out, B4.out, Z4.out⟩
  | true =>
   cases b1 with
   | false =>
    have HD := hid (show false = okB m from by have := HR.out; simpa using this); go_wp2_with fail
    go_meet
    exact ⟨congrArg Value.bool HD.out, B4.out, Z4.out⟩
   | true =>
    cases b2 with
    | false =>
     have HD := hid (show false = okB m from by have := HR.out; simpa using this); go_wp2_with fail
     go_meet
     exact ⟨congrArg Value.bool HD.out, B4.out, Z4.out⟩
    | true =>
     go_wp2_with (first | (refine wpList_load_mid rfl 42 _ rfl _ _ rfl _ _ RGp.out Tryz.underlying42 rfl (by kernel_rfl) ?_) | (refine wpList_load_midG rfl 42 _ rfl _ _ rfl _ _ RGp.out Tryz.underlying42 rfl (by kernel_rfl) ?_))
     refine (refbare_any m.event.pod LA lc IA ic MA mc RA rc w4).mono ?_
     rintro e w5 ⟨rfl, hb5⟩; have B5 := hid (B4.out.trans (hb5.mono B4.out.size)); have X5 := hid ((hb5.block w.heap.size (lt_of_block X4.out)).trans X4.out); have Z5 := hid ((hb5.block w2.heap.size (lt_of_block Z4.out)).trans Z4.out); have V5 := hid ((hb5.block w3.heap.size (lt_of_block V4.out)).trans V4.out); clear hb5 X4 Z4 V4 cV0 cV1 cV2 cX0; rw [E3.out]
     as_aux_lemma =>
      have cZ0 := box_cell Z5.out 0 rfl
      have cZ1 := box_cell Z5.out 1 rfl
      have cZ2 := box_cell Z5.out 2 rfl
      have cZ4 := box_cell Z5.out 4 rfl
      have cZ5 := box_cell Z5.out 5 rfl
      have cZ6 := box_cell Z5.out 6 rfl
      cases b3 with
      | false =>
       have HD := hid (show false = okB m from by have := HR.out; simpa using this); go_wp2_with fail
       go_meet
       exact ⟨congrArg Value.bool HD.out, B5.out, Z5.out⟩
      | true =>
       go_wp2_with fail
       refine (refwithin_any m.reply.code 0 999 w5).mono ?_
       rintro e w6 ⟨rfl, rfl⟩; rw [E4.out]
       cases b4 with
       | false =>
        have HD := hid (show false = okB m from by have := HR.out; simpa using this); go_wp2_with fail
        go_meet
        exact ⟨congrArg Value.bool HD.out, B5.out, Z5.out⟩
       | true =>
        go_wp2_with fail
        refine (refwithin_any m.reply.uid 0 1073741824 w5).mono ?_
        rintro e w6 ⟨rfl, rfl⟩; rw [E5.out]
        cases b5 with
        | false =>
         have HD := hid (show false = okB m from by have := HR.out; simpa using this); go_wp2_with fail
         go_meet
         exact ⟨congrArg Value.bool HD.out, B5.out, Z5.out⟩
        | true =>
         go_wp2_with fail
         refine (refwithin_any m.reply.id 0 1073741824 w5).mono ?_
         rintro e w6 ⟨rfl, rfl⟩; rw [E6.out]
         cases b6 with
         | false =>
          have HD := hid (show false = okB m from by have := HR.out; simpa using this); go_wp2_with fail
          go_meet
          exact ⟨congrArg Value.bool HD.out, B5.out, Z5.out⟩
         | true =>
          cases b7 with
          | false =>
           have HD := hid (show false = okB m from by have := HR.out; simpa using this); go_wp2_with fail
           go_meet
           exact ⟨congrArg Value.bool HD.out, B5.out, Z5.out⟩
          | true =>
           cases b8 with
           | false =>
            have HD := hid (show false = okB m from by have := HR.out; simpa using this); go_wp2_with fail
            go_meet
            exact ⟨congrArg Value.bool HD.out, B5.out, Z5.out⟩
           | true =>
            have HD := hid (show b9 = okB m from by have := HR.out; simpa using this); go_wp2_with fail
            go_meet
            exact ⟨congrArg Value.bool HD.out, B5.out, Z5.out⟩
 case rest =>
  obtain ⟨rfl, hB9, hZ9⟩ := hcut
  have B9 := hid hB9
  have Z9 := hid hZ9
  have HM := hid (msg_o HNUM.out HK.out); clear hB9 hZ9 X4 Z4 V4 B4 cX0 cX1 hkb
  have hnp : (m.reply.pods.length : Int) ≤ 20 := by have := HLT.out.reply.np; omega
  have hnu : (m.reply.use.length : Int) ≤ 20 := by have := HLT.out.reply.nu; omega
  go_wp2_with fail
  go_loopw [6, 7] (fun s i wr => ∃ k : Nat, k ≤ m.reply.pods.length ∧ i = .int .i64 k ∧ s = .bool (okB m && (m.reply.pods.take k).all podB) ∧ Hid (Below w.heap.size w wr) ∧ Hid (wr.heap[w2.heap.size]? = some (.cells (Y7 m.reply PA pc UA uc).toArray 46 (0, 0)))) (fun _ i _ => m.reply.pods.length - (RowKit.intOf i).toNat)
  case atStart => exact ⟨0, Nat.zero_le _, rfl, by simp, B9, Z9⟩
  case round =>
   obtain ⟨k, hk, rfl, rfl, BW, ZW⟩ := hrel
   obtain ⟨wo, hwo⟩ : ∃ v, v = wr := ⟨wr, rfl⟩; subst hwo; obtain ⟨t, ht⟩ : ∃ t, (okB m && (m.reply.pods.take k).all podB) = t := ⟨_, rfl⟩
   have cZ5 := box_cell ZW.out 5 rfl
   by_cases hgo : t = true ∧ k < m.reply.pods.length
   · obtain ⟨rfl, hlt⟩ := hgo
     have hkI : (k : Int) < (m.reply.pods.length : Int) := by omega
     obtain ⟨ad, LAq, lcq, IAq, icq, MAq, mcq, RAq, rcq, hPA, hab, hcc, hin⟩ := (H.out.reply.pods.below BW.out).at hlt
     have HST := hid (show (okB m && (m.reply.pods.take (k + 1)).all podB) = podB m.reply.pods[k] by rw [List.take_succ_eq_append_getElem hlt, List.all_append, ← Bool.and_assoc, ht]; simp); have HLQ := hid (HLT.out.reply.pods _ (List.getElem_mem hlt)); obtain ⟨q, hq⟩ : ∃ q, m.reply.pods[k] = q := ⟨_, rfl⟩
     rw [hq] at HST HLQ hcc hin
     have HCC := hid hcc.all
     have HIN := hid hin
     have HRUN := hid (refpod_any q LAq lcq IAq icq MAq mcq RAq rcq HLQ.out wo (HL.out.below BW.out) hin); rw [ht]
     have HPA := hid hPA
     rw [hPA] at cZ5
     clear ht hq hcc hin hPA
     go_wp2_with (refine wpList_load_addr rfl 42 _ rfl _ rfl (P13 q LAq lcq IAq icq MAq mcq RAq rcq) _ HCC.out Tryz.underlying42 rfl (by kernel_rfl) ?_)
     refine HRUN.out.mono ?_
     rintro e w9 ⟨rfl, hb9⟩; go_wp2_with fail
     go_roundw
     case rel => exact ⟨k + 1, by omega, by go_num, by rw [HST.out], BW.out.trans (hb9.mono BW.out.size), (hb9.block w2.heap.size (lt_of_block ZW.out)).trans ZW.out⟩
     case measure => simp [RowKit.intOf]; omega
   · have HT := hid (show t = (okB m && m.reply.pods.all podB) from ok_end ht hk hgo)
     have hgo' : t = false ∨ (t = true ∧ ¬ (k : Int) < (m.reply.pods.length : Int)) := by
      cases t
      · exact .inl rfl
      · exact .inr ⟨rfl, fun h => hgo ⟨rfl, by omega⟩⟩
     rw [ht]; clear ht hgo
     rcases hgo' with rfl | ⟨rfl, hkI⟩
     · have HD := hid (show false = msgB m by rw [HM.out, ← Bool.and_assoc, ← HT.out]; rfl)
       go_wp2_with fail
       go_loop [6, 8] (fun s i => s = .bool false ∧ i = .int .i64 0) (fun _ _ => 0)
       case atStart => exact ⟨rfl, rfl⟩
       case round =>
        obtain ⟨rfl, rfl⟩ := hrel
        go_wp2_with fail
        go_ret
        exact ⟨Book.ret_b HD.out, BW.out⟩
     · go_wp2_with fail
       go_loopw [6, 8] (fun s i wr => ∃ j : Nat, j ≤ m.reply.use.length ∧ i = .int .i64 j ∧ s = .bool ((m.reply.use.take j).all useB) ∧ Hid (Below w.heap.size w wr) ∧ Hid (wr.heap[w2.heap.size]? = some (.cells (Y7 m.reply PA pc UA uc).toArray 46 (0, 0)))) (fun _ i _ => m.reply.use.length - (RowKit.intOf i).toNat)
       case atStart => exact ⟨0, Nat.zero_le _, rfl, by simp, BW, ZW⟩
       case round =>
        obtain ⟨j, hj, rfl, rfl, BU, ZU⟩ := hrel
        obtain ⟨s, hs⟩ : ∃ s, (m.reply.use.take j).all useB = s := ⟨_, rfl⟩
        have cZ6 := box_cell ZU.out 6 rfl
        by_cases hgo : s = true ∧ j < m.reply.use.length
        · obtain ⟨rfl, hlt⟩ := hgo
          have hjI : (j : Int) < (m.reply.use.length : Int) := by omega
          obtain ⟨ad, hUA, hab, hcc⟩ := (H.out.reply.use.below BU.out).at hlt
          have HST := hid (show (m.reply.use.take (j + 1)).all useB = useB m.reply.use[j] by rw [List.take_succ_eq_append_getElem hlt, List.all_append, hs]; simp); obtain ⟨q, hq⟩ : ∃ q, m.reply.use[j] = q := ⟨_, rfl⟩
          rw [hq] at HST hcc
          have HCC := hid hcc.all
          rw [hs]
          rw [hUA] at cZ6
          obtain ⟨b1, e1⟩ : ∃ b, inB q.1 0 1099511627776 = b := ⟨_, rfl⟩; obtain ⟨b2, e2⟩ : ∃ b, inB q.2.1 0 1099511627776 = b := ⟨_, rfl⟩; obtain ⟨b3, e3⟩ : ∃ b, inB q.2.2 0 1099511627776 = b := ⟨_, rfl⟩; have HUB := hid (show useB q = (b1 && b2 && b3) by unfold useB; rw [e1, e2, e3])
          have E1 := hid e1
          have E2 := hid e2
          have E3 := hid e3
          have hwl : w2.heap.size < wr.heap.size := lt_of_block ZU.out
          have hBA : Below wr.heap.size wr (((wr.alloc (.cells #[.int .i64 0, .int .i64 0, .int .i64 0] 70)).setCells wr.heap.size 0 [.int .i64 q.1, .int .i64 q.2.1, .int .i64 q.2.2])) := below_cells (Nat.le_refl _) _ 0 ((Below.refl _ _).alloc (Nat.le_refl _) _)
          have hq_ := heap_alloc_new wr (.cells #[.int .i64 0, .int .i64 0, .int .i64 0] 70)
          obtain ⟨w8, hw8⟩ : ∃ v, (wr.alloc (.cells #[.int .i64 0, .int .i64 0, .int .i64 0] 70)).setCells wr.heap.size 0 [.int .i64 q.1, .int .i64 q.2.1, .int .i64 q.2.2] = v := ⟨_, rfl⟩; have Q8 := hid (show w8.heap[wr.heap.size]? = some (.cells #[.int .i64 q.1, .int .i64 q.2.1, .int .i64 q.2.2] 70 (0, 0)) by rw [← hw8]; exact box_into hq_ 0 _ (over_3 _ _ _ _ _ _))
          rw [hw8] at hBA
          have B8 := hid (BU.out.trans (hBA.mono BU.out.size)); have Z8 := hid ((hBA.block w2.heap.size hwl).trans ZU.out); have THu := hid (show (wr.alloc (.cells #[.int .i64 0, .int .i64 0, .int .i64 0] 70)).there wr.heap.size 0 3 from box_there hq_ 0 3 (by decide)); have ONEu := hid (show (#[.int .i64 q.1, .int .i64 q.2.1, .int .i64 q.2.2] : Array Value).all (·.oneCell') = true by simp [Value.oneCell'])
          have HVu := hid hw8
          have cQ0 := box_cell Q8.out 0 rfl
          have cQ1 := box_cell Q8.out 1 rfl
          have cQ2 := box_cell Q8.out 2 rfl
          clear hs hq hcc hUA e1 e2 e3 hw8 hq_ hBA
          go_wp2_with (first | (refine wpList_load_addr rfl 70 _ rfl _ rfl [.int .i64 q.1, .int .i64 q.2.1, .int .i64 q.2.2] _ HCC.out Tryz.underlying70 rfl (by kernel_rfl) ?_) | (refine wpList_store_to rfl 70 _ _ rfl _ _ _ rfl rfl THu.out (by kernel_rfl) ONEu.out HVu.out ?_))
          refine (refwithin_any q.1 0 1099511627776 w8).mono ?_
          rintro e w9 ⟨rfl, rfl⟩; rw [E1.out]
          cases b1 with
          | false =>
           go_wp2_with fail
           go_roundw
           case rel => exact ⟨j + 1, by omega, by go_num, by rw [HST.out, HUB.out]; rfl, B8.out, Z8.out⟩
           case measure => simp [RowKit.intOf]; omega
          | true =>
           go_wp2_with fail
           refine (refwithin_any q.2.1 0 1099511627776 w8).mono ?_
           rintro e w9 ⟨rfl, rfl⟩; rw [E2.out]
           cases b2 with
           | false =>
            go_wp2_with fail
            go_roundw
            case rel => exact ⟨j + 1, by omega, by go_num, by rw [HST.out, HUB.out]; rfl, B8.out, Z8.out⟩
            case measure => simp [RowKit.intOf]; omega
           | true =>
            go_wp2_with fail
            refine (refwithin_any q.2.2 0 1099511627776 w8).mono ?_
            rintro e w9 ⟨rfl, rfl⟩; rw [E3.out]; go_wp2_with fail
            go_roundw
            case rel => exact ⟨j + 1, by omega, by go_num, by rw [HST.out, HUB.out]; simp, B8.out, Z8.out⟩
            case measure => simp [RowKit.intOf]; omega
        · have HS := hid (show s = m.reply.use.all useB from all_end hs hj hgo)
          have HD := hid (show s = msgB m by rw [HM.out, ← Bool.and_assoc, ← HT.out, HS.out]; rfl)
          have hgo' : s = false ∨ (s = true ∧ ¬ (j : Int) < (m.reply.use.length : Int)) := by
           cases s
           · exact .inl rfl
           · exact .inr ⟨rfl, fun h => hgo ⟨rfl, by omega⟩⟩
          rw [hs]; clear hs hgo HS
          rcases hgo' with rfl | ⟨rfl, hjI⟩
          all_goals
           go_wp2_with fail
           go_ret
           exact ⟨Book.ret_b HD.out, BU.out⟩
end Tl
end Go.Proofs.YtljbpelogjmciaaGreatDoor
namespace Go.Proofs.YtljbpelogjmciaaGreatDoor
open Go.ChangeShapes Go.WideShapes Go.ChangeAt Go.RowKit Go.Lib
namespace Tl
theorem run_buildPod (c0 c1 c2 c3 c4 c5 c6 c7 c8 c9 c10 c11 c12 : Value) (w : World) : (Instr.buildSlice 43 1 #[(0, .agg #[c0, c1, c2, c3, c4, c5, c6, c7, c8, c9, c10, c11, c12])]).run Tryz.prog w = .ok (.slice (some ⟨w.heap.size, 0, none⟩) 1 1) (w.alloc (.cells #[c0, c1, c2, c3, c4, c5, c6, c7, c8, c9, c10, c11, c12] 42)) := by
 obtain ⟨ie, hie, hz, hs, _⟩ := info_parts info_pod
 refine run_buildSlice w _ _ 1 _ _ ie _ Tryz.underlying43 hie hz (by rw [hs]; decide) (by rw [hs]; decide) ?_
 rw [hs]
 rw [show (Array.range (1 * 13)).map ((Value.agg Z13.toArray).cells[· % (Value.agg Z13.toArray).cells.size]!) = Z13.toArray from by kernel_rfl]
 simp [Instr.fill, Value.cells]
theorem wpList_buildPod {ops : Array Oper} {rest : List Oper} {op : Oper} {a : Act} {w v : World} {Q : Exit → Act → World → Prop} (hgd : op.guard = none) (x : Operand) (ho : op.op = .buildSlice 43 1 #[(0, x)]) (c0 c1 c2 c3 c4 c5 c6 c7 c8 c9 c10 c11 c12 : Value) (hx : a.eval x = .agg #[c0, c1, c2, c3, c4, c5, c6, c7, c8, c9, c10, c11, c12]) (hv : w.alloc (.cells #[c0, c1, c2, c3, c4, c5, c6, c7, c8, c9, c10, c11, c12] 42) = v)
 (h : wpList Tryz.prog ops Q rest (a.put op.dst (.slice (some ⟨w.heap.size, 0, none⟩) 1 1)) v) : wpList Tryz.prog ops Q (op :: rest) a w := by
 refine wpList_plain hgd fun K hK => ?_
 have hrun := run_buildPod c0 c1 c2 c3 c4 c5 c6 c7 c8 c9 c10 c11 c12 w
 subst hv
 unfold Oper.wp
 simp [execOp, ho, hx, hrun, Result.andThen]
 exact hK _ _ h
end Tl
end Go.Proofs.YtljbpelogjmciaaGreatDoor
namespace Go.Proofs.YtljbpelogjmciaaGreatDoor
open Go.ChangeShapes Go.WideShapes Go.ChangeAt Go.RowKit Go.Lib
open LebMath WirePure Sd Wire SpecOwn SpecRef Book Pk
namespace Tl
end Tl
end Go.Proofs.YtljbpelogjmciaaGreatDoor
