/-
 The contract of provostbook.SameCall for any two calls: are they the same. All that was there is left as it was. No condition.
-/
import Derived.Test.YtakdhkhcndeiiaaGreatDoorAskSame
set_option linter.unusedVariables false
set_option linter.unusedSimpArgs false
namespace Go.Proofs.YtakdhkhcndeiiaaGreatDoor
open Go.ChangeShapes Go.WideShapes Go.ChangeAt Go.RowKit Go.Lib
open LebMath WirePure Sd Wire SpecOwn SpecRef Book Pk
namespace Ak

def sameCB (c d : Cal) : Bool := (c.kind == d.kind) && (c.uid == d.uid) && ((c.rev : Int) == (d.rev : Int)) && sameS c.spec d.spec && (c.grace == d.grace) && (c.ctr == d.ctr) && (c.id == d.id) && (c.most == d.most) && (c.data.toList == d.data.toList) && sameLs c.sel d.sel
theorem sameCB_iff (c d : Cal) : sameCB c d = true ↔ c = d := by
 unfold sameCB
 simp only [Bool.and_eq_true, beq_iff_eq, sameS_iff, sameLs_iff, text_eq, Int.ofNat_inj]
 constructor
 · rintro ⟨⟨⟨⟨⟨⟨⟨⟨⟨h0, h1⟩, h2⟩, h3⟩, h4⟩, h5⟩, h6⟩, h7⟩, h8⟩, h9⟩
   obtain ⟨a0, a1, a2, a3, a4, a5, a6, a7, a8, a9⟩ := c
   obtain ⟨e0, e1, e2, e3, e4, e5, e6, e7, e8, e9⟩ := d
   simp only at h0 h1 h2 h3 h4 h5 h6 h7 h8 h9
   subst h0 h1 h2 h3 h4 h5 h6 h7 h8 h9
   rfl
 · rintro rfl
   simp
set_option maxRecDepth 100000 in
set_option maxHeartbeats 4000000 in
theorem sameC_any (c d : Cal) (LA : Option Addr) (lc : Nat) (IA : Option Addr) (ic : Nat) (MA : Option Addr) (mc : Nat) (SA : Option Addr) (sc : Nat) (LAx : Option Addr) (lcx : Nat) (IAx : Option Addr) (icx : Nat) (MAx : Option Addr) (mcx : Nat) (SAx : Option Addr) (scx : Nat) (w : World) (h : c.In w LA lc IA ic MA mc SA) (hx : d.In w LAx lcx IAx icx MAx mcx SAx) :
 Calls Tryz.prog 28 #[.agg #[.int .i64 c.kind, .int .i64 c.uid, .int .u64 c.rev, .string c.spec.name, .slice LA c.spec.labels.length lc, .slice IA c.spec.init.length ic, .slice MA c.spec.main.length mc, .int .i64 c.spec.restart, .int .i64 c.spec.grace, .int .i64 c.spec.prio, .int .i64 c.grace, .int .i64 c.ctr, .int .i64 c.id, .int .i64 c.most, .string c.data, .slice SA c.sel.length sc], .agg #[.int .i64 d.kind, .int .i64 d.uid, .int .u64 d.rev, .string d.spec.name, .slice LAx d.spec.labels.length lcx, .slice IAx d.spec.init.length icx, .slice MAx d.spec.main.length mcx, .int .i64 d.spec.restart, .int .i64 d.spec.grace, .int .i64 d.spec.prio, .int .i64 d.grace, .int .i64 d.ctr, .int .i64 d.id, .int .i64 d.most, .string d.data, .slice SAx d.sel.length scx]] w fun e w' => e = .returned (.bool (sameCB c d)) ∧ Below w.heap.size w w' := by
 have H := Lib.hid h
 have HX := Lib.hid hx
 clear h hx
 obtain ⟨b0, e0⟩ : ∃ b : Bool, (c.kind == d.kind) = b := ⟨_, rfl⟩
 obtain ⟨b1, e1⟩ : ∃ b : Bool, (c.uid == d.uid) = b := ⟨_, rfl⟩
 obtain ⟨b2, e2⟩ : ∃ b : Bool, ((c.rev : Int) == (d.rev : Int)) = b := ⟨_, rfl⟩
 obtain ⟨b3, e3⟩ : ∃ b : Bool, sameS c.spec d.spec = b := ⟨_, rfl⟩
 obtain ⟨b4, e4⟩ : ∃ b : Bool, (c.grace == d.grace) = b := ⟨_, rfl⟩
 obtain ⟨b5, e5⟩ : ∃ b : Bool, (c.ctr == d.ctr) = b := ⟨_, rfl⟩
 obtain ⟨b6, e6⟩ : ∃ b : Bool, (c.id == d.id) = b := ⟨_, rfl⟩
 obtain ⟨b7, e7⟩ : ∃ b : Bool, (c.most == d.most) = b := ⟨_, rfl⟩
 obtain ⟨b8, e8⟩ : ∃ b : Bool, (c.data.toList == d.data.toList) = b := ⟨_, rfl⟩
 obtain ⟨b9, e9⟩ : ∃ b : Bool, sameLs c.sel d.sel = b := ⟨_, rfl⟩
 have HR := Lib.hid (show (b0 && b1 && b2 && b3 && b4 && b5 && b6 && b7 && b8 && b9) = sameCB c d by rw [← e0, ← e1, ← e2, ← e3, ← e4, ← e5, ← e6, ← e7, ← e8, ← e9]; rfl)
 have E3 := Lib.hid e3
 clear e3
 have E9 := Lib.hid e9
 clear e9
 obtain ⟨w2, hw2⟩ : ∃ v, (w.alloc (.cells #[.int .i64 c.kind, .int .i64 c.uid, .int .u64 c.rev, .string c.spec.name, .slice LA c.spec.labels.length lc, .slice IA c.spec.init.length ic, .slice MA c.spec.main.length mc, .int .i64 c.spec.restart, .int .i64 c.spec.grace, .int .i64 c.spec.prio, .int .i64 c.grace, .int .i64 c.ctr, .int .i64 c.id, .int .i64 c.most, .string c.data, .slice SA c.sel.length sc] 41)).alloc (.cells #[.int .i64 d.kind, .int .i64 d.uid, .int .u64 d.rev, .string d.spec.name, .slice LAx d.spec.labels.length lcx, .slice IAx d.spec.init.length icx, .slice MAx d.spec.main.length mcx, .int .i64 d.spec.restart, .int .i64 d.spec.grace, .int .i64 d.spec.prio, .int .i64 d.grace, .int .i64 d.ctr, .int .i64 d.id, .int .i64 d.most, .string d.data, .slice SAx d.sel.length scx] 41) = v := ⟨_, rfl⟩
 have hx : Below w.heap.size w w2 ∧ w2.heap[w.heap.size]? = some (.cells #[.int .i64 c.kind, .int .i64 c.uid, .int .u64 c.rev, .string c.spec.name, .slice LA c.spec.labels.length lc, .slice IA c.spec.init.length ic, .slice MA c.spec.main.length mc, .int .i64 c.spec.restart, .int .i64 c.spec.grace, .int .i64 c.spec.prio, .int .i64 c.grace, .int .i64 c.ctr, .int .i64 c.id, .int .i64 c.most, .string c.data, .slice SA c.sel.length sc] 41) ∧ w2.heap[w.heap.size + 1]? = some (.cells #[.int .i64 d.kind, .int .i64 d.uid, .int .u64 d.rev, .string d.spec.name, .slice LAx d.spec.labels.length lcx, .slice IAx d.spec.init.length icx, .slice MAx d.spec.main.length mcx, .int .i64 d.spec.restart, .int .i64 d.spec.grace, .int .i64 d.spec.prio, .int .i64 d.grace, .int .i64 d.ctr, .int .i64 d.id, .int .i64 d.most, .string d.data, .slice SAx d.sel.length scx] 41) := by
  subst hw2
  have a1 := heap_alloc_new w (.cells #[.int .i64 c.kind, .int .i64 c.uid, .int .u64 c.rev, .string c.spec.name, .slice LA c.spec.labels.length lc, .slice IA c.spec.init.length ic, .slice MA c.spec.main.length mc, .int .i64 c.spec.restart, .int .i64 c.spec.grace, .int .i64 c.spec.prio, .int .i64 c.grace, .int .i64 c.ctr, .int .i64 c.id, .int .i64 c.most, .string c.data, .slice SA c.sel.length sc] 41)
  have a2 := heap_alloc_new (w.alloc (.cells #[.int .i64 c.kind, .int .i64 c.uid, .int .u64 c.rev, .string c.spec.name, .slice LA c.spec.labels.length lc, .slice IA c.spec.init.length ic, .slice MA c.spec.main.length mc, .int .i64 c.spec.restart, .int .i64 c.spec.grace, .int .i64 c.spec.prio, .int .i64 c.grace, .int .i64 c.ctr, .int .i64 c.id, .int .i64 c.most, .string c.data, .slice SA c.sel.length sc] 41)) (.cells #[.int .i64 d.kind, .int .i64 d.uid, .int .u64 d.rev, .string d.spec.name, .slice LAx d.spec.labels.length lcx, .slice IAx d.spec.init.length icx, .slice MAx d.spec.main.length mcx, .int .i64 d.spec.restart, .int .i64 d.spec.grace, .int .i64 d.spec.prio, .int .i64 d.grace, .int .i64 d.ctr, .int .i64 d.id, .int .i64 d.most, .string d.data, .slice SAx d.sel.length scx] 41)
  have s1 : (w.alloc (.cells #[.int .i64 c.kind, .int .i64 c.uid, .int .u64 c.rev, .string c.spec.name, .slice LA c.spec.labels.length lc, .slice IA c.spec.init.length ic, .slice MA c.spec.main.length mc, .int .i64 c.spec.restart, .int .i64 c.spec.grace, .int .i64 c.spec.prio, .int .i64 c.grace, .int .i64 c.ctr, .int .i64 c.id, .int .i64 c.most, .string c.data, .slice SA c.sel.length sc] 41)).heap.size = w.heap.size + 1 := by simp
  have k2 := ((Below.refl (w.heap.size + 1) (w.alloc (.cells #[.int .i64 c.kind, .int .i64 c.uid, .int .u64 c.rev, .string c.spec.name, .slice LA c.spec.labels.length lc, .slice IA c.spec.init.length ic, .slice MA c.spec.main.length mc, .int .i64 c.spec.restart, .int .i64 c.spec.grace, .int .i64 c.spec.prio, .int .i64 c.grace, .int .i64 c.ctr, .int .i64 c.id, .int .i64 c.most, .string c.data, .slice SA c.sel.length sc] 41))).alloc (by omega) (.cells #[.int .i64 d.kind, .int .i64 d.uid, .int .u64 d.rev, .string d.spec.name, .slice LAx d.spec.labels.length lcx, .slice IAx d.spec.init.length icx, .slice MAx d.spec.main.length mcx, .int .i64 d.spec.restart, .int .i64 d.spec.grace, .int .i64 d.spec.prio, .int .i64 d.grace, .int .i64 d.ctr, .int .i64 d.id, .int .i64 d.most, .string d.data, .slice SAx d.sel.length scx] 41)).block
  rw [s1] at a2
  exact ⟨((Below.refl _ _).alloc (Nat.le_refl _) _).alloc (by omega) _, (k2 _ (by omega)).trans a1, a2⟩
 have B2 := Lib.hid hx.1
 have X2 := Lib.hid hx.2.1
 have Y2 := Lib.hid hx.2.2
 clear hx
 have c0 := box_cell X2.out 0 rfl
 have c1 := box_cell X2.out 1 rfl
 have c2 := box_cell X2.out 2 rfl
 have c3 := box_cell X2.out 3 rfl
 have c4 := box_cell X2.out 4 rfl
 have c5 := box_cell X2.out 5 rfl
 have c6 := box_cell X2.out 6 rfl
 have c7 := box_cell X2.out 7 rfl
 have c8 := box_cell X2.out 8 rfl
 have c9 := box_cell X2.out 9 rfl
 have d0 := box_cell Y2.out 0 rfl
 have d1 := box_cell Y2.out 1 rfl
 have d2 := box_cell Y2.out 2 rfl
 have d3 := box_cell Y2.out 3 rfl
 have d4 := box_cell Y2.out 4 rfl
 have d5 := box_cell Y2.out 5 rfl
 have d6 := box_cell Y2.out 6 rfl
 have d7 := box_cell Y2.out 7 rfl
 have d8 := box_cell Y2.out 8 rfl
 have d9 := box_cell Y2.out 9 rfl
 go_enter Tryz.func28, Tryz.ntmps28
 cases b0 with
 | false =>
  have HD := Lib.hid (show false = sameCB c d from by have := HR.out; simpa using this)
  go_wp2
  go_ret
  exact ⟨Book.ret_b HD.out, B2.out⟩
 | true =>
  cases b1 with
  | false =>
   have HD := Lib.hid (show false = sameCB c d from by have := HR.out; simpa using this)
   go_wp2
   go_ret
   exact ⟨Book.ret_b HD.out, B2.out⟩
  | true =>
   cases b2 with
   | false =>
    have HD := Lib.hid (show false = sameCB c d from by have := HR.out; simpa using this)
    go_wp2
    go_ret
    exact ⟨Book.ret_b HD.out, B2.out⟩
   | true =>
    go_wp2_with fail
    refine (sameSpec_any c.spec LA lc IA ic MA mc d.spec LAx lcx IAx icx MAx mcx w2 (H.out.spec.below B2.out) (HX.out.spec.below B2.out)).mono ?_
    rintro e w3 ⟨rfl, hb3⟩
    have B3 := Lib.hid (B2.out.trans (hb3.mono B2.out.size))
    have X3 := Lib.hid ((hb3.block w.heap.size (lt_of_block X2.out)).trans X2.out)
    have Y3 := Lib.hid ((hb3.block (w.heap.size + 1) (lt_of_block Y2.out)).trans Y2.out)
    clear hb3 X2 Y2 hw2 c0 d0 c1 d1 c2 d2 c3 d3 c4 d4 c5 d5 c6 d6 c7 d7 c8 d8 c9 d9
    rw [E3.out]
    as_aux_lemma =>
     have c10 := box_cell X3.out 10 rfl
     have c11 := box_cell X3.out 11 rfl
     have c12 := box_cell X3.out 12 rfl
     have c13 := box_cell X3.out 13 rfl
     have c14 := box_cell X3.out 14 rfl
     have c15 := box_cell X3.out 15 rfl
     have d10 := box_cell Y3.out 10 rfl
     have d11 := box_cell Y3.out 11 rfl
     have d12 := box_cell Y3.out 12 rfl
     have d13 := box_cell Y3.out 13 rfl
     have d14 := box_cell Y3.out 14 rfl
     have d15 := box_cell Y3.out 15 rfl
     cases b3 with
     | false =>
      have HD := Lib.hid (show false = sameCB c d from by have := HR.out; simpa using this)
      go_wp2
      go_ret
      exact ⟨Book.ret_b HD.out, B3.out⟩
     | true =>
      cases b4 with
      | false =>
       have HD := Lib.hid (show false = sameCB c d from by have := HR.out; simpa using this)
       go_wp2
       go_ret
       exact ⟨Book.ret_b HD.out, B3.out⟩
      | true =>
       cases b5 with
       | false =>
        have HD := Lib.hid (show false = sameCB c d from by have := HR.out; simpa using this)
        go_wp2
        go_ret
        exact ⟨Book.ret_b HD.out, B3.out⟩
       | true =>
        cases b6 with
        | false =>
         have HD := Lib.hid (show false = sameCB c d from by have := HR.out; simpa using this)
         go_wp2
         go_ret
         exact ⟨Book.ret_b HD.out, B3.out⟩
        | true =>
         cases b7 with
         | false =>
          have HD := Lib.hid (show false = sameCB c d from by have := HR.out; simpa using this)
          go_wp2
          go_ret
          exact ⟨Book.ret_b HD.out, B3.out⟩
         | true =>
          cases b8 with
          | false =>
           have HD := Lib.hid (show false = sameCB c d from by have := HR.out; simpa using this)
           go_wp2
           go_ret
           exact ⟨Book.ret_b HD.out, B3.out⟩
          | true =>
           go_wp2_with fail
           refine (sameLabels_any SA sc c.sel SAx scx d.sel H.out.ns HX.out.ns w3 (H.out.sel.below B3.out) (HX.out.sel.below B3.out)).mono ?_
           rintro e w4 ⟨rfl, hb4⟩
           have B4 := Lib.hid (B3.out.trans (hb4.mono B3.out.size))
           have X4 := Lib.hid ((hb4.block w.heap.size (lt_of_block X3.out)).trans X3.out)
           have Y4 := Lib.hid ((hb4.block (w.heap.size + 1) (lt_of_block Y3.out)).trans Y3.out)
           clear hb4 X3 Y3 c10 d10 c11 d11 c12 d12 c13 d13 c14 d14 c15 d15
           rw [E9.out]
           have HD := Lib.hid (show b9 = sameCB c d from by have := HR.out; simpa using this)
           go_wp2
           go_ret
           exact ⟨Book.ret_b HD.out, B4.out⟩

theorem put_begin {c d : Cal} (hc : (checkC c).1 = 0) (hd : (checkC d).1 = 0) (rc : c.rev < 18446744073709551616) (rd : d.rev < 18446744073709551616) {r : List UInt8} (h : putC d = putC c ++ r) : c = d ∧ r = [] := by
 have h1 := call_back hc rc r
 have h2 := call_back hd rd []
 rw [List.append_nil, h, h1] at h2
 injection h2 with h3 h4
 injection h4 with _ h5
 exact ⟨h3, h5⟩
theorem put_same {c d : Cal} (hc : (checkC c).1 = 0) (hd : (checkC d).1 = 0) (rc : c.rev < 18446744073709551616) (rd : d.rev < 18446744073709551616) : putC c = putC d ↔ c = d :=
 ⟨fun h => (put_begin (r := []) hc hd rc rd (by rw [List.append_nil, h])).1, fun h => by rw [h]⟩
theorem put_long {c d : Cal} (hc : (checkC c).1 = 0) (hd : (checkC d).1 = 0) (rc : c.rev < 18446744073709551616) (rd : d.rev < 18446744073709551616) (hlt : (putC c).length < (putC d).length) : (putC d).take (putC c).length ≠ putC c := by
 intro h
 have h1 : putC d = putC c ++ (putC d).drop (putC c).length := by
  have := List.take_append_drop (putC c).length (putC d)
  rw [h] at this
  exact this.symm
 have h2 := (put_begin hc hd rc rd h1).2
 have h3 := congrArg List.length h2
 rw [List.length_drop] at h3
 simp at h3
 omega
end Ak
end Go.Proofs.YtakdhkhcndeiiaaGreatDoor
