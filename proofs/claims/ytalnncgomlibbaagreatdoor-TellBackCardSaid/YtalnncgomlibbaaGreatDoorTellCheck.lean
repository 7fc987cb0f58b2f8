/-
 The contracts of package tell's own tests: which pods, replies, events and messages may be. All that was there is left as it was. Condition: what is tested is not too much.
-/
import Derived.Test.YtalnncgomlibbaaGreatDoorTellData
import Derived.Test.YtalnncgomlibbaaGreatDoorSpecSameAll
import Derived.Test.YtalnncgomlibbaaGreatDoorSpecMine
set_option linter.unusedVariables false
set_option linter.unusedSimpArgs false
namespace Go.Proofs.YtalnncgomlibbaaGreatDoor
open Go.ChangeShapes Go.WideShapes Go.ChangeAt Go.RowKit Go.Lib
open LebMath WirePure Sd Wire SpecOwn SpecRef Book Pk
namespace Tl

structure LightP (p : Pd) : Prop where
 spec : Book.Light p.spec
 rs : p.rs.length ≤ 20
structure LightR (y : Rp) : Prop where
 data : y.data.size ≤ 300
 np : y.pods.length ≤ 20
 nu : y.use.length ≤ 20
 pods : ∀ p ∈ y.pods, LightP p
structure LightM (m : Mg) : Prop where
 reply : LightR m.reply
 pod : LightP m.event.pod
theorem text_empty (s : ByteArray) : s.toList.isEmpty = decide (s = ⟨#[]⟩) := by
 by_cases h : s = ⟨#[]⟩
 · subst h; rw [text_nil (show (⟨#[]⟩ : ByteArray).size = 0 from rfl)]; simp
 · rw [decide_eq_false h, text_some (fun h0 => h (ByteArray.ext (Array.eq_empty_of_size_eq_zero h0)))]
theorem len_zero (n : Nat) : ((n : Int) == 0) = decide (n = 0) := by
 by_cases h : n = 0
 · subst h; rfl
 · rw [decide_eq_false h, beq_eq_false_iff_ne]; omega
theorem len_eq (n m : Nat) : ((n : Int) == (m : Int)) = decide (n = m) := by
 by_cases h : n = m
 · subst h; simp
 · rw [decide_eq_false h, beq_eq_false_iff_ne]; omega
theorem le_32 (n : Nat) : decide ((n : Int) ≤ 32) = decide (n ≤ 32) := by
 have : ((n : Int) ≤ 32) ↔ n ≤ 32 := by omega
 simp only [this]
theorem le_16 (n : Nat) : decide ((n : Int) ≤ 16) = decide (n ≤ 16) := by
 have : ((n : Int) ≤ 16) ↔ n ≤ 16 := by omega
 simp only [this]
theorem le_4 (n : Nat) : decide ((n : Int) ≤ 4) = decide (n ≤ 4) := by
 have : ((n : Int) ≤ 4) ↔ n ≤ 4 := by omega
 simp only [this]
theorem rev_zero (n : Nat) : ((n : Int) == 0) = (n == 0) := by
 rw [len_zero]
 rfl
theorem zs_in (w : World) : zeroS.In w none 0 none 0 none 0 :=
 ⟨fun k x hk => by simp [zeroS] at hk, fun k x hk => by simp [zeroS] at hk, fun k x hk => by simp [zeroS] at hk, by simp [zeroS], by simp [zeroS], by simp [zeroS], by unfold I64 zeroS; decide, by unfold I64 zeroS; decide, by unfold I64 zeroS; decide⟩
theorem all_next {α : Type} (f : α → Bool) (l : List α) (k : Nat) (hk : k < l.length) (h : (l.take k).all f = true) : f l[k] = true → (l.take (k + 1)).all f = true := by
 intro h1
 rw [List.take_succ_eq_append_getElem hk, List.all_append, h]
 simp [h1]
theorem all_not {α : Type} (f : α → Bool) (l : List α) (k : Nat) (hk : k < l.length) : f l[k] = false → l.all f = false := by
 intro h1
 rw [List.all_eq_false]
 exact ⟨l[k], List.getElem_mem hk, by rw [h1]; decide⟩

theorem within_any (n a b : Int) (w : World) : Calls Tryz.prog 102 #[.int .i64 n, .int .i64 a, .int .i64 b] w fun e w' => e = .returned (.bool (inB n a b)) ∧ w = w' := by
 by_cases h1 : a ≤ n
 · by_cases h2 : n ≤ b
   · have HD := Lib.hid (show inB n a b = true from inB_iff.2 ⟨h1, h2⟩)
     go_enter Tryz.func102, Tryz.ntmps102
     go_wp2
     go_ret
     exact ⟨Book.ret_b HD.out.symm, rfl⟩
   · have HD := Lib.hid (show inB n a b = false by rw [Bool.eq_false_iff]; exact fun h => h2 (inB_iff.1 h).2)
     go_enter Tryz.func102, Tryz.ntmps102
     go_wp2
     go_ret
     exact ⟨Book.ret_b HD.out.symm, rfl⟩
 · have HD := Lib.hid (show inB n a b = false by rw [Bool.eq_false_iff]; exact fun h => h1 (inB_iff.1 h).1)
   go_enter Tryz.func102, Tryz.ntmps102
   go_wp2
   go_ret
   exact ⟨Book.ret_b HD.out.symm, rfl⟩
theorem restB_any (n : Int) (w : World) : Calls Tryz.prog 104 #[.int .i64 n] w fun e w' => e = .returned (.bool (restB n)) ∧ w = w' := by
 go_enter Tryz.func104, Tryz.ntmps104
 go_wp2_with fail
 refine (within_any n 0 1073741824 w).mono ?_
 rintro e w1 ⟨rfl, rfl⟩
 go_wp2
 go_ret
 exact ⟨rfl, rfl⟩
theorem shape_any (b : Bool) (w : World) : Calls Tryz.prog 54 #[.bool b] w fun e w' => e = .returned (.int .i64 (bif b then 0 else 4)) ∧ w = w' := by
 cases b <;>
 · go_enter Tryz.func54, Tryz.ntmps54
   go_wp2
   go_ret
   exact ⟨rfl, rfl⟩
theorem hasB_any (k : Int) (w : World) : Calls Tryz.prog 116 #[.int .i64 k] w fun e w' => e = .returned (.bool (hasB k)) ∧ w = w' := by
 by_cases h1 : k = 1
 · subst h1
   go_enter Tryz.func116, Tryz.ntmps116
   go_wp2
   go_ret
   exact ⟨rfl, rfl⟩
 by_cases h2 : k = 2
 · subst h2
   go_enter Tryz.func116, Tryz.ntmps116
   go_wp2
   go_ret
   exact ⟨rfl, rfl⟩
 by_cases h3 : k = 3
 · subst h3
   go_enter Tryz.func116, Tryz.ntmps116
   go_wp2
   go_ret
   exact ⟨rfl, rfl⟩
 have HD := Lib.hid (show hasB k = false by rw [Bool.eq_false_iff]; intro h; have := inB_iff.1 h; omega)
 have q1 : (k == 1) = false := by rw [beq_eq_false_iff_ne]; exact h1
 have q2 : (k == 2) = false := by rw [beq_eq_false_iff_ne]; exact h2
 have q3 : (k == 3) = false := by rw [beq_eq_false_iff_ne]; exact h3
 clear h1 h2 h3
 go_enter Tryz.func116, Tryz.ntmps116
 go_wp2
 go_ret
 exact ⟨Book.ret_b HD.out.symm, rfl⟩
theorem noneB_any (k : Int) (w : World) : Calls Tryz.prog 156 #[.int .i64 k] w fun e w' => e = .returned (.bool (noneB k)) ∧ w = w' := by
 by_cases h1 : k = 4
 · subst h1
   go_enter Tryz.func156, Tryz.ntmps156
   go_wp2
   go_ret
   exact ⟨rfl, rfl⟩
 by_cases h2 : k = 5
 · subst h2
   go_enter Tryz.func156, Tryz.ntmps156
   go_wp2
   go_ret
   exact ⟨rfl, rfl⟩
 have HD := Lib.hid (show noneB k = false by rw [Bool.eq_false_iff]; intro h; have := inB_iff.1 h; omega)
 have q1 : (k == 4) = false := by rw [beq_eq_false_iff_ne]; exact h1
 have q2 : (k == 5) = false := by rw [beq_eq_false_iff_ne]; exact h2
 clear h1 h2
 go_enter Tryz.func156, Tryz.ntmps156
 go_wp2
 go_ret
 exact ⟨Book.ret_b HD.out.symm, rfl⟩
set_option maxRecDepth 100000 in
theorem all_rests (A : Option Addr) (cap : Nat) (l : List Int) (hn : l.length ≤ 100) (w : World) (h : Lists.Nums .i64 w A l) :
 Calls Tryz.prog 103 #[.slice A l.length cap, .func (.func 104) #[] #[]] w fun e w' => e = .returned (.bool (l.all restB)) ∧ w = w' := by
 have H := Lib.hid h
 have hn' : (l.length : Int) ≤ 100 := by omega
 clear h hn
 go_enter Tryz.func103, Tryz.ntmps103
 go_wp2
 go_loop [9] (fun i => ∃ k : Nat, k ≤ l.length ∧ i = .int .i64 k ∧ Hid ((l.take k).all restB = true)) (fun i => l.length - (RowKit.intOf i).toNat)
 case atStart => exact ⟨0, Nat.zero_le _, rfl, by rfl⟩
 case round =>
  obtain ⟨k, hk, rfl, HF⟩ := hrel
  by_cases hlt : k < l.length
  · obtain ⟨_, a, rfl, ha, hc⟩ := H.out.at hlt
    have hka : (k : Int) < (l.length : Int) := by omega
    have HN := Lib.hid (all_next restB l k hlt HF.out)
    have HNO := Lib.hid (all_not restB l k hlt)
    obtain ⟨x, ex⟩ : ∃ x, l[k] = x := ⟨_, rfl⟩
    rw [ex] at hc HN HNO
    clear ha ex HF
    go_wp2_with fail
    refine (restB_any x w).mono ?_
    rintro e w1 ⟨rfl, rfl⟩
    cases hm : restB x with
    | true =>
     have HT := Lib.hid (HN.out hm)
     clear hm HN HNO
     go_wp2
     go_round
     case rel => exact ⟨k + 1, by omega, by go_num, HT.out⟩
     case measure => simp [RowKit.intOf]; omega
    | false =>
     have HD := Lib.hid (HNO.out hm)
     clear hm HN HNO
     go_wp2
     go_ret
     exact ⟨Book.ret_b HD.out.symm, rfl⟩
  · have hka : ¬ (k : Int) < (l.length : Int) := by omega
    have HD := Lib.hid (show l.all restB = true by have := HF.out; rwa [List.take_of_length_le (by omega)] at this)
    clear HF
    go_wp2
    go_ret
    exact ⟨Book.ret_b HD.out.symm, rfl⟩
set_option maxRecDepth 100000 in
set_option maxHeartbeats 4000000 in
theorem useB_any (u : Int × Int × Int) (w : World)  :
 Calls Tryz.prog 155 #[.agg #[.int .i64 u.1, .int .i64 u.2.1, .int .i64 u.2.2]] w fun e w' => e = .returned (.bool (useB u)) ∧ Below w.heap.size w w' := by
 skip
 obtain ⟨b0, e0⟩ : ∃ b : Bool, inB u.1 0 1099511627776 = b := ⟨_, rfl⟩
 obtain ⟨b1, e1⟩ : ∃ b : Bool, inB u.2.1 0 1099511627776 = b := ⟨_, rfl⟩
 obtain ⟨b2, e2⟩ : ∃ b : Bool, inB u.2.2 0 1099511627776 = b := ⟨_, rfl⟩
 have HR := Lib.hid (show (b0 && b1 && b2) = useB u by rw [← e0, ← e1, ← e2]; (try simp only [text_empty, len_zero, le_32, le_16, le_4, len_eq, rev_zero]); rfl)
 have E0 := Lib.hid e0
 clear e0
 have E1 := Lib.hid e1
 clear e1
 have E2 := Lib.hid e2
 clear e2
 obtain ⟨w2, hw2⟩ : ∃ v, w.alloc (.cells #[.int .i64 u.1, .int .i64 u.2.1, .int .i64 u.2.2] 70) = v := ⟨_, rfl⟩
 have B2 := Lib.hid (show Below w.heap.size w w2 by rw [← hw2]; exact (Below.refl _ _).alloc (Nat.le_refl _) _)
 have X2 := Lib.hid (show w2.heap[w.heap.size]? = some (.cells #[.int .i64 u.1, .int .i64 u.2.1, .int .i64 u.2.2] 70) by rw [← hw2]; exact heap_alloc_new w _)
 have c0 := box_cell X2.out 0 rfl
 have c1 := box_cell X2.out 1 rfl
 have c2 := box_cell X2.out 2 rfl
 go_enter Tryz.func155, Tryz.ntmps155
 go_wp2_with fail
 refine (within_any u.1 0 1099511627776 w2).mono ?_
 rintro e w3 ⟨rfl, rfl⟩
 rw [E0.out]
 cases b0 with
 | false =>
  have HD := Lib.hid (show false = useB u from by have := HR.out; simpa using this)
  go_wp2
  go_ret
  exact ⟨Book.ret_b HD.out, B2.out⟩
 | true =>
  go_wp2_with fail
  refine (within_any u.2.1 0 1099511627776 w2).mono ?_
  rintro e w3 ⟨rfl, rfl⟩
  rw [E1.out]
  cases b1 with
  | false =>
   have HD := Lib.hid (show false = useB u from by have := HR.out; simpa using this)
   go_wp2
   go_ret
   exact ⟨Book.ret_b HD.out, B2.out⟩
  | true =>
   go_wp2_with fail
   refine (within_any u.2.2 0 1099511627776 w2).mono ?_
   rintro e w3 ⟨rfl, rfl⟩
   rw [E2.out]
   have HD := Lib.hid (show b2 = useB u from by have := HR.out; simpa using this)
   go_wp2
   go_ret
   exact ⟨Book.ret_b HD.out, B2.out⟩

set_option maxRecDepth 100000 in
set_option maxHeartbeats 4000000 in
theorem podB_any (p : Pd) (LA : Option Addr) (lc : Nat) (IA : Option Addr) (ic : Nat) (MA : Option Addr) (mc : Nat) (RA : Option Addr) (rc : Nat) (w : World) (hLt : LightP p) (hL : SLaid w) (h : p.In w LA lc IA ic MA mc RA) :
 Calls Tryz.prog 55 #[.agg #[.int .i64 p.uid, .int .u64 p.rev, .string p.spec.name, .slice LA p.spec.labels.length lc, .slice IA p.spec.init.length ic, .slice MA p.spec.main.length mc, .int .i64 p.spec.restart, .int .i64 p.spec.grace, .int .i64 p.spec.prio, .int .i64 p.phase, .slice RA p.rs.length rc, .int .i64 p.mark, .int .i64 p.grace]] w fun e w' => e = .returned (.bool (podB p)) ∧ Below w.heap.size w w' := by
 have HLT := Lib.hid hLt
 have HL := Lib.hid hL
 have H := Lib.hid h
 clear hLt hL h
 obtain ⟨b0, e0⟩ : ∃ b : Bool, inB p.uid 1 1073741824 = b := ⟨_, rfl⟩
 obtain ⟨b1, e1⟩ : ∃ b : Bool, decide ((checkV p.spec).1 = 0) = b := ⟨_, rfl⟩
 obtain ⟨b2, e2⟩ : ∃ b : Bool, inB p.phase 1 4 = b := ⟨_, rfl⟩
 obtain ⟨b3, e3⟩ : ∃ b : Bool, ((p.rs.length : Int) == (p.spec.main.length : Int)) = b := ⟨_, rfl⟩
 obtain ⟨b4, e4⟩ : ∃ b : Bool, p.rs.all restB = b := ⟨_, rfl⟩
 obtain ⟨b5, e5⟩ : ∃ b : Bool, inB p.mark 0 2 = b := ⟨_, rfl⟩
 obtain ⟨b6, e6⟩ : ∃ b : Bool, inB p.grace 0 1000 = b := ⟨_, rfl⟩
 have HR := Lib.hid (show (b0 && b1 && b2 && b3 && b4 && b5 && b6) = podB p by rw [← e0, ← e1, ← e2, ← e3, ← e4, ← e5, ← e6]; (try simp only [text_empty, len_zero, le_32, le_16, le_4, len_eq, rev_zero]); rfl)
 have E0 := Lib.hid e0
 clear e0
 have E1 := Lib.hid e1
 clear e1
 have E2 := Lib.hid e2
 clear e2
 have E4 := Lib.hid e4
 clear e4
 have E5 := Lib.hid e5
 clear e5
 have E6 := Lib.hid e6
 clear e6
 obtain ⟨w2, hw2⟩ : ∃ v, w.alloc (.cells #[.int .i64 p.uid, .int .u64 p.rev, .string p.spec.name, .slice LA p.spec.labels.length lc, .slice IA p.spec.init.length ic, .slice MA p.spec.main.length mc, .int .i64 p.spec.restart, .int .i64 p.spec.grace, .int .i64 p.spec.prio, .int .i64 p.phase, .slice RA p.rs.length rc, .int .i64 p.mark, .int .i64 p.grace] 42) = v := ⟨_, rfl⟩
 have B2 := Lib.hid (show Below w.heap.size w w2 by rw [← hw2]; exact (Below.refl _ _).alloc (Nat.le_refl _) _)
 have X2 := Lib.hid (show w2.heap[w.heap.size]? = some (.cells #[.int .i64 p.uid, .int .u64 p.rev, .string p.spec.name, .slice LA p.spec.labels.length lc, .slice IA p.spec.init.length ic, .slice MA p.spec.main.length mc, .int .i64 p.spec.restart, .int .i64 p.spec.grace, .int .i64 p.spec.prio, .int .i64 p.phase, .slice RA p.rs.length rc, .int .i64 p.mark, .int .i64 p.grace] 42) by rw [← hw2]; exact heap_alloc_new w _)
 have c0 := box_cell X2.out 0 rfl
 have c2 := box_cell X2.out 2 rfl
 have c3 := box_cell X2.out 3 rfl
 have c4 := box_cell X2.out 4 rfl
 have c5 := box_cell X2.out 5 rfl
 have c6 := box_cell X2.out 6 rfl
 have c7 := box_cell X2.out 7 rfl
 have c8 := box_cell X2.out 8 rfl
 go_enter Tryz.func55, Tryz.ntmps55
 go_wp2_with fail
 refine (within_any p.uid 1 1073741824 w2).mono ?_
 rintro e w3 ⟨rfl, rfl⟩
 rw [E0.out]
 cases b0 with
 | false =>
  have HD := Lib.hid (show false = podB p from by have := HR.out; simpa using this)
  go_wp2
  go_ret
  exact ⟨Book.ret_b HD.out, B2.out⟩
 | true =>
  go_wp2_with fail
  refine (check_any p.spec LA lc IA ic MA mc HLT.out.spec w2 (HL.out.below B2.out) (H.out.spec.below B2.out)).mono ?_
  rintro e w3 ⟨E, rfl, hE, hb3⟩
  have B3 := Lib.hid (B2.out.trans (hb3.mono B2.out.size))
  have X3 := Lib.hid ((hb3.block w.heap.size (lt_of_block X2.out)).trans X2.out)
  clear hb3 X2 hw2 c0 c2 c3 c4 c5 c6 c7 c8
  rcases hE.form with rfl | ⟨eu, ex, rfl⟩
  rotate_left
  · obtain rfl : b1 = false := by
     rw [← E1.out]
     exact decide_eq_false (fun h => by have := hE.nil_iff.2 h; cases this)
    clear hE E1
    have HD := Lib.hid (show false = podB p from by have := HR.out; simpa using this)
    go_wp2
    go_ret
    exact ⟨Book.ret_b HD.out, B3.out⟩
  obtain rfl : b1 = true := by
   rw [← E1.out]
   exact decide_eq_true (hE.nil_iff.1 rfl)
  clear hE E1
  as_aux_lemma =>
   have c5 := box_cell X3.out 5 rfl
   have c9 := box_cell X3.out 9 rfl
   have c10 := box_cell X3.out 10 rfl
   have c11 := box_cell X3.out 11 rfl
   have c12 := box_cell X3.out 12 rfl
   go_wp2_with fail
   refine (within_any p.phase 1 4 w3).mono ?_
   rintro e w4 ⟨rfl, rfl⟩
   rw [E2.out]
   cases b2 with
   | false =>
    have HD := Lib.hid (show false = podB p from by have := HR.out; simpa using this)
    go_wp2
    go_ret
    exact ⟨Book.ret_b HD.out, B3.out⟩
   | true =>
    cases b3 with
    | false =>
     have HD := Lib.hid (show false = podB p from by have := HR.out; simpa using this)
     go_wp2
     go_ret
     exact ⟨Book.ret_b HD.out, B3.out⟩
    | true =>
     go_wp2_with fail
     refine (all_rests RA rc p.rs (by have := HLT.out.rs; omega) w3 (Sd.Nums.below H.out.rs B3.out)).mono ?_
     rintro e w4 ⟨rfl, rfl⟩
     rw [E4.out]
     cases b4 with
     | false =>
      have HD := Lib.hid (show false = podB p from by have := HR.out; simpa using this)
      go_wp2
      go_ret
      exact ⟨Book.ret_b HD.out, B3.out⟩
     | true =>
      go_wp2_with fail
      refine (within_any p.mark 0 2 w3).mono ?_
      rintro e w4 ⟨rfl, rfl⟩
      rw [E5.out]
      cases b5 with
      | false =>
       have HD := Lib.hid (show false = podB p from by have := HR.out; simpa using this)
       go_wp2
       go_ret
       exact ⟨Book.ret_b HD.out, B3.out⟩
      | true =>
       go_wp2_with fail
       refine (within_any p.grace 0 1000 w3).mono ?_
       rintro e w4 ⟨rfl, rfl⟩
       rw [E6.out]
       have HD := Lib.hid (show b6 = podB p from by have := HR.out; simpa using this)
       go_wp2
       go_ret
       exact ⟨Book.ret_b HD.out, B3.out⟩

set_option maxRecDepth 100000 in
set_option maxHeartbeats 4000000 in
theorem noPodB_any (p : Pd) (LA : Option Addr) (lc : Nat) (IA : Option Addr) (ic : Nat) (MA : Option Addr) (mc : Nat) (RA : Option Addr) (rc : Nat) (w : World) (h : p.In w LA lc IA ic MA mc RA) :
 Calls Tryz.prog 152 #[.agg #[.int .i64 p.uid, .int .u64 p.rev, .string p.spec.name, .slice LA p.spec.labels.length lc, .slice IA p.spec.init.length ic, .slice MA p.spec.main.length mc, .int .i64 p.spec.restart, .int .i64 p.spec.grace, .int .i64 p.spec.prio, .int .i64 p.phase, .slice RA p.rs.length rc, .int .i64 p.mark, .int .i64 p.grace]] w fun e w' => e = .returned (.bool (noPodB p)) ∧ Below w.heap.size w w' := by
 have H := Lib.hid h
 clear h
 obtain ⟨b0, e0⟩ : ∃ b : Bool, (p.uid == 0) = b := ⟨_, rfl⟩
 obtain ⟨b1, e1⟩ : ∃ b : Bool, ((p.rev : Int) == 0) = b := ⟨_, rfl⟩
 obtain ⟨b2, e2⟩ : ∃ b : Bool, sameS p.spec zeroS = b := ⟨_, rfl⟩
 obtain ⟨b3, e3⟩ : ∃ b : Bool, (p.phase == 0) = b := ⟨_, rfl⟩
 obtain ⟨b4, e4⟩ : ∃ b : Bool, ((p.rs.length : Int) == 0) = b := ⟨_, rfl⟩
 obtain ⟨b5, e5⟩ : ∃ b : Bool, (p.mark == 0) = b := ⟨_, rfl⟩
 obtain ⟨b6, e6⟩ : ∃ b : Bool, (p.grace == 0) = b := ⟨_, rfl⟩
 have HR := Lib.hid (show (b0 && b1 && b2 && b3 && b4 && b5 && b6) = noPodB p by rw [← e0, ← e1, ← e2, ← e3, ← e4, ← e5, ← e6]; (try simp only [text_empty, len_zero, le_32, le_16, le_4, len_eq, rev_zero]); rfl)
 have E2 := Lib.hid e2
 clear e2
 obtain ⟨w2, hw2⟩ : ∃ v, w.alloc (.cells #[.int .i64 p.uid, .int .u64 p.rev, .string p.spec.name, .slice LA p.spec.labels.length lc, .slice IA p.spec.init.length ic, .slice MA p.spec.main.length mc, .int .i64 p.spec.restart, .int .i64 p.spec.grace, .int .i64 p.spec.prio, .int .i64 p.phase, .slice RA p.rs.length rc, .int .i64 p.mark, .int .i64 p.grace] 42) = v := ⟨_, rfl⟩
 have B2 := Lib.hid (show Below w.heap.size w w2 by rw [← hw2]; exact (Below.refl _ _).alloc (Nat.le_refl _) _)
 have X2 := Lib.hid (show w2.heap[w.heap.size]? = some (.cells #[.int .i64 p.uid, .int .u64 p.rev, .string p.spec.name, .slice LA p.spec.labels.length lc, .slice IA p.spec.init.length ic, .slice MA p.spec.main.length mc, .int .i64 p.spec.restart, .int .i64 p.spec.grace, .int .i64 p.spec.prio, .int .i64 p.phase, .slice RA p.rs.length rc, .int .i64 p.mark, .int .i64 p.grace] 42) by rw [← hw2]; exact heap_alloc_new w _)
 have c0 := box_cell X2.out 0 rfl
 have c1 := box_cell X2.out 1 rfl
 have c2 := box_cell X2.out 2 rfl
 have c3 := box_cell X2.out 3 rfl
 have c4 := box_cell X2.out 4 rfl
 have c5 := box_cell X2.out 5 rfl
 have c6 := box_cell X2.out 6 rfl
 have c7 := box_cell X2.out 7 rfl
 have c8 := box_cell X2.out 8 rfl
 go_enter Tryz.func152, Tryz.ntmps152
 cases b0 with
 | false =>
  have HD := Lib.hid (show false = noPodB p from by have := HR.out; simpa using this)
  go_wp2
  go_ret
  exact ⟨Book.ret_b HD.out, B2.out⟩
 | true =>
  cases b1 with
  | false =>
   have HD := Lib.hid (show false = noPodB p from by have := HR.out; simpa using this)
   go_wp2
   go_ret
   exact ⟨Book.ret_b HD.out, B2.out⟩
  | true =>
   go_wp2_with fail
   refine (same_any p.spec LA lc IA ic MA mc zeroS none 0 none 0 none 0 w2 (H.out.spec.below B2.out) (zs_in w2)).mono ?_
   rintro e w3 ⟨rfl, hb3⟩
   have B3 := Lib.hid (B2.out.trans (hb3.mono B2.out.size))
   have X3 := Lib.hid ((hb3.block w.heap.size (lt_of_block X2.out)).trans X2.out)
   clear hb3 X2 hw2 c0 c1 c2 c3 c4 c5 c6 c7 c8
   rw [E2.out]
   as_aux_lemma =>
    have c9 := box_cell X3.out 9 rfl
    have c10 := box_cell X3.out 10 rfl
    have c11 := box_cell X3.out 11 rfl
    have c12 := box_cell X3.out 12 rfl
    cases b2 with
    | false =>
     have HD := Lib.hid (show false = noPodB p from by have := HR.out; simpa using this)
     go_wp2
     go_ret
     exact ⟨Book.ret_b HD.out, B3.out⟩
    | true =>
     cases b3 with
     | false =>
      have HD := Lib.hid (show false = noPodB p from by have := HR.out; simpa using this)
      go_wp2
      go_ret
      exact ⟨Book.ret_b HD.out, B3.out⟩
     | true =>
      cases b4 with
      | false =>
       have HD := Lib.hid (show false = noPodB p from by have := HR.out; simpa using this)
       go_wp2
       go_ret
       exact ⟨Book.ret_b HD.out, B3.out⟩
      | true =>
       cases b5 with
       | false =>
        have HD := Lib.hid (show false = noPodB p from by have := HR.out; simpa using this)
        go_wp2
        go_ret
        exact ⟨Book.ret_b HD.out, B3.out⟩
       | true =>
        have HD := Lib.hid (show b6 = noPodB p from by have := HR.out; simpa using this)
        go_wp2
        go_ret
        exact ⟨Book.ret_b HD.out, B3.out⟩

set_option maxRecDepth 100000 in
set_option maxHeartbeats 4000000 in
theorem noReplyB_any (y : Rp) (PA : Option Addr) (pc : Nat) (UA : Option Addr) (uc : Nat) (w : World)  :
 Calls Tryz.prog 108 #[.agg #[.int .i64 y.code, .int .i64 y.uid, .int .i64 y.id, .int .u64 y.rev, .string y.data, .slice PA y.pods.length pc, .slice UA y.use.length uc]] w fun e w' => e = .returned (.bool (noReplyB y)) ∧ Below w.heap.size w w' := by
 skip
 obtain ⟨b0, e0⟩ : ∃ b : Bool, (y.code == 0) = b := ⟨_, rfl⟩
 obtain ⟨b1, e1⟩ : ∃ b : Bool, (y.uid == 0) = b := ⟨_, rfl⟩
 obtain ⟨b2, e2⟩ : ∃ b : Bool, (y.id == 0) = b := ⟨_, rfl⟩
 obtain ⟨b3, e3⟩ : ∃ b : Bool, ((y.rev : Int) == 0) = b := ⟨_, rfl⟩
 obtain ⟨b4, e4⟩ : ∃ b : Bool, y.data.toList.isEmpty = b := ⟨_, rfl⟩
 obtain ⟨b5, e5⟩ : ∃ b : Bool, ((y.pods.length : Int) == 0) = b := ⟨_, rfl⟩
 obtain ⟨b6, e6⟩ : ∃ b : Bool, ((y.use.length : Int) == 0) = b := ⟨_, rfl⟩
 have HR := Lib.hid (show (b0 && b1 && b2 && b3 && b4 && b5 && b6) = noReplyB y by rw [← e0, ← e1, ← e2, ← e3, ← e4, ← e5, ← e6]; (try simp only [text_empty, len_zero, le_32, le_16, le_4, len_eq, rev_zero]); rfl)
 obtain ⟨w2, hw2⟩ : ∃ v, w.alloc (.cells #[.int .i64 y.code, .int .i64 y.uid, .int .i64 y.id, .int .u64 y.rev, .string y.data, .slice PA y.pods.length pc, .slice UA y.use.length uc] 46) = v := ⟨_, rfl⟩
 have B2 := Lib.hid (show Below w.heap.size w w2 by rw [← hw2]; exact (Below.refl _ _).alloc (Nat.le_refl _) _)
 have X2 := Lib.hid (show w2.heap[w.heap.size]? = some (.cells #[.int .i64 y.code, .int .i64 y.uid, .int .i64 y.id, .int .u64 y.rev, .string y.data, .slice PA y.pods.length pc, .slice UA y.use.length uc] 46) by rw [← hw2]; exact heap_alloc_new w _)
 have c0 := box_cell X2.out 0 rfl
 have c1 := box_cell X2.out 1 rfl
 have c2 := box_cell X2.out 2 rfl
 have c3 := box_cell X2.out 3 rfl
 have c4 := box_cell X2.out 4 rfl
 have c5 := box_cell X2.out 5 rfl
 have c6 := box_cell X2.out 6 rfl
 go_enter Tryz.func108, Tryz.ntmps108
 cases b0 with
 | false =>
  have HD := Lib.hid (show false = noReplyB y from by have := HR.out; simpa using this)
  go_wp2
  go_ret
  exact ⟨Book.ret_b HD.out, B2.out⟩
 | true =>
  cases b1 with
  | false =>
   have HD := Lib.hid (show false = noReplyB y from by have := HR.out; simpa using this)
   go_wp2
   go_ret
   exact ⟨Book.ret_b HD.out, B2.out⟩
  | true =>
   cases b2 with
   | false =>
    have HD := Lib.hid (show false = noReplyB y from by have := HR.out; simpa using this)
    go_wp2
    go_ret
    exact ⟨Book.ret_b HD.out, B2.out⟩
   | true =>
    cases b3 with
    | false =>
     have HD := Lib.hid (show false = noReplyB y from by have := HR.out; simpa using this)
     go_wp2
     go_ret
     exact ⟨Book.ret_b HD.out, B2.out⟩
    | true =>
     cases b4 with
     | false =>
      have HD := Lib.hid (show false = noReplyB y from by have := HR.out; simpa using this)
      go_wp2
      go_ret
      exact ⟨Book.ret_b HD.out, B2.out⟩
     | true =>
      cases b5 with
      | false =>
       have HD := Lib.hid (show false = noReplyB y from by have := HR.out; simpa using this)
       go_wp2
       go_ret
       exact ⟨Book.ret_b HD.out, B2.out⟩
      | true =>
       have HD := Lib.hid (show b6 = noReplyB y from by have := HR.out; simpa using this)
       go_wp2
       go_ret
       exact ⟨Book.ret_b HD.out, B2.out⟩

set_option maxRecDepth 100000 in
set_option maxHeartbeats 4000000 in
theorem noEventB_any (ev : Ev) (LA : Option Addr) (lc : Nat) (IA : Option Addr) (ic : Nat) (MA : Option Addr) (mc : Nat) (RA : Option Addr) (rc : Nat) (w : World) (h : ev.pod.In w LA lc IA ic MA mc RA) :
 Calls Tryz.prog 106 #[.agg #[.int .i64 ev.kind, .int .u64 ev.rev, .int .i64 ev.pod.uid, .int .u64 ev.pod.rev, .string ev.pod.spec.name, .slice LA ev.pod.spec.labels.length lc, .slice IA ev.pod.spec.init.length ic, .slice MA ev.pod.spec.main.length mc, .int .i64 ev.pod.spec.restart, .int .i64 ev.pod.spec.grace, .int .i64 ev.pod.spec.prio, .int .i64 ev.pod.phase, .slice RA ev.pod.rs.length rc, .int .i64 ev.pod.mark, .int .i64 ev.pod.grace]] w fun e w' => e = .returned (.bool (noEventB ev)) ∧ Below w.heap.size w w' := by
 have H := Lib.hid h
 clear h
 obtain ⟨b0, e0⟩ : ∃ b : Bool, (ev.kind == 0) = b := ⟨_, rfl⟩
 obtain ⟨b1, e1⟩ : ∃ b : Bool, ((ev.rev : Int) == 0) = b := ⟨_, rfl⟩
 obtain ⟨b2, e2⟩ : ∃ b : Bool, noPodB ev.pod = b := ⟨_, rfl⟩
 have HR := Lib.hid (show (b0 && b1 && b2) = noEventB ev by rw [← e0, ← e1, ← e2]; (try simp only [text_empty, len_zero, le_32, le_16, le_4, len_eq, rev_zero]); rfl)
 have E2 := Lib.hid e2
 clear e2
 obtain ⟨w2, hw2⟩ : ∃ v, w.alloc (.cells #[.int .i64 ev.kind, .int .u64 ev.rev, .int .i64 ev.pod.uid, .int .u64 ev.pod.rev, .string ev.pod.spec.name, .slice LA ev.pod.spec.labels.length lc, .slice IA ev.pod.spec.init.length ic, .slice MA ev.pod.spec.main.length mc, .int .i64 ev.pod.spec.restart, .int .i64 ev.pod.spec.grace, .int .i64 ev.pod.spec.prio, .int .i64 ev.pod.phase, .slice RA ev.pod.rs.length rc, .int .i64 ev.pod.mark, .int .i64 ev.pod.grace] 48) = v := ⟨_, rfl⟩
 have B2 := Lib.hid (show Below w.heap.size w w2 by rw [← hw2]; exact (Below.refl _ _).alloc (Nat.le_refl _) _)
 have X2 := Lib.hid (show w2.heap[w.heap.size]? = some (.cells #[.int .i64 ev.kind, .int .u64 ev.rev, .int .i64 ev.pod.uid, .int .u64 ev.pod.rev, .string ev.pod.spec.name, .slice LA ev.pod.spec.labels.length lc, .slice IA ev.pod.spec.init.length ic, .slice MA ev.pod.spec.main.length mc, .int .i64 ev.pod.spec.restart, .int .i64 ev.pod.spec.grace, .int .i64 ev.pod.spec.prio, .int .i64 ev.pod.phase, .slice RA ev.pod.rs.length rc, .int .i64 ev.pod.mark, .int .i64 ev.pod.grace] 48) by rw [← hw2]; exact heap_alloc_new w _)
 have c0 := box_cell X2.out 0 rfl
 have c1 := box_cell X2.out 1 rfl
 have c2 := box_cell X2.out 2 rfl
 have c3 := box_cell X2.out 3 rfl
 have c4 := box_cell X2.out 4 rfl
 have c5 := box_cell X2.out 5 rfl
 have c6 := box_cell X2.out 6 rfl
 have c7 := box_cell X2.out 7 rfl
 have c8 := box_cell X2.out 8 rfl
 have c9 := box_cell X2.out 9 rfl
 have c10 := box_cell X2.out 10 rfl
 have c11 := box_cell X2.out 11 rfl
 have c12 := box_cell X2.out 12 rfl
 have c13 := box_cell X2.out 13 rfl
 have c14 := box_cell X2.out 14 rfl
 go_enter Tryz.func106, Tryz.ntmps106
 cases b0 with
 | false =>
  have HD := Lib.hid (show false = noEventB ev from by have := HR.out; simpa using this)
  go_wp2
  go_ret
  exact ⟨Book.ret_b HD.out, B2.out⟩
 | true =>
  cases b1 with
  | false =>
   have HD := Lib.hid (show false = noEventB ev from by have := HR.out; simpa using this)
   go_wp2
   go_ret
   exact ⟨Book.ret_b HD.out, B2.out⟩
  | true =>
   go_wp2_with fail
   refine (noPodB_any ev.pod LA lc IA ic MA mc RA rc w2 (H.out.below B2.out)).mono ?_
   rintro e w3 ⟨rfl, hb3⟩
   have B3 := Lib.hid (B2.out.trans (hb3.mono B2.out.size))
   have X3 := Lib.hid ((hb3.block w.heap.size (lt_of_block X2.out)).trans X2.out)
   clear hb3 X2 hw2 c0 c1 c2 c3 c4 c5 c6 c7 c8 c9 c10 c11 c12 c13 c14
   rw [E2.out]
   have HD := Lib.hid (show b2 = noEventB ev from by have := HR.out; simpa using this)
   go_wp2
   go_ret
   exact ⟨Book.ret_b HD.out, B3.out⟩

set_option maxRecDepth 100000 in
set_option maxHeartbeats 4000000 in
theorem all_pods (A : Option Addr) (cap : Nat) (l : List Pd) (hn : l.length ≤ 100) (hLt : ∀ p ∈ l, LightP p) (w : World) (hL : SLaid w) (h : Pds w A l) :
 Calls Tryz.prog 153 #[.slice A l.length cap, .func (.func 55) #[] #[]] w fun e w' => e = .returned (.bool (l.all podB)) ∧ Below w.heap.size w w' := by
 have HLT := Lib.hid hLt
 have HL := Lib.hid hL
 have H := Lib.hid h
 clear hLt hL h
 have hn' : (l.length : Int) ≤ 100 := by omega
 clear hn
 go_enter Tryz.func153, Tryz.ntmps153
 go_wp2_with fail
 go_loopw [9] (fun i wr => ∃ k : Nat, k ≤ l.length ∧ i = .int .i64 k ∧ Hid (Below w.heap.size w wr) ∧ Hid ((l.take k).all podB = true)) (fun i _ => l.length - (RowKit.intOf i).toNat)
 case atStart => exact ⟨0, Nat.zero_le _, rfl, Below.refl _ _, by rfl⟩
 case round =>
  obtain ⟨k, hk, rfl, BW, HF⟩ := hrel
  by_cases hlt : k < l.length
  · obtain ⟨a, LA, lc, IA, ic, MA, mc, RA, rc, rfl, ha, hcIN⟩ := (H.out.below BW.out).at hlt
    have hka : (k : Int) < (l.length : Int) := by omega
    have HIN := Lib.hid hcIN
    have HMEM := Lib.hid (List.getElem_mem hlt)
    have HN := Lib.hid (all_next podB l k hlt HF.out)
    have HNO := Lib.hid (all_not podB l k hlt)
    obtain ⟨x, ex⟩ : ∃ x, l[k] = x := ⟨_, rfl⟩
    rw [ex] at HIN HMEM HN HNO
    have hc := HIN.out.1
    have c0 : wr.cell? (a.add (k * 13)) = some (.int .i64 x.uid) := hc.1
    have c1 : wr.cell? ⟨(a.add (k * 13)).block, (a.add (k * 13)).off + 1, none⟩ = some (.int .u64 x.rev) := hc.2 0 _ rfl
    have c2 : wr.cell? ⟨(a.add (k * 13)).block, (a.add (k * 13)).off + 2, none⟩ = some (.string x.spec.name) := hc.2 1 _ rfl
    have c3 : wr.cell? ⟨(a.add (k * 13)).block, (a.add (k * 13)).off + 3, none⟩ = some (.slice LA x.spec.labels.length lc) := hc.2 2 _ rfl
    have c4 : wr.cell? ⟨(a.add (k * 13)).block, (a.add (k * 13)).off + 4, none⟩ = some (.slice IA x.spec.init.length ic) := hc.2 3 _ rfl
    have c5 : wr.cell? ⟨(a.add (k * 13)).block, (a.add (k * 13)).off + 5, none⟩ = some (.slice MA x.spec.main.length mc) := hc.2 4 _ rfl
    have c6 : wr.cell? ⟨(a.add (k * 13)).block, (a.add (k * 13)).off + 6, none⟩ = some (.int .i64 x.spec.restart) := hc.2 5 _ rfl
    have c7 : wr.cell? ⟨(a.add (k * 13)).block, (a.add (k * 13)).off + 7, none⟩ = some (.int .i64 x.spec.grace) := hc.2 6 _ rfl
    have c8 : wr.cell? ⟨(a.add (k * 13)).block, (a.add (k * 13)).off + 8, none⟩ = some (.int .i64 x.spec.prio) := hc.2 7 _ rfl
    have c9 : wr.cell? ⟨(a.add (k * 13)).block, (a.add (k * 13)).off + 9, none⟩ = some (.int .i64 x.phase) := hc.2 8 _ rfl
    have c10 : wr.cell? ⟨(a.add (k * 13)).block, (a.add (k * 13)).off + 10, none⟩ = some (.slice RA x.rs.length rc) := hc.2 9 _ rfl
    have c11 : wr.cell? ⟨(a.add (k * 13)).block, (a.add (k * 13)).off + 11, none⟩ = some (.int .i64 x.mark) := hc.2 10 _ rfl
    have c12 : wr.cell? ⟨(a.add (k * 13)).block, (a.add (k * 13)).off + 12, none⟩ = some (.int .i64 x.grace) := hc.2 11 _ rfl
    clear hc ha ex hcIN HF
    go_wp2_with fail
    obtain ⟨w5, hw5⟩ : ∃ v, wr.alloc (.cells #[.int .i64 x.uid, .int .u64 x.rev, .string x.spec.name, .slice LA x.spec.labels.length lc, .slice IA x.spec.init.length ic, .slice MA x.spec.main.length mc, .int .i64 x.spec.restart, .int .i64 x.spec.grace, .int .i64 x.spec.prio, .int .i64 x.phase, .slice RA x.rs.length rc, .int .i64 x.mark, .int .i64 x.grace] 42) = v := ⟨_, rfl⟩
    have hb5 : Below wr.heap.size wr w5 := by rw [← hw5]; exact (Below.refl _ _).alloc (Nat.le_refl _) _
    have B5 := Lib.hid (BW.out.trans (hb5.mono BW.out.size))
    first | rw [hw5] | skip
    clear hw5
    refine (podB_any x LA lc IA ic MA mc RA rc w5 (HLT.out x HMEM.out) (HL.out.below B5.out) (HIN.out.2.below hb5)).mono ?_
    rintro e w6 ⟨rfl, hb6⟩
    have B6 := Lib.hid (B5.out.trans (hb6.mono B5.out.size))
    clear hb5 hb6 c0 c1 c2 c3 c4 c5 c6 c7 c8 c9 c10 c11 c12
    cases hm : podB x with
    | true =>
     have HT := Lib.hid (HN.out hm)
     clear hm HN HNO
     go_wp2
     go_roundw
     case rel => exact ⟨k + 1, by omega, by go_num, B6.out, HT.out⟩
     case measure => simp [RowKit.intOf]; omega
    | false =>
     have HD := Lib.hid (HNO.out hm)
     clear hm HN HNO
     go_wp2
     go_ret
     exact ⟨Book.ret_b HD.out.symm, B6.out⟩
  · have hka : ¬ (k : Int) < (l.length : Int) := by omega
    have HD := Lib.hid (show l.all podB = true by have := HF.out; rwa [List.take_of_length_le (by omega)] at this)
    clear HF
    go_wp2
    go_ret
    exact ⟨Book.ret_b HD.out.symm, BW.out⟩

set_option maxRecDepth 100000 in
set_option maxHeartbeats 4000000 in
theorem all_uses (A : Option Addr) (cap : Nat) (l : List (Int × Int × Int)) (hn : l.length ≤ 100) (w : World) (h : Uses w A l) :
 Calls Tryz.prog 154 #[.slice A l.length cap, .func (.func 155) #[] #[]] w fun e w' => e = .returned (.bool (l.all useB)) ∧ Below w.heap.size w w' := by
 have H := Lib.hid h
 clear h
 have hn' : (l.length : Int) ≤ 100 := by omega
 clear hn
 go_enter Tryz.func154, Tryz.ntmps154
 go_wp2_with fail
 go_loopw [9] (fun i wr => ∃ k : Nat, k ≤ l.length ∧ i = .int .i64 k ∧ Hid (Below w.heap.size w wr) ∧ Hid ((l.take k).all useB = true)) (fun i _ => l.length - (RowKit.intOf i).toNat)
 case atStart => exact ⟨0, Nat.zero_le _, rfl, Below.refl _ _, by rfl⟩
 case round =>
  obtain ⟨k, hk, rfl, BW, HF⟩ := hrel
  by_cases hlt : k < l.length
  · obtain ⟨a, rfl, ha, hcIN⟩ := (H.out.below BW.out).at hlt
    have hka : (k : Int) < (l.length : Int) := by omega
    have HIN := Lib.hid hcIN
    have HMEM := Lib.hid (List.getElem_mem hlt)
    have HN := Lib.hid (all_next useB l k hlt HF.out)
    have HNO := Lib.hid (all_not useB l k hlt)
    obtain ⟨x, ex⟩ : ∃ x, l[k] = x := ⟨_, rfl⟩
    rw [ex] at HIN HMEM HN HNO
    have hc := HIN.out
    have c0 : wr.cell? (a.add (k * 3)) = some (.int .i64 x.1) := hc.1
    have c1 : wr.cell? ⟨(a.add (k * 3)).block, (a.add (k * 3)).off + 1, none⟩ = some (.int .i64 x.2.1) := hc.2 0 _ rfl
    have c2 : wr.cell? ⟨(a.add (k * 3)).block, (a.add (k * 3)).off + 2, none⟩ = some (.int .i64 x.2.2) := hc.2 1 _ rfl
    clear hc ha ex hcIN HF
    go_wp2_with fail
    obtain ⟨w5, hw5⟩ : ∃ v, wr.alloc (.cells #[.int .i64 x.1, .int .i64 x.2.1, .int .i64 x.2.2] 70) = v := ⟨_, rfl⟩
    have hb5 : Below wr.heap.size wr w5 := by rw [← hw5]; exact (Below.refl _ _).alloc (Nat.le_refl _) _
    have B5 := Lib.hid (BW.out.trans (hb5.mono BW.out.size))
    first | rw [hw5] | skip
    clear hw5
    refine (useB_any x w5).mono ?_
    rintro e w6 ⟨rfl, hb6⟩
    have B6 := Lib.hid (B5.out.trans (hb6.mono B5.out.size))
    clear hb5 hb6 c0 c1 c2
    cases hm : useB x with
    | true =>
     have HT := Lib.hid (HN.out hm)
     clear hm HN HNO
     go_wp2
     go_roundw
     case rel => exact ⟨k + 1, by omega, by go_num, B6.out, HT.out⟩
     case measure => simp [RowKit.intOf]; omega
    | false =>
     have HD := Lib.hid (HNO.out hm)
     clear hm HN HNO
     go_wp2
     go_ret
     exact ⟨Book.ret_b HD.out.symm, B6.out⟩
  · have hka : ¬ (k : Int) < (l.length : Int) := by omega
    have HD := Lib.hid (show l.all useB = true by have := HF.out; rwa [List.take_of_length_le (by omega)] at this)
    clear HF
    go_wp2
    go_ret
    exact ⟨Book.ret_b HD.out.symm, BW.out⟩

set_option maxRecDepth 100000 in
set_option maxHeartbeats 4000000 in
theorem replyB_any (y : Rp) (PA : Option Addr) (pc : Nat) (UA : Option Addr) (uc : Nat) (w : World) (hLt : LightR y) (hL : SLaid w) (h : y.In w PA UA) :
 Calls Tryz.prog 107 #[.agg #[.int .i64 y.code, .int .i64 y.uid, .int .i64 y.id, .int .u64 y.rev, .string y.data, .slice PA y.pods.length pc, .slice UA y.use.length uc]] w fun e w' => e = .returned (.bool (replyB y)) ∧ Below w.heap.size w w' := by
 have HLT := Lib.hid hLt
 have HL := Lib.hid hL
 have H := Lib.hid h
 clear hLt hL h
 obtain ⟨b0, e0⟩ : ∃ b : Bool, inB y.code 0 999 = b := ⟨_, rfl⟩
 obtain ⟨b1, e1⟩ : ∃ b : Bool, inB y.uid 0 1073741824 = b := ⟨_, rfl⟩
 obtain ⟨b2, e2⟩ : ∃ b : Bool, inB y.id 0 1073741824 = b := ⟨_, rfl⟩
 obtain ⟨b3, e3⟩ : ∃ b : Bool, decide ((y.data.size : Int) ≤ 32) = b := ⟨_, rfl⟩
 obtain ⟨b4, e4⟩ : ∃ b : Bool, decide ((y.pods.length : Int) ≤ 16) = b := ⟨_, rfl⟩
 obtain ⟨b5, e5⟩ : ∃ b : Bool, y.pods.all podB = b := ⟨_, rfl⟩
 obtain ⟨b6, e6⟩ : ∃ b : Bool, decide ((y.use.length : Int) ≤ 4) = b := ⟨_, rfl⟩
 obtain ⟨b7, e7⟩ : ∃ b : Bool, y.use.all useB = b := ⟨_, rfl⟩
 have HR := Lib.hid (show (b0 && b1 && b2 && b3 && b4 && b5 && b6 && b7) = replyB y by rw [← e0, ← e1, ← e2, ← e3, ← e4, ← e5, ← e6, ← e7]; (try simp only [text_empty, len_zero, le_32, le_16, le_4, len_eq, rev_zero]); rfl)
 have E0 := Lib.hid e0
 clear e0
 have E1 := Lib.hid e1
 clear e1
 have E2 := Lib.hid e2
 clear e2
 have E5 := Lib.hid e5
 clear e5
 have E7 := Lib.hid e7
 clear e7
 obtain ⟨w2, hw2⟩ : ∃ v, w.alloc (.cells #[.int .i64 y.code, .int .i64 y.uid, .int .i64 y.id, .int .u64 y.rev, .string y.data, .slice PA y.pods.length pc, .slice UA y.use.length uc] 46) = v := ⟨_, rfl⟩
 have B2 := Lib.hid (show Below w.heap.size w w2 by rw [← hw2]; exact (Below.refl _ _).alloc (Nat.le_refl _) _)
 have X2 := Lib.hid (show w2.heap[w.heap.size]? = some (.cells #[.int .i64 y.code, .int .i64 y.uid, .int .i64 y.id, .int .u64 y.rev, .string y.data, .slice PA y.pods.length pc, .slice UA y.use.length uc] 46) by rw [← hw2]; exact heap_alloc_new w _)
 have c0 := box_cell X2.out 0 rfl
 have c1 := box_cell X2.out 1 rfl
 have c2 := box_cell X2.out 2 rfl
 have c4 := box_cell X2.out 4 rfl
 have c5 := box_cell X2.out 5 rfl
 go_enter Tryz.func107, Tryz.ntmps107
 go_wp2_with fail
 refine (within_any y.code 0 999 w2).mono ?_
 rintro e w3 ⟨rfl, rfl⟩
 rw [E0.out]
 cases b0 with
 | false =>
  have HD := Lib.hid (show false = replyB y from by have := HR.out; simpa using this)
  go_wp2
  go_ret
  exact ⟨Book.ret_b HD.out, B2.out⟩
 | true =>
  go_wp2_with fail
  refine (within_any y.uid 0 1073741824 w2).mono ?_
  rintro e w3 ⟨rfl, rfl⟩
  rw [E1.out]
  cases b1 with
  | false =>
   have HD := Lib.hid (show false = replyB y from by have := HR.out; simpa using this)
   go_wp2
   go_ret
   exact ⟨Book.ret_b HD.out, B2.out⟩
  | true =>
   go_wp2_with fail
   refine (within_any y.id 0 1073741824 w2).mono ?_
   rintro e w3 ⟨rfl, rfl⟩
   rw [E2.out]
   cases b2 with
   | false =>
    have HD := Lib.hid (show false = replyB y from by have := HR.out; simpa using this)
    go_wp2
    go_ret
    exact ⟨Book.ret_b HD.out, B2.out⟩
   | true =>
    cases b3 with
    | false =>
     have HD := Lib.hid (show false = replyB y from by have := HR.out; simpa using this)
     go_wp2
     go_ret
     exact ⟨Book.ret_b HD.out, B2.out⟩
    | true =>
     cases b4 with
     | false =>
      have HD := Lib.hid (show false = replyB y from by have := HR.out; simpa using this)
      go_wp2
      go_ret
      exact ⟨Book.ret_b HD.out, B2.out⟩
     | true =>
      go_wp2_with fail
      refine (all_pods PA pc y.pods (by have := HLT.out.np; omega) HLT.out.pods w2 (HL.out.below B2.out) (H.out.pods.below B2.out)).mono ?_
      rintro e w3 ⟨rfl, hb3⟩
      have B3 := Lib.hid (B2.out.trans (hb3.mono B2.out.size))
      have X3 := Lib.hid ((hb3.block w.heap.size (lt_of_block X2.out)).trans X2.out)
      clear hb3 X2 hw2 c0 c1 c2 c4 c5
      rw [E5.out]
      as_aux_lemma =>
       have c6 := box_cell X3.out 6 rfl
       cases b5 with
       | false =>
        have HD := Lib.hid (show false = replyB y from by have := HR.out; simpa using this)
        go_wp2
        go_ret
        exact ⟨Book.ret_b HD.out, B3.out⟩
       | true =>
        cases b6 with
        | false =>
         have HD := Lib.hid (show false = replyB y from by have := HR.out; simpa using this)
         go_wp2
         go_ret
         exact ⟨Book.ret_b HD.out, B3.out⟩
        | true =>
         go_wp2_with fail
         refine (all_uses UA uc y.use (by have := HLT.out.nu; omega) w3 (H.out.use.below B3.out)).mono ?_
         rintro e w4 ⟨rfl, hb4⟩
         have B4 := Lib.hid (B3.out.trans (hb4.mono B3.out.size))
         have X4 := Lib.hid ((hb4.block w.heap.size (lt_of_block X3.out)).trans X3.out)
         clear hb4 X3 c6
         rw [E7.out]
         have HD := Lib.hid (show b7 = replyB y from by have := HR.out; simpa using this)
         go_wp2
         go_ret
         exact ⟨Book.ret_b HD.out, B4.out⟩

end Tl
end Go.Proofs.YtalnncgomlibbaaGreatDoor
