/-
 The document's Line (provostref09.Line). Condition: the message's numbers fit and its texts are short (FitM).
-/
import Derived.Test.YtljbpelogjmciaaGreatDoorTellLineEq
import Derived.Test.YtljbpelogjmciaaGreatDoorTellGreat
import Derived.Test.YtljbpelogjmciaaGreatDoorTellB
import Derived.Test.YtljbpelogjmciaaGreatDoorNumRefText
import Derived.Test.YtljbpelogjmciaaGreatDoorRegionAll
import Derived.Deep.DeepCutAuto
set_option linter.unusedVariables false
set_option linter.unusedSimpArgs false
namespace Go.Proofs.YtljbpelogjmciaaGreatDoor
open Go.ChangeShapes Go.WideShapes Go.ChangeAt Go.RowKit Go.Lib
open LebMath WirePure Sd Wire SpecOwn SpecRef Book Pk
namespace Tl
namespace RefLine
def s1 (n : Int) : ByteArray := ⟨#[114, 101, 112, 108, 121, 32]⟩ ++ ⟨(itoa n).toArray⟩
def s2 (n : Int) : ByteArray := s1 n ++ ⟨#[32]⟩
def s3 (n c : Int) : ByteArray := s2 n ++ ⟨(itoa c).toArray⟩
theorem s3_eq (n : Int) (r : Rp) : s3 n r.code = ⟨(r0 n r).toArray⟩ := by
 unfold s3 s2 s1 r0
 apply ByteArray.ext
 simp
theorem itoa_len (n : Int) (h : -9223372036854775808 ≤ n ∧ n ≤ 9223372036854775807) : (itoa n).length ≤ 1000 := itoa_short n h
theorem s1_len (n : Int) (h : -9223372036854775808 ≤ n ∧ n ≤ 9223372036854775807) : (s1 n).size ≤ 1006 := by
 have := itoa_len n h
 have e : (⟨#[114, 101, 112, 108, 121, 32]⟩ : ByteArray).size = 6 := rfl
 have e2 : (⟨(itoa n).toArray⟩ : ByteArray).size = (itoa n).length := by show (itoa n).toArray.size = _; simp
 unfold s1
 rw [ByteArray.size_append]
 omega
theorem s2_len (n : Int) (h : -9223372036854775808 ≤ n ∧ n ≤ 9223372036854775807) : (s2 n).size ≤ 1007 := by
 have := s1_len n h
 have e : (⟨#[32]⟩ : ByteArray).size = 1 := rfl
 unfold s2
 rw [ByteArray.size_append]
 omega
theorem cat3 (a b c : List UInt8) : (ByteArray.mk a.toArray ++ ByteArray.mk b.toArray) ++ ByteArray.mk c.toArray = ⟨(a ++ (b ++ c)).toArray⟩ := by
 apply ByteArray.ext
 simp
def q1 (n : Int) : ByteArray := ⟨#[101, 118, 101, 110, 116, 32]⟩ ++ ⟨(itoa n).toArray⟩
def q2 (n : Int) : ByteArray := q1 n ++ ⟨#[32]⟩
def q3 (n k : Int) : ByteArray := q2 n ++ evName k
def q4 (n k : Int) : ByteArray := q3 n k ++ ⟨#[32]⟩
def q5 (n k : Int) (r : Nat) : ByteArray := q4 n k ++ ⟨(decDigits r).toArray⟩
def e0 (n k : Int) (r : Nat) : List UInt8 := [101, 118, 101, 110, 116, 32] ++ itoa n ++ [32] ++ (evName k).data.toList ++ [32] ++ decDigits r
theorem q5_eq (n k : Int) (r : Nat) : q5 n k r = ⟨(e0 n k r).toArray⟩ := by
 unfold q5 q4 q3 q2 q1 e0
 apply ByteArray.ext
 simp
theorem q1_len (n : Int) (h : -9223372036854775808 ≤ n ∧ n ≤ 9223372036854775807) : (q1 n).size ≤ 1006 := by
 have := itoa_len n h
 have e : (⟨#[101, 118, 101, 110, 116, 32]⟩ : ByteArray).size = 6 := rfl
 have e2 : (⟨(itoa n).toArray⟩ : ByteArray).size = (itoa n).length := by show (itoa n).toArray.size = _; simp
 unfold q1
 rw [ByteArray.size_append]
 omega
theorem q2_len (n : Int) (h : -9223372036854775808 ≤ n ∧ n ≤ 9223372036854775807) : (q2 n).size ≤ 1007 := by
 have := q1_len n h
 have e : (⟨#[32]⟩ : ByteArray).size = 1 := rfl
 unfold q2
 rw [ByteArray.size_append]
 omega
theorem q3_len (n k : Int) (h : -9223372036854775808 ≤ n ∧ n ≤ 9223372036854775807) : (q3 n k).size ≤ 1017 := by
 have := q2_len n h
 have e := evName_short k
 unfold q3
 rw [ByteArray.size_append]
 omega
theorem q4_len (n k : Int) (h : -9223372036854775808 ≤ n ∧ n ≤ 9223372036854775807) : (q4 n k).size ≤ 1018 := by
 have := q3_len n k h
 have e : (⟨#[32]⟩ : ByteArray).size = 1 := rfl
 unfold q4
 rw [ByteArray.size_append]
 omega
theorem e0_len (n k : Int) (r : Nat) (h : -9223372036854775808 ≤ n ∧ n ≤ 9223372036854775807) (hr : r < 18446744073709551616) : (e0 n k r).length ≤ 3000 := by
 have h1 := itoa_len n h
 have h2 := evName_short k
 have h3 : (decDigits r).length ≤ 1000 := dec_short hr
 have h4 : (evName k).data.toList.length = (evName k).size := by rw [Array.length_toList]; rfl
 unfold e0
 simp only [List.length_append, List.length_cons, List.length_nil]
 omega
theorem lineE_no (n : Int) (u : Ev) (h : hasB u.kind = false) : e0 n u.kind u.rev = lineE n u := by
 unfold lineE evParts e0
 rw [h]
 simp [Lib.join_cons, Lib.joinTail]
theorem lineE_yes (n : Int) (u : Ev) (h : hasB u.kind = true) : e0 n u.kind u.rev ++ ([32] ++ u.pod.spec.name.data.toList) = lineE n u := by
 unfold lineE evParts e0
 rw [h]
 simp [Lib.join_cons, Lib.joinTail]
def in15 (k : Int) : Bool := decide (1 ≤ k) && decide (k ≤ 5)
theorem evName_out {k : Int} (h : ¬ (1 ≤ k ∧ k ≤ 5)) : evName k = ⟨#[45]⟩ := by
 unfold evName
 split
 · rfl
 · have : k = 0 := by omega
   subst this
   rfl
theorem evName_in {k : Int} (j : Nat) (h : k = j) (hj : j < 6) : evName k = evT j := by
 unfold evName
 rw [if_neg (by omega), h]
 rfl
theorem hasB_no {k : Int} (h : ¬ (1 ≤ k ∧ k ≤ 3)) : hasB k = false := by
 unfold hasB inB
 simp
 omega
theorem hasB_yes {k : Int} (h : 1 ≤ k ∧ k ≤ 3) : hasB k = true := by
 unfold hasB inB
 simp
 omega
theorem dec_len {u : Nat} (h : u < 18446744073709551616) : (decDigits u).length ≤ 1000 := dec_short h
theorem dat_len (r : Rp) (hf : FitR r) : r.data.data.toList.length ≤ 1000 := by have := hf.data; rw [Array.length_toList]; show r.data.size ≤ _; omega
theorem r0_le (n : Int) (r : Rp) (hn : -9223372036854775808 ≤ n ∧ n ≤ 9223372036854775807) (hf : FitR r) : (r0 n r).length ≤ 3000 := by
 have h1 := itoa_len n hn
 have h2 := itoa_len r.code hf.code
 unfold r0
 simp only [List.length_append, List.length_cons, List.length_nil]
 omega
theorem r0_len (n : Int) (r : Rp) (hn : -9223372036854775808 ≤ n ∧ n ≤ 9223372036854775807) (hf : FitR r) : (r0 n r).length ≤ 9223372036854775802 ∧ (r0 n r).length + 5 + (itoa r.uid).length ≤ 9223372036854775807 := by
 have h1 := r0_le n r hn hf
 have h2 := itoa_len r.uid hf.uid
 exact ⟨by omega, by omega⟩
theorem r1_le (n : Int) (r : Rp) (hn : -9223372036854775808 ≤ n ∧ n ≤ 9223372036854775807) (hf : FitR r) : (r1 n r).length ≤ 5000 := by
 have h1 := itoa_len r.uid hf.uid
 exact stepB_len (k := 3000) (j := 2000) (r0_le n r hn hf) (by simp only [List.length_cons, List.length_nil]; omega)
theorem r1_len (n : Int) (r : Rp) (hn : -9223372036854775808 ≤ n ∧ n ≤ 9223372036854775807) (hf : FitR r) : (r1 n r).length ≤ 9223372036854775803 ∧ (r1 n r).length + 4 + (itoa r.id).length ≤ 9223372036854775807 := by
 have h1 := r1_le n r hn hf
 have h2 := itoa_len r.id hf.id
 exact ⟨by omega, by omega⟩
theorem r2_le (n : Int) (r : Rp) (hn : -9223372036854775808 ≤ n ∧ n ≤ 9223372036854775807) (hf : FitR r) : (r2 n r).length ≤ 7000 := by
 have h1 := itoa_len r.id hf.id
 exact stepB_len (k := 5000) (j := 2000) (r1_le n r hn hf) (by simp only [List.length_cons, List.length_nil]; omega)
theorem r2_len (n : Int) (r : Rp) (hn : -9223372036854775808 ≤ n ∧ n ≤ 9223372036854775807) (hf : FitR r) : (r2 n r).length ≤ 9223372036854775802 ∧ (r2 n r).length + 5 + (decDigits r.rev).length ≤ 9223372036854775807 := by
 have h1 := r2_le n r hn hf
 have h2 := dec_len hf.rev
 exact ⟨by omega, by omega⟩
theorem r3_le (n : Int) (r : Rp) (hn : -9223372036854775808 ≤ n ∧ n ≤ 9223372036854775807) (hf : FitR r) : (r3 n r).length ≤ 9000 := by
 have h1 := dec_len hf.rev
 exact stepB_len (k := 7000) (j := 2000) (r2_le n r hn hf) (by simp only [List.length_cons, List.length_nil]; omega)
theorem r3_len (n : Int) (r : Rp) (hn : -9223372036854775808 ≤ n ∧ n ≤ 9223372036854775807) (hf : FitR r) : (r3 n r).length ≤ 9223372036854775801 ∧ (r3 n r).length + 6 + r.data.size ≤ 9223372036854775807 := by
 have h1 := r3_le n r hn hf
 have h2 := hf.data
 exact ⟨by omega, by omega⟩
theorem r4_le (n : Int) (r : Rp) (hn : -9223372036854775808 ≤ n ∧ n ≤ 9223372036854775807) (hf : FitR r) : (r4 n r).length ≤ 11000 := by
 have h1 := dat_len r hf
 exact stepB_len (k := 9000) (j := 2000) (r3_le n r hn hf) (by simp only [List.length_cons, List.length_nil]; omega)
theorem r4_len (n : Int) (r : Rp) (hn : -9223372036854775808 ≤ n ∧ n ≤ 9223372036854775807) (hf : FitR r) : (r4 n r).length ≤ 9223372036854775801 ∧ (r4 n r).length + 6 + (itoa (r.pods.length : Nat)).length ≤ 9223372036854775807 := by
 have h1 := r4_le n r hn hf
 have h2 := itoa_len _ hf.np
 exact ⟨by omega, by omega⟩
theorem r5_le (n : Int) (r : Rp) (hn : -9223372036854775808 ≤ n ∧ n ≤ 9223372036854775807) (hf : FitR r) : (r5 n r).length ≤ 13000 := by
 have h1 := itoa_len _ hf.np
 exact stepB_len (k := 11000) (j := 2000) (r4_le n r hn hf) (by simp only [List.length_cons, List.length_nil]; omega)
theorem r5_len (n : Int) (r : Rp) (hn : -9223372036854775808 ≤ n ∧ n ≤ 9223372036854775807) (hf : FitR r) : (r5 n r).length ≤ 9223372036854775802 ∧ (r5 n r).length + 5 + (itoa (r.use.length : Nat)).length ≤ 9223372036854775807 := by
 have h1 := r5_le n r hn hf
 have h2 := itoa_len _ hf.nu
 exact ⟨by omega, by omega⟩
def FR (m : Mg) (bX bZ : Nat) : Nat → Value → World → Prop
 | 0 => fun v _ => v = .pointer (some ⟨bX, 1, none⟩)
 | 1 => fun v _ => v = .int .i64 m.num
 | 2 => fun v _ => v = .string ⟨(itoa m.num).toArray⟩
 | 3 => fun v _ => v = .string (s1 m.num)
 | 4 => fun v _ => v = .string (s2 m.num)
 | 5 => fun v _ => v = .pointer (some ⟨bZ, 0, none⟩)
 | 6 => fun v _ => v = .int .i64 m.reply.code
 | 7 => fun v _ => v = .string ⟨(itoa m.reply.code).toArray⟩
 | 8 => fun v _ => v = .string (s3 m.num m.reply.code)
 | _ => fun v _ => v = .string (s3 m.num m.reply.code)
theorem FR_keep (m : Mg) (bX bZ : Nat) (i_ : Nat) (v_ : Value) (w_ w2_ : World) (h_ : FR m bX bZ i_ v_ w_) (hb_ : Below w_.heap.size w_ w2_) : FR m bX bZ i_ v_ w2_ := by
 unfold FR at h_ ⊢
 split at h_ <;> exact h_
def FV (m : Mg) (bX bE : Nat) : Nat → Value → World → Prop
 | 0 => fun v _ => v = .pointer (some ⟨bX, 1, none⟩)
 | 1 => fun v _ => v = .int .i64 m.num
 | 2 => fun v _ => v = .string ⟨(itoa m.num).toArray⟩
 | 3 => fun v _ => v = .string (q1 m.num)
 | 4 => fun v _ => v = .string (q2 m.num)
 | 5 => fun v _ => v = .string (evName m.event.kind)
 | 6 => fun v _ => v = .string (q3 m.num m.event.kind)
 | 7 => fun v _ => v = .string (q4 m.num m.event.kind)
 | 8 => fun v _ => v = .pointer (some ⟨bE, 1, none⟩)
 | 9 => fun v _ => v = .int .u64 (m.event.rev : Nat)
 | 10 => fun v _ => v = .string ⟨(decDigits m.event.rev).toArray⟩
 | 11 => fun v _ => v = .string (q5 m.num m.event.kind m.event.rev)
 | _ => fun v _ => v = .string (q5 m.num m.event.kind m.event.rev)
theorem FV_keep (m : Mg) (bX bE : Nat) (i_ : Nat) (v_ : Value) (w_ w2_ : World) (h_ : FV m bX bE i_ v_ w_) (hb_ : Below w_.heap.size w_ w2_) : FV m bX bE i_ v_ w2_ := by
 unfold FV at h_ ⊢
 split at h_ <;> exact h_
set_option maxRecDepth 100000 in
set_option maxHeartbeats 4000000 in
theorem refline_any (m : Mg) (PA : Option Addr) (pc : Nat) (UA : Option Addr) (uc : Nat) (LA : Option Addr) (lc : Nat) (IA : Option Addr) (ic : Nat) (MA : Option Addr) (mc : Nat) (RA : Option Addr) (rc : Nat) (hLt : FitM m) (w : World) :
 Calls Tryz.prog 28 #[.agg #[.int .i64 m.kind, .int .i64 m.num, .int .i64 m.reply.code, .int .i64 m.reply.uid, .int .i64 m.reply.id, .int .u64 m.reply.rev, .string m.reply.data, .slice PA m.reply.pods.length pc, .slice UA m.reply.use.length uc, .int .i64 m.event.kind, .int .u64 m.event.rev, .int .i64 m.event.pod.uid, .int .u64 m.event.pod.rev, .string m.event.pod.spec.name, .slice LA m.event.pod.spec.labels.length lc, .slice IA m.event.pod.spec.init.length ic, .slice MA m.event.pod.spec.main.length mc, .int .i64 m.event.pod.spec.restart, .int .i64 m.event.pod.spec.grace, .int .i64 m.event.pod.spec.prio, .int .i64 m.event.pod.phase, .slice RA m.event.pod.rs.length rc, .int .i64 m.event.pod.mark, .int .i64 m.event.pod.grace]] w fun e w' => e = .returned (.string ⟨(lineM m).toArray⟩) ∧ Below w.heap.size w w' := by
 have HFT := Lib.hid hLt
 clear hLt
 obtain ⟨w2, hw2⟩ : ∃ v, w.alloc (.cells #[.int .i64 m.kind, .int .i64 m.num, .int .i64 m.reply.code, .int .i64 m.reply.uid, .int .i64 m.reply.id, .int .u64 m.reply.rev, .string m.reply.data, .slice PA m.reply.pods.length pc, .slice UA m.reply.use.length uc, .int .i64 m.event.kind, .int .u64 m.event.rev, .int .i64 m.event.pod.uid, .int .u64 m.event.pod.rev, .string m.event.pod.spec.name, .slice LA m.event.pod.spec.labels.length lc, .slice IA m.event.pod.spec.init.length ic, .slice MA m.event.pod.spec.main.length mc, .int .i64 m.event.pod.spec.restart, .int .i64 m.event.pod.spec.grace, .int .i64 m.event.pod.spec.prio, .int .i64 m.event.pod.phase, .slice RA m.event.pod.rs.length rc, .int .i64 m.event.pod.mark, .int .i64 m.event.pod.grace] 50) = v := ⟨_, rfl⟩
 have X2 := Lib.hid (show w2.heap[w.heap.size]? = some (.cells #[.int .i64 m.kind, .int .i64 m.num, .int .i64 m.reply.code, .int .i64 m.reply.uid, .int .i64 m.reply.id, .int .u64 m.reply.rev, .string m.reply.data, .slice PA m.reply.pods.length pc, .slice UA m.reply.use.length uc, .int .i64 m.event.kind, .int .u64 m.event.rev, .int .i64 m.event.pod.uid, .int .u64 m.event.pod.rev, .string m.event.pod.spec.name, .slice LA m.event.pod.spec.labels.length lc, .slice IA m.event.pod.spec.init.length ic, .slice MA m.event.pod.spec.main.length mc, .int .i64 m.event.pod.spec.restart, .int .i64 m.event.pod.spec.grace, .int .i64 m.event.pod.spec.prio, .int .i64 m.event.pod.phase, .slice RA m.event.pod.rs.length rc, .int .i64 m.event.pod.mark, .int .i64 m.event.pod.grace] 50 (0, 0)) by rw [← hw2]; exact heap_alloc_new w _)
 have B2 := Lib.hid (show Below w.heap.size w w2 by rw [← hw2]; exact (Below.refl _ _).alloc (Nat.le_refl _) _)
 have RGr := Lib.hid (range_at X2.out 2 [.int .i64 m.reply.code, .int .i64 m.reply.uid, .int .i64 m.reply.id, .int .u64 m.reply.rev, .string m.reply.data, .slice PA m.reply.pods.length pc, .slice UA m.reply.use.length uc] rfl)
 have hq_ := heap_alloc_new w2 (.cells #[.int .i64 0, .int .i64 0, .int .i64 0, .int .u64 0, .string ⟨#[]⟩, .slice none 0 0, .slice none 0 0] 46)
 obtain ⟨w3, hw3⟩ : ∃ v, (w2.alloc (.cells #[.int .i64 0, .int .i64 0, .int .i64 0, .int .u64 0, .string ⟨#[]⟩, .slice none 0 0, .slice none 0 0] 46)).setCells w2.heap.size 0 [.int .i64 m.reply.code, .int .i64 m.reply.uid, .int .i64 m.reply.id, .int .u64 m.reply.rev, .string m.reply.data, .slice PA m.reply.pods.length pc, .slice UA m.reply.use.length uc] = v := ⟨_, rfl⟩
 have Z3 := Lib.hid (show w3.heap[w2.heap.size]? = some (.cells #[.int .i64 m.reply.code, .int .i64 m.reply.uid, .int .i64 m.reply.id, .int .u64 m.reply.rev, .string m.reply.data, .slice PA m.reply.pods.length pc, .slice UA m.reply.use.length uc] 46 (0, 0)) by rw [← hw3]; exact box_into hq_ 0 _ (over_7 _ _ _ _ _ _ _ _ _ _ _ _ _ _))
 have hb_ : Below w2.heap.size w2 w3 := by rw [← hw3]; exact below_cells (Nat.le_refl _) _ 0 ((Below.refl _ _).alloc (Nat.le_refl _) _)
 have THz := Lib.hid (show (w2.alloc (.cells #[.int .i64 0, .int .i64 0, .int .i64 0, .int .u64 0, .string ⟨#[]⟩, .slice none 0 0, .slice none 0 0] 46)).there w2.heap.size 0 7 from box_there hq_ 0 7 (by decide))
 have ONEz := Lib.hid (show (#[.int .i64 m.reply.code, .int .i64 m.reply.uid, .int .i64 m.reply.id, .int .u64 m.reply.rev, .string m.reply.data, .slice PA m.reply.pods.length pc, .slice UA m.reply.use.length uc] : Array Value).all (·.oneCell') = true by simp [Value.oneCell'])
 have HVz := Lib.hid hw3
 clear hw3 hq_
 have X3 := Lib.hid ((hb_.block w.heap.size (lt_of_block X2.out)).trans X2.out)
 have B3 := Lib.hid (B2.out.trans (hb_.mono B2.out.size))
 clear hb_
 have RGe := Lib.hid (range_at X3.out 9 [.int .i64 m.event.kind, .int .u64 m.event.rev, .int .i64 m.event.pod.uid, .int .u64 m.event.pod.rev, .string m.event.pod.spec.name, .slice LA m.event.pod.spec.labels.length lc, .slice IA m.event.pod.spec.init.length ic, .slice MA m.event.pod.spec.main.length mc, .int .i64 m.event.pod.spec.restart, .int .i64 m.event.pod.spec.grace, .int .i64 m.event.pod.spec.prio, .int .i64 m.event.pod.phase, .slice RA m.event.pod.rs.length rc, .int .i64 m.event.pod.mark, .int .i64 m.event.pod.grace] rfl)
 have hq_ := heap_alloc_new w3 (.cells #[.int .i64 0, .int .u64 0, .int .i64 0, .int .u64 0, .string ⟨#[]⟩, .slice none 0 0, .slice none 0 0, .slice none 0 0, .int .i64 0, .int .i64 0, .int .i64 0, .int .i64 0, .slice none 0 0, .int .i64 0, .int .i64 0] 48)
 obtain ⟨w4, hw4⟩ : ∃ v, (w3.alloc (.cells #[.int .i64 0, .int .u64 0, .int .i64 0, .int .u64 0, .string ⟨#[]⟩, .slice none 0 0, .slice none 0 0, .slice none 0 0, .int .i64 0, .int .i64 0, .int .i64 0, .int .i64 0, .slice none 0 0, .int .i64 0, .int .i64 0] 48)).setCells w3.heap.size 0 [.int .i64 m.event.kind, .int .u64 m.event.rev, .int .i64 m.event.pod.uid, .int .u64 m.event.pod.rev, .string m.event.pod.spec.name, .slice LA m.event.pod.spec.labels.length lc, .slice IA m.event.pod.spec.init.length ic, .slice MA m.event.pod.spec.main.length mc, .int .i64 m.event.pod.spec.restart, .int .i64 m.event.pod.spec.grace, .int .i64 m.event.pod.spec.prio, .int .i64 m.event.pod.phase, .slice RA m.event.pod.rs.length rc, .int .i64 m.event.pod.mark, .int .i64 m.event.pod.grace] = v := ⟨_, rfl⟩
 have V4 := Lib.hid (show w4.heap[w3.heap.size]? = some (.cells #[.int .i64 m.event.kind, .int .u64 m.event.rev, .int .i64 m.event.pod.uid, .int .u64 m.event.pod.rev, .string m.event.pod.spec.name, .slice LA m.event.pod.spec.labels.length lc, .slice IA m.event.pod.spec.init.length ic, .slice MA m.event.pod.spec.main.length mc, .int .i64 m.event.pod.spec.restart, .int .i64 m.event.pod.spec.grace, .int .i64 m.event.pod.spec.prio, .int .i64 m.event.pod.phase, .slice RA m.event.pod.rs.length rc, .int .i64 m.event.pod.mark, .int .i64 m.event.pod.grace] 48 (0, 0)) by rw [← hw4]; exact box_into hq_ 0 _ (over_15 _ _ _ _ _ _ _ _ _ _ _ _ _ _ _ _ _ _ _ _ _ _ _ _ _ _ _ _ _ _))
 have hb_ : Below w3.heap.size w3 w4 := by rw [← hw4]; exact below_cells (Nat.le_refl _) _ 0 ((Below.refl _ _).alloc (Nat.le_refl _) _)
 have THx := Lib.hid (show (w3.alloc (.cells #[.int .i64 0, .int .u64 0, .int .i64 0, .int .u64 0, .string ⟨#[]⟩, .slice none 0 0, .slice none 0 0, .slice none 0 0, .int .i64 0, .int .i64 0, .int .i64 0, .int .i64 0, .slice none 0 0, .int .i64 0, .int .i64 0] 48)).there w3.heap.size 0 15 from box_there hq_ 0 15 (by decide))
 have ONEx := Lib.hid (show (#[.int .i64 m.event.kind, .int .u64 m.event.rev, .int .i64 m.event.pod.uid, .int .u64 m.event.pod.rev, .string m.event.pod.spec.name, .slice LA m.event.pod.spec.labels.length lc, .slice IA m.event.pod.spec.init.length ic, .slice MA m.event.pod.spec.main.length mc, .int .i64 m.event.pod.spec.restart, .int .i64 m.event.pod.spec.grace, .int .i64 m.event.pod.spec.prio, .int .i64 m.event.pod.phase, .slice RA m.event.pod.rs.length rc, .int .i64 m.event.pod.mark, .int .i64 m.event.pod.grace] : Array Value).all (·.oneCell') = true by simp [Value.oneCell'])
 have HVx := Lib.hid hw4
 clear hw4 hq_
 have X4 := Lib.hid ((hb_.block w.heap.size (lt_of_block X3.out)).trans X3.out)
 have Z4 := Lib.hid ((hb_.block w2.heap.size (lt_of_block Z3.out)).trans Z3.out)
 have B4 := Lib.hid (B3.out.trans (hb_.mono B3.out.size))
 clear hb_ X2 X3 Z3 B2 B3
 have cX0 := box_cell X4.out 0 rfl
 have cX1 := box_cell X4.out 1 rfl
 go_enter Tryz.func28, Tryz.ntmps28
 go_upto_region 3 with (first | (refine wpList_load_mid rfl 46 _ rfl _ _ rfl _ _ RGr.out Tryz.underlying46 rfl (by kernel_rfl) ?_) | (refine wpList_load_mid rfl 48 _ rfl _ _ rfl _ _ RGe.out Tryz.underlying48 rfl (by kernel_rfl) ?_) | (refine wpList_store_to rfl 46 _ _ rfl _ _ _ rfl rfl THz.out (by kernel_rfl) ONEz.out HVz.out ?_) | (refine wpList_store_to rfl 48 _ _ rfl _ _ _ rfl rfl THx.out (by kernel_rfl) ONEx.out HVx.out ?_))
 clear RGr RGe THz ONEz HVz THx ONEx HVx hw2
 by_cases hk2 : m.kind = 2
 · have HLM := Lib.hid (show lineE m.num m.event = lineM m by unfold lineM; rw [if_neg (by omega), if_pos hk2])
   have e1 : (m.kind == 2) = true := by rw [hk2]; rfl
   have HS1 := Lib.hid (show 6 + (itoa m.num).length ≤ 9223372036854775807 by have := itoa_len m.num HFT.out.num; omega)
   have HS2 := Lib.hid (show (q1 m.num).size ≤ 9223372036854775806 by have := q1_len m.num HFT.out.num; omega)
   have HS3 := Lib.hid (show (q2 m.num).size + (evName m.event.kind).size ≤ 9223372036854775807 by have := q2_len m.num HFT.out.num; have := evName_short m.event.kind; omega)
   have HS4 := Lib.hid (show (q3 m.num m.event.kind).size ≤ 9223372036854775806 by have := q3_len m.num m.event.kind HFT.out.num; omega)
   have HS5 := Lib.hid (show (q4 m.num m.event.kind).size + (decDigits m.event.rev).length ≤ 9223372036854775807 by have := q4_len m.num m.event.kind HFT.out.num; have h3 : (decDigits m.event.rev).length ≤ 1000 := dec_short HFT.out.rev; omega)
   clear hk2 Z4
   obtain ⟨wS, hwS⟩ : ∃ v, w4.alloc (.cells #[.string ⟨#[45]⟩, .string ⟨#[97, 100, 100]⟩, .string ⟨#[109, 111, 100]⟩, .string ⟨#[100, 101, 108]⟩, .string ⟨#[109, 97, 114, 107]⟩, .string ⟨#[111, 118, 101, 114]⟩] 9) = v := ⟨_, rfl⟩
   have SC := Lib.hid (show wS.heap[w4.heap.size]? = some (.cells #[.string ⟨#[45]⟩, .string ⟨#[97, 100, 100]⟩, .string ⟨#[109, 111, 100]⟩, .string ⟨#[100, 101, 108]⟩, .string ⟨#[109, 97, 114, 107]⟩, .string ⟨#[111, 118, 101, 114]⟩] 9 (0, 0)) by rw [← hwS]; exact heap_alloc_new w4 _)
   have hb_ : Below w4.heap.size w4 wS := by rw [← hwS]; exact (Below.refl _ _).alloc (Nat.le_refl _) _
   have VS := Lib.hid ((hb_.block w3.heap.size (lt_of_block V4.out)).trans V4.out)
   have XS := Lib.hid ((hb_.block w.heap.size (lt_of_block X4.out)).trans X4.out)
   have BS := Lib.hid (B4.out.trans (hb_.mono B4.out.size))
   clear hb_
   go_upto_region 6 with fail
   try rw [hwS]
   obtain ⟨bX, hbX⟩ : ∃ b, w.heap.size = b := ⟨_, rfl⟩
   obtain ⟨bE, hbE⟩ : ∃ b, w3.heap.size = b := ⟨_, rfl⟩
   obtain ⟨bS, hbS⟩ : ∃ b, w4.heap.size = b := ⟨_, rfl⟩
   rw [hbX] at XS ⊢
   rw [hbE] at VS ⊢
   rw [hbS] at SC ⊢
   clear hwS cX0 cX1 X4 V4 B4
   have cE0 := box_cell VS.out 0 rfl
   go_cut [24] (fun t wx => t = .bool (in15 m.event.kind) ∧ Hid (Below w.heap.size w wx) ∧ Hid (wx.heap[bX]? = some (.cells #[.int .i64 m.kind, .int .i64 m.num, .int .i64 m.reply.code, .int .i64 m.reply.uid, .int .i64 m.reply.id, .int .u64 m.reply.rev, .string m.reply.data, .slice PA m.reply.pods.length pc, .slice UA m.reply.use.length uc, .int .i64 m.event.kind, .int .u64 m.event.rev, .int .i64 m.event.pod.uid, .int .u64 m.event.pod.rev, .string m.event.pod.spec.name, .slice LA m.event.pod.spec.labels.length lc, .slice IA m.event.pod.spec.init.length ic, .slice MA m.event.pod.spec.main.length mc, .int .i64 m.event.pod.spec.restart, .int .i64 m.event.pod.spec.grace, .int .i64 m.event.pod.spec.prio, .int .i64 m.event.pod.phase, .slice RA m.event.pod.rs.length rc, .int .i64 m.event.pod.mark, .int .i64 m.event.pod.grace] 50 (0, 0))) ∧ Hid (wx.heap[bE]? = some (.cells #[.int .i64 m.event.kind, .int .u64 m.event.rev, .int .i64 m.event.pod.uid, .int .u64 m.event.pod.rev, .string m.event.pod.spec.name, .slice LA m.event.pod.spec.labels.length lc, .slice IA m.event.pod.spec.init.length ic, .slice MA m.event.pod.spec.main.length mc, .int .i64 m.event.pod.spec.restart, .int .i64 m.event.pod.spec.grace, .int .i64 m.event.pod.spec.prio, .int .i64 m.event.pod.phase, .slice RA m.event.pod.rs.length rc, .int .i64 m.event.pod.mark, .int .i64 m.event.pod.grace] 48 (0, 0))) ∧ Hid (wx.heap[bS]? = some (.cells #[.string ⟨#[45]⟩, .string ⟨#[97, 100, 100]⟩, .string ⟨#[109, 111, 100]⟩, .string ⟨#[100, 101, 108]⟩, .string ⟨#[109, 97, 114, 107]⟩, .string ⟨#[111, 118, 101, 114]⟩] 9 (0, 0))))
   case first =>
    by_cases hlo : m.event.kind < 1
    · have hlo2 : ¬ (1 ≤ m.event.kind) := by omega
      have HE := Lib.hid (show in15 m.event.kind = false by unfold in15; simp; omega)
      go_wp2_with fail
      go_meet
      exact ⟨by rw [HE.out], BS, XS, VS, SC⟩
    · have hlo2 : 1 ≤ m.event.kind := by omega
      by_cases hhi : m.event.kind ≤ 5
      · have HE := Lib.hid (show in15 m.event.kind = true by unfold in15; simp; omega)
        go_wp2_with fail
        go_meet
        exact ⟨by rw [HE.out], BS, XS, VS, SC⟩
      · have HE := Lib.hid (show in15 m.event.kind = false by unfold in15; simp; omega)
        go_wp2_with fail
        go_meet
        exact ⟨by rw [HE.out], BS, XS, VS, SC⟩
   case rest =>
    obtain ⟨rfl, BT, XT, VT, ST⟩ := hcut
    obtain ⟨wt, hwc_⟩ : ∃ v, v = wc := ⟨_, rfl⟩
    subst hwc_
    clear BS XS VS SC cE0
    have cE0 := box_cell VT.out 0 rfl
    go_upto_if 24 with fail
    go_cut [6] (fun s wx => s = .string (evName m.event.kind) ∧ Hid (Below w.heap.size w wx) ∧ Hid (wx.heap[bX]? = some (.cells #[.int .i64 m.kind, .int .i64 m.num, .int .i64 m.reply.code, .int .i64 m.reply.uid, .int .i64 m.reply.id, .int .u64 m.reply.rev, .string m.reply.data, .slice PA m.reply.pods.length pc, .slice UA m.reply.use.length uc, .int .i64 m.event.kind, .int .u64 m.event.rev, .int .i64 m.event.pod.uid, .int .u64 m.event.pod.rev, .string m.event.pod.spec.name, .slice LA m.event.pod.spec.labels.length lc, .slice IA m.event.pod.spec.init.length ic, .slice MA m.event.pod.spec.main.length mc, .int .i64 m.event.pod.spec.restart, .int .i64 m.event.pod.spec.grace, .int .i64 m.event.pod.spec.prio, .int .i64 m.event.pod.phase, .slice RA m.event.pod.rs.length rc, .int .i64 m.event.pod.mark, .int .i64 m.event.pod.grace] 50 (0, 0))) ∧ Hid (wx.heap[bE]? = some (.cells #[.int .i64 m.event.kind, .int .u64 m.event.rev, .int .i64 m.event.pod.uid, .int .u64 m.event.pod.rev, .string m.event.pod.spec.name, .slice LA m.event.pod.spec.labels.length lc, .slice IA m.event.pod.spec.init.length ic, .slice MA m.event.pod.spec.main.length mc, .int .i64 m.event.pod.spec.restart, .int .i64 m.event.pod.spec.grace, .int .i64 m.event.pod.spec.prio, .int .i64 m.event.pod.phase, .slice RA m.event.pod.rs.length rc, .int .i64 m.event.pod.mark, .int .i64 m.event.pod.grace] 48 (0, 0))))
    case first =>
     cases hb : in15 m.event.kind with
     | false =>
      have HE := Lib.hid (show evName m.event.kind = ⟨#[45]⟩ from evName_out (by unfold in15 at hb; simp at hb; omega))
      go_wp2_with fail
      go_meet
      exact ⟨by rw [HE.out], BT, XT, VT⟩
     | true =>
      have hkk : m.event.kind = 1 ∨ m.event.kind = 2 ∨ m.event.kind = 3 ∨ m.event.kind = 4 ∨ m.event.kind = 5 := by unfold in15 at hb; simp at hb; omega
      rcases hkk with hk | hk | hk | hk | hk
      · have HE := Lib.hid (show evName m.event.kind = evT 1 from evName_in 1 hk (by decide))
        have s1_ := box_cell ST.out 1 rfl
        go_wp2_with fail
        go_meet
        exact ⟨by rw [HE.out]; rfl, BT, XT, VT⟩
      · have HE := Lib.hid (show evName m.event.kind = evT 2 from evName_in 2 hk (by decide))
        have s1_ := box_cell ST.out 2 rfl
        go_wp2_with fail
        go_meet
        exact ⟨by rw [HE.out]; rfl, BT, XT, VT⟩
      · have HE := Lib.hid (show evName m.event.kind = evT 3 from evName_in 3 hk (by decide))
        have s1_ := box_cell ST.out 3 rfl
        go_wp2_with fail
        go_meet
        exact ⟨by rw [HE.out]; rfl, BT, XT, VT⟩
      · have HE := Lib.hid (show evName m.event.kind = evT 4 from evName_in 4 hk (by decide))
        have s1_ := box_cell ST.out 4 rfl
        go_wp2_with fail
        go_meet
        exact ⟨by rw [HE.out]; rfl, BT, XT, VT⟩
      · have HE := Lib.hid (show evName m.event.kind = evT 5 from evName_in 5 hk (by decide))
        have s1_ := box_cell ST.out 5 rfl
        go_wp2_with fail
        go_meet
        exact ⟨by rw [HE.out]; rfl, BT, XT, VT⟩
    case rest =>
     obtain ⟨rfl, B5, X5, V5⟩ := hcut
     obtain ⟨w5, hwc_⟩ : ∃ v, v = wc := ⟨_, rfl⟩
     subst hwc_
     clear BT XT VT ST cE0
     go_wp2_with fail
     refine Loose.wp_region_walk (by kernel_rfl) (by kernel_rfl) (FV m bX bE) (FV_keep m bX bE) ?_ ?_
     · refine ⟨?_, ?_, ?_, ?_, ?_, ?_, ?_, ?_, ?_, ?_, ?_, ?_, ?_, trivial⟩
       · intro a w1 hfr hdep
         have f0 : a.tmps.getD 1 undef = .pointer (some ⟨bX, 0, none⟩) := hfr.slot 1 (by kernel_rfl)
         refine Loose.Step.value rfl (v := .pointer (some ⟨bX, 1, none⟩)) (w' := w1) ?_ rfl (Below.refl _ _)
         simp [go_sem, Act.eval, f0]
       · intro a w1 hfr hdep
         have hq_ := (hfr.below.block bX (lt_of_block X5.out)).trans X5.out
         have hc_ := box_cell hq_ 1 rfl
         have e0 : a.tmps.getD 30 undef = .pointer (some ⟨bX, 1, none⟩) := Loose.dep_of hdep 0 30 (by kernel_rfl)
         refine Loose.Step.value rfl (v := .int .i64 m.num) (w' := w1) ?_ rfl (Below.refl _ _)
         simp [go_sem, Act.eval, e0, hc_]
       · intro a w1 hfr hdep
         have e0 : a.tmps.getD 31 undef = .int .i64 m.num := Loose.dep_of hdep 1 31 (by kernel_rfl)
         refine Loose.Step.call rfl (f := 67) (args := #[.int .i64 m.num]) ?_ ?_
         · simp [go_sem, Act.eval, e0]
         · refine (NumRefText.refText_any m.num w1 HFT.out.num.1 HFT.out.num.2).mono ?_
           rintro e w2 ⟨rfl, hb⟩
           exact ⟨_, rfl, rfl, hb⟩
       · intro a w1 hfr hdep
         have hl_ := HS1.out
         have e0 : a.tmps.getD 32 undef = .string ⟨(itoa m.num).toArray⟩ := Loose.dep_of hdep 2 32 (by kernel_rfl)
         refine Loose.Step.value rfl (v := .string (q1 m.num)) (w' := w1) ?_ rfl (Below.refl _ _)
         simp [go_sem, Act.eval, e0, q1, hl_]
       · intro a w1 hfr hdep
         have hl_ := HS2.out
         have e0 : a.tmps.getD 33 undef = .string (q1 m.num) := Loose.dep_of hdep 3 33 (by kernel_rfl)
         refine Loose.Step.value rfl (v := .string (q2 m.num)) (w' := w1) ?_ rfl (Below.refl _ _)
         simp [go_sem, Act.eval, e0, q2, hl_]
       · intro a w1 hfr hdep
         have f0 : a.tmps.getD 6 undef = .string (evName m.event.kind) := hfr.slot 6 (by kernel_rfl)
         refine Loose.Step.value rfl (v := .string (evName m.event.kind)) (w' := w1) ?_ rfl (Below.refl _ _)
         simp [go_sem, Act.eval, f0]
       · intro a w1 hfr hdep
         have hl_ := HS3.out
         have e0 : a.tmps.getD 34 undef = .string (q2 m.num) := Loose.dep_of hdep 4 34 (by kernel_rfl)
         have e1 : a.tmps.getD 35 undef = .string (evName m.event.kind) := Loose.dep_of hdep 5 35 (by kernel_rfl)
         refine Loose.Step.value rfl (v := .string (q3 m.num m.event.kind)) (w' := w1) ?_ rfl (Below.refl _ _)
         simp [go_sem, Act.eval, e0, e1, q3, hl_]
       · intro a w1 hfr hdep
         have hl_ := HS4.out
         have e0 : a.tmps.getD 36 undef = .string (q3 m.num m.event.kind) := Loose.dep_of hdep 6 36 (by kernel_rfl)
         refine Loose.Step.value rfl (v := .string (q4 m.num m.event.kind)) (w' := w1) ?_ rfl (Below.refl _ _)
         simp [go_sem, Act.eval, e0, q4, hl_]
       · intro a w1 hfr hdep
         have f0 : a.tmps.getD 4 undef = .pointer (some ⟨bE, 0, none⟩) := hfr.slot 4 (by kernel_rfl)
         refine Loose.Step.value rfl (v := .pointer (some ⟨bE, 1, none⟩)) (w' := w1) ?_ rfl (Below.refl _ _)
         simp [go_sem, Act.eval, f0]
       · intro a w1 hfr hdep
         have hq_ := (hfr.below.block bE (lt_of_block V5.out)).trans V5.out
         have hc_ := box_cell hq_ 1 rfl
         have e0 : a.tmps.getD 38 undef = .pointer (some ⟨bE, 1, none⟩) := Loose.dep_of hdep 8 38 (by kernel_rfl)
         refine Loose.Step.value rfl (v := .int .u64 (m.event.rev : Nat)) (w' := w1) ?_ rfl (Below.refl _ _)
         simp [go_sem, Act.eval, e0, hc_]
       · intro a w1 hfr hdep
         have e0 : a.tmps.getD 39 undef = .int .u64 (m.event.rev : Nat) := Loose.dep_of hdep 9 39 (by kernel_rfl)
         refine Loose.Step.call rfl (f := 68) (args := #[.int .u64 (m.event.rev : Nat)]) ?_ ?_
         · simp [go_sem, Act.eval, e0]
         · refine (TellGreat.great_any m.event.rev w1 HFT.out.rev).mono ?_
           rintro e w2 ⟨rfl, hb⟩
           exact ⟨_, rfl, rfl, hb⟩
       · intro a w1 hfr hdep
         have hl_ := HS5.out
         have e0 : a.tmps.getD 37 undef = .string (q4 m.num m.event.kind) := Loose.dep_of hdep 7 37 (by kernel_rfl)
         have e1 : a.tmps.getD 40 undef = .string ⟨(decDigits m.event.rev).toArray⟩ := Loose.dep_of hdep 10 40 (by kernel_rfl)
         refine Loose.Step.value rfl (v := .string (q5 m.num m.event.kind m.event.rev)) (w' := w1) ?_ rfl (Below.refl _ _)
         simp [go_sem, Act.eval, e0, e1, q5, hl_]
       · intro a w1 hfr hdep
         have e0 : a.tmps.getD 41 undef = .string (q5 m.num m.event.kind m.event.rev) := Loose.dep_of hdep 11 41 (by kernel_rfl)
         refine Loose.Step.value rfl (v := .string (q5 m.num m.event.kind m.event.rev)) (w' := w1) ?_ rfl (Below.refl _ _)
         simp [go_sem, Act.eval, e0]
     · intro v0 v1 v2 v3 v4 v5 v6 v7 v8 v9 v10 v11 v12 w6 hb8 hC
       have hlast : v12 = .string (q5 m.num m.event.kind m.event.rev) := hC.2
       subst hlast
       have B6 := Lib.hid (B5.out.trans (hb8.mono B5.out.size))
       have V6 := Lib.hid ((hb8.block bE (lt_of_block V5.out)).trans V5.out)
       clear hC hb8 HS1 HS2 HS3 HS4 HS5
       simp only [put_lit, List.set_cons_succ, List.set_cons_zero]
       rw [q5_eq]
       have cF0 := box_cell V6.out 0 rfl
       have HEL := Lib.hid (e0_len m.num m.event.kind m.event.rev HFT.out.num HFT.out.rev)
       by_cases hlo : m.event.kind < 1
       · have HL2 := Lib.hid (lineE_no m.num m.event (hasB_no (by omega)))
         have hlo2 : ¬ (1 ≤ m.event.kind) := by omega
         go_wp2_with fail
         go_ret
         exact ⟨by rw [← HLM.out, ← HL2.out]; rfl, by rw [← hbX]; exact B6.out⟩
       · have hlo2 : 1 ≤ m.event.kind := by omega
         by_cases hhi : m.event.kind ≤ 3
         · have HL2 := Lib.hid (lineE_yes m.num m.event (hasB_yes (by omega)))
           have cF4 := box_cell V6.out 4 rfl
           have hl1 : (e0 m.num m.event.kind m.event.rev).length ≤ 9223372036854775806 := by have := HEL.out; omega
           have hl2 : (e0 m.num m.event.kind m.event.rev).length + 1 + m.event.pod.spec.name.size ≤ 9223372036854775807 := by have := HEL.out; have := HFT.out.name; omega
           go_wp2_with fail
           go_ret
           exact ⟨by rw [← HLM.out, ← HL2.out]; exact congrArg (fun x => Ending.returned (.string x)) (cat3 _ _ _), by rw [← hbX]; exact B6.out⟩
         · have HL2 := Lib.hid (lineE_no m.num m.event (hasB_no (by omega)))
           go_wp2_with fail
           go_ret
           exact ⟨by rw [← HLM.out, ← HL2.out]; rfl, by rw [← hbX]; exact B6.out⟩
 by_cases hk1 : m.kind = 1
 · have e1 : (m.kind == 2) = false := beq_eq_false_iff_ne.2 hk2
   have e2 : (m.kind != 1) = false := by rw [hk1]; rfl
   have HLM := Lib.hid (show r6 m.num m.reply = lineM m by unfold lineM; rw [if_pos hk1, line_r6])
   have HS1 := Lib.hid (show 6 + (itoa m.num).length ≤ 9223372036854775807 by have := itoa_len m.num HFT.out.num; omega)
   have HS2 := Lib.hid (show (s1 m.num).size ≤ 9223372036854775806 by have := s1_len m.num HFT.out.num; omega)
   have HS3 := Lib.hid (show (s2 m.num).size + (itoa m.reply.code).length ≤ 9223372036854775807 by have := s2_len m.num HFT.out.num; have := itoa_len m.reply.code HFT.out.reply.code; omega)
   clear hk1 hk2
   go_wp2_with fail
   obtain ⟨bX, hbX⟩ : ∃ b, w.heap.size = b := ⟨_, rfl⟩
   obtain ⟨bZ, hbZ⟩ : ∃ b, w2.heap.size = b := ⟨_, rfl⟩
   rw [hbX] at X4 ⊢
   rw [hbZ] at Z4 ⊢
   refine Loose.wp_region_walk (by kernel_rfl) (by kernel_rfl) (FR m bX bZ) (FR_keep m bX bZ) ?_ ?_
   · refine ⟨?_, ?_, ?_, ?_, ?_, ?_, ?_, ?_, ?_, ?_, trivial⟩
     · intro a w1 hfr hdep
       have f0 : a.tmps.getD 1 undef = .pointer (some ⟨bX, 0, none⟩) := hfr.slot 1 (by kernel_rfl)
       refine Loose.Step.value rfl (v := .pointer (some ⟨bX, 1, none⟩)) (w' := w1) ?_ rfl (Below.refl _ _)
       simp [go_sem, Act.eval, f0]
     · intro a w1 hfr hdep
       have hq_ := (hfr.below.block bX (lt_of_block X4.out)).trans X4.out
       have hc_ := box_cell hq_ 1 rfl
       have e0 : a.tmps.getD 61 undef = .pointer (some ⟨bX, 1, none⟩) := Loose.dep_of hdep 0 61 (by kernel_rfl)
       refine Loose.Step.value rfl (v := .int .i64 m.num) (w' := w1) ?_ rfl (Below.refl _ _)
       simp [go_sem, Act.eval, e0, hc_]
     · intro a w1 hfr hdep
       have e0 : a.tmps.getD 62 undef = .int .i64 m.num := Loose.dep_of hdep 1 62 (by kernel_rfl)
       refine Loose.Step.call rfl (f := 67) (args := #[.int .i64 m.num]) ?_ ?_
       · simp [go_sem, Act.eval, e0]
       · refine (NumRefText.refText_any m.num w1 HFT.out.num.1 HFT.out.num.2).mono ?_
         rintro e w2 ⟨rfl, hb⟩
         exact ⟨_, rfl, rfl, hb⟩
     · intro a w1 hfr hdep
       have hl_ := HS1.out
       have e0 : a.tmps.getD 63 undef = .string ⟨(itoa m.num).toArray⟩ := Loose.dep_of hdep 2 63 (by kernel_rfl)
       refine Loose.Step.value rfl (v := .string (s1 m.num)) (w' := w1) ?_ rfl (Below.refl _ _)
       simp [go_sem, Act.eval, e0, s1, hl_]
     · intro a w1 hfr hdep
       have hl_ := HS2.out
       have e0 : a.tmps.getD 64 undef = .string (s1 m.num) := Loose.dep_of hdep 3 64 (by kernel_rfl)
       refine Loose.Step.value rfl (v := .string (s2 m.num)) (w' := w1) ?_ rfl (Below.refl _ _)
       simp [go_sem, Act.eval, e0, s2, hl_]
     · intro a w1 hfr hdep
       have f0 : a.tmps.getD 3 undef = .pointer (some ⟨bZ, 0, none⟩) := hfr.slot 3 (by kernel_rfl)
       refine Loose.Step.value rfl (v := .pointer (some ⟨bZ, 0, none⟩)) (w' := w1) ?_ rfl (Below.refl _ _)
       simp [go_sem, Act.eval, f0]
     · intro a w1 hfr hdep
       have hq_ := (hfr.below.block bZ (lt_of_block Z4.out)).trans Z4.out
       have hc_ := box_cell hq_ 0 rfl
       have e0 : a.tmps.getD 66 undef = .pointer (some ⟨bZ, 0, none⟩) := Loose.dep_of hdep 5 66 (by kernel_rfl)
       refine Loose.Step.value rfl (v := .int .i64 m.reply.code) (w' := w1) ?_ rfl (Below.refl _ _)
       simp [go_sem, Act.eval, e0, hc_]
     · intro a w1 hfr hdep
       have e0 : a.tmps.getD 67 undef = .int .i64 m.reply.code := Loose.dep_of hdep 6 67 (by kernel_rfl)
       refine Loose.Step.call rfl (f := 67) (args := #[.int .i64 m.reply.code]) ?_ ?_
       · simp [go_sem, Act.eval, e0]
       · refine (NumRefText.refText_any m.reply.code w1 HFT.out.reply.code.1 HFT.out.reply.code.2).mono ?_
         rintro e w2 ⟨rfl, hb⟩
         exact ⟨_, rfl, rfl, hb⟩
     · intro a w1 hfr hdep
       have hl_ := HS3.out
       have e0 : a.tmps.getD 65 undef = .string (s2 m.num) := Loose.dep_of hdep 4 65 (by kernel_rfl)
       have e1 : a.tmps.getD 68 undef = .string ⟨(itoa m.reply.code).toArray⟩ := Loose.dep_of hdep 7 68 (by kernel_rfl)
       refine Loose.Step.value rfl (v := .string (s3 m.num m.reply.code)) (w' := w1) ?_ rfl (Below.refl _ _)
       simp [go_sem, Act.eval, e0, e1, s3, hl_]
     · intro a w1 hfr hdep
       have e0 : a.tmps.getD 69 undef = .string (s3 m.num m.reply.code) := Loose.dep_of hdep 8 69 (by kernel_rfl)
       refine Loose.Step.value rfl (v := .string (s3 m.num m.reply.code)) (w' := w1) ?_ rfl (Below.refl _ _)
       simp [go_sem, Act.eval, e0]
   · intro v0 v1 v2 v3 v4 v5 v6 v7 v8 v9 w5 hb8 hC
     have hlast : v9 = .string (s3 m.num m.reply.code) := hC.2
     subst hlast
     have B5 := Lib.hid (B4.out.trans (hb8.mono B4.out.size))
     clear hC
     simp only [put_lit, List.set_cons_succ, List.set_cons_zero]
     rw [s3_eq]
     have Z5 := Lib.hid ((hb8.block bZ (lt_of_block Z4.out)).trans Z4.out)
     clear hb8 HS1 HS2 HS3
     have HLN := Lib.hid (r0_len m.num m.reply HFT.out.num HFT.out.reply)
     have cZ1 := box_cell Z5.out 1 rfl
     go_upto_if 72 with fail
     go_cut [8] (fun s wx => s = .string ⟨(r1 m.num m.reply).toArray⟩ ∧ Hid (Below w.heap.size w wx) ∧ Hid (wx.heap[bZ]? = some (.cells #[.int .i64 m.reply.code, .int .i64 m.reply.uid, .int .i64 m.reply.id, .int .u64 m.reply.rev, .string m.reply.data, .slice PA m.reply.pods.length pc, .slice UA m.reply.use.length uc] 46 (0, 0))))
     case first =>
      cases hb : (m.reply.uid != 0) with
      | false =>
       have HE := Lib.hid (show r1 m.num m.reply = r0 m.num m.reply by unfold r1; rw [hb]; rfl)
       have hb1 : (m.reply.uid == 0) = true := by simpa using hb
       go_wp2_with fail
       go_meet
       exact ⟨by rw [HE.out], B5, Z5⟩
      | true =>
       have HE := Lib.hid (show r1 m.num m.reply = r0 m.num m.reply ++ ([32] ++ [117, 105, 100] ++ [61] ++ itoa m.reply.uid) by unfold r1; rw [hb]; rfl)
       have hb1 : (m.reply.uid == 0) = false := by simpa using hb
       have hl1 := HLN.out.1
       have hl2 := HLN.out.2
       go_wp2_with fail
       refine (NumRefText.refText_any _ w5 HFT.out.reply.uid.1 HFT.out.reply.uid.2).mono ?_
       rintro e wy ⟨rfl, hby⟩
       go_wp2_with fail
       go_meet
       exact ⟨by rw [HE.out]; exact congrArg Value.string (cat3 _ _ _), Lib.hid (B5.out.trans (hby.mono B5.out.size)), Lib.hid ((hby.block bZ (lt_of_block Z5.out)).trans Z5.out)⟩
     case rest =>
      obtain ⟨rfl, B6, Z6⟩ := hcut
      obtain ⟨w6, hwc_⟩ : ∃ v, v = wc := ⟨_, rfl⟩
      subst hwc_
      clear HLN cZ1 B5 Z5
      have HLN := Lib.hid (r1_len m.num m.reply HFT.out.num HFT.out.reply)
      have cZ2 := box_cell Z6.out 2 rfl
      go_upto_if 81 with fail
      go_cut [8] (fun s wx => s = .string ⟨(r2 m.num m.reply).toArray⟩ ∧ Hid (Below w.heap.size w wx) ∧ Hid (wx.heap[bZ]? = some (.cells #[.int .i64 m.reply.code, .int .i64 m.reply.uid, .int .i64 m.reply.id, .int .u64 m.reply.rev, .string m.reply.data, .slice PA m.reply.pods.length pc, .slice UA m.reply.use.length uc] 46 (0, 0))))
      case first =>
       cases hb : (m.reply.id != 0) with
       | false =>
        have HE := Lib.hid (show r2 m.num m.reply = r1 m.num m.reply by unfold r2; rw [hb]; rfl)
        have hb1 : (m.reply.id == 0) = true := by simpa using hb
        go_wp2_with fail
        go_meet
        exact ⟨by rw [HE.out], B6, Z6⟩
       | true =>
        have HE := Lib.hid (show r2 m.num m.reply = r1 m.num m.reply ++ ([32] ++ [105, 100] ++ [61] ++ itoa m.reply.id) by unfold r2; rw [hb]; rfl)
        have hb1 : (m.reply.id == 0) = false := by simpa using hb
        have hl1 := HLN.out.1
        have hl2 := HLN.out.2
        go_wp2_with fail
        refine (NumRefText.refText_any _ w6 HFT.out.reply.id.1 HFT.out.reply.id.2).mono ?_
        rintro e wy ⟨rfl, hby⟩
        go_wp2_with fail
        go_meet
        exact ⟨by rw [HE.out]; exact congrArg Value.string (cat3 _ _ _), Lib.hid (B6.out.trans (hby.mono B6.out.size)), Lib.hid ((hby.block bZ (lt_of_block Z6.out)).trans Z6.out)⟩
      case rest =>
       obtain ⟨rfl, B7, Z7⟩ := hcut
       obtain ⟨w7, hwc_⟩ : ∃ v, v = wc := ⟨_, rfl⟩
       subst hwc_
       clear HLN cZ2 B6 Z6
       have HLN := Lib.hid (r2_len m.num m.reply HFT.out.num HFT.out.reply)
       have cZ3 := box_cell Z7.out 3 rfl
       go_upto_if 90 with fail
       go_cut [8] (fun s wx => s = .string ⟨(r3 m.num m.reply).toArray⟩ ∧ Hid (Below w.heap.size w wx) ∧ Hid (wx.heap[bZ]? = some (.cells #[.int .i64 m.reply.code, .int .i64 m.reply.uid, .int .i64 m.reply.id, .int .u64 m.reply.rev, .string m.reply.data, .slice PA m.reply.pods.length pc, .slice UA m.reply.use.length uc] 46 (0, 0))))
       case first =>
        cases hb : ((m.reply.rev : Int) != 0) with
        | false =>
         have HE := Lib.hid (show r3 m.num m.reply = r2 m.num m.reply by unfold r3; rw [hb]; rfl)
         have hb1 : ((m.reply.rev : Int) == 0) = true := by simpa using hb
         go_wp2_with fail
         go_meet
         exact ⟨by rw [HE.out], B7, Z7⟩
        | true =>
         have HE := Lib.hid (show r3 m.num m.reply = r2 m.num m.reply ++ ([32] ++ [114, 101, 118] ++ [61] ++ decDigits m.reply.rev) by unfold r3; rw [hb]; rfl)
         have hb1 : ((m.reply.rev : Int) == 0) = false := by simpa using hb
         have hl1 := HLN.out.1
         have hl2 := HLN.out.2
         go_wp2_with fail
         refine (TellGreat.great_any m.reply.rev w7 HFT.out.reply.rev).mono ?_
         rintro e wy ⟨rfl, hby⟩
         go_wp2_with fail
         go_meet
         exact ⟨by rw [HE.out]; exact congrArg Value.string (cat3 _ _ _), Lib.hid (B7.out.trans (hby.mono B7.out.size)), Lib.hid ((hby.block bZ (lt_of_block Z7.out)).trans Z7.out)⟩
       case rest =>
        obtain ⟨rfl, B8, Z8⟩ := hcut
        obtain ⟨w8, hwc_⟩ : ∃ v, v = wc := ⟨_, rfl⟩
        subst hwc_
        clear HLN cZ3 B7 Z7
        have HLN := Lib.hid (r3_len m.num m.reply HFT.out.num HFT.out.reply)
        have cZ4 := box_cell Z8.out 4 rfl
        go_upto_if 99 with fail
        go_cut [8] (fun s wx => s = .string ⟨(r4 m.num m.reply).toArray⟩ ∧ Hid (Below w.heap.size w wx) ∧ Hid (wx.heap[bZ]? = some (.cells #[.int .i64 m.reply.code, .int .i64 m.reply.uid, .int .i64 m.reply.id, .int .u64 m.reply.rev, .string m.reply.data, .slice PA m.reply.pods.length pc, .slice UA m.reply.use.length uc] 46 (0, 0))))
        case first =>
         cases hb : (!(m.reply.data.toList.isEmpty)) with
         | false =>
          have HE := Lib.hid (show r4 m.num m.reply = r3 m.num m.reply by unfold r4; rw [hb]; rfl)
          have hb1 : m.reply.data.toList = [] := by simpa using hb
          go_wp2_with fail
          go_meet
          exact ⟨by rw [HE.out], B8, Z8⟩
         | true =>
          have HE := Lib.hid (show r4 m.num m.reply = r3 m.num m.reply ++ ([32] ++ [100, 97, 116, 97] ++ [61] ++ m.reply.data.data.toList) by unfold r4; rw [hb]; rfl)
          have hb1 : m.reply.data.toList.isEmpty = false := by simpa using hb
          have hl1 := HLN.out.1
          have hl2 := HLN.out.2
          go_wp2_with fail
          go_meet
          exact ⟨by rw [HE.out]; exact congrArg Value.string (cat3 _ _ _), B8, Z8⟩
        case rest =>
         obtain ⟨rfl, B9, Z9⟩ := hcut
         obtain ⟨w9, hwc_⟩ : ∃ v, v = wc := ⟨_, rfl⟩
         subst hwc_
         clear HLN cZ4 B8 Z8
         have HLN := Lib.hid (r4_len m.num m.reply HFT.out.num HFT.out.reply)
         have cZ5 := box_cell Z9.out 5 rfl
         go_upto_if 108 with fail
         go_cut [8] (fun s wx => s = .string ⟨(r5 m.num m.reply).toArray⟩ ∧ Hid (Below w.heap.size w wx) ∧ Hid (wx.heap[bZ]? = some (.cells #[.int .i64 m.reply.code, .int .i64 m.reply.uid, .int .i64 m.reply.id, .int .u64 m.reply.rev, .string m.reply.data, .slice PA m.reply.pods.length pc, .slice UA m.reply.use.length uc] 46 (0, 0))))
         case first =>
          cases hb : ((m.reply.pods.length : Int) != 0) with
          | false =>
           have HE := Lib.hid (show r5 m.num m.reply = r4 m.num m.reply by unfold r5; rw [hb]; rfl)
           have hb0 : (m.reply.pods.length : Int) = 0 := Decidable.byContradiction fun h => (by rw [bne_iff_ne.2 h] at hb; cases hb)
           have hb1 : ¬ (0 : Int) < (m.reply.pods.length : Int) := by omega
           clear hb0
           go_wp2_with fail
           go_meet
           exact ⟨by rw [HE.out], B9, Z9⟩
          | true =>
           have HE := Lib.hid (show r5 m.num m.reply = r4 m.num m.reply ++ ([32] ++ [112, 111, 100, 115] ++ [61] ++ itoa (m.reply.pods.length : Nat)) by unfold r5; rw [hb]; rfl)
           have hb0 : (m.reply.pods.length : Int) ≠ 0 := bne_iff_ne.1 hb
           have hb1 : (0 : Int) < (m.reply.pods.length : Int) := by omega
           clear hb0
           have hl1 := HLN.out.1
           have hl2 := HLN.out.2
           go_wp2_with fail
           refine (NumRefText.refText_any _ w9 HFT.out.reply.np.1 HFT.out.reply.np.2).mono ?_
           rintro e wy ⟨rfl, hby⟩
           go_wp2_with fail
           go_meet
           exact ⟨by rw [HE.out]; exact congrArg Value.string (cat3 _ _ _), Lib.hid (B9.out.trans (hby.mono B9.out.size)), Lib.hid ((hby.block bZ (lt_of_block Z9.out)).trans Z9.out)⟩
         case rest =>
          obtain ⟨rfl, B10, Z10⟩ := hcut
          obtain ⟨w10, hwc_⟩ : ∃ v, v = wc := ⟨_, rfl⟩
          subst hwc_
          clear HLN cZ5 B9 Z9
          have HLN := Lib.hid (r5_len m.num m.reply HFT.out.num HFT.out.reply)
          have cZ6 := box_cell Z10.out 6 rfl
          go_upto_if 119 with fail
          go_cut [8] (fun s wx => s = .string ⟨(r6 m.num m.reply).toArray⟩ ∧ Hid (Below w.heap.size w wx) ∧ Hid (wx.heap[bZ]? = some (.cells #[.int .i64 m.reply.code, .int .i64 m.reply.uid, .int .i64 m.reply.id, .int .u64 m.reply.rev, .string m.reply.data, .slice PA m.reply.pods.length pc, .slice UA m.reply.use.length uc] 46 (0, 0))))
          case first =>
           cases hb : ((m.reply.use.length : Int) != 0) with
           | false =>
            have HE := Lib.hid (show r6 m.num m.reply = r5 m.num m.reply by unfold r6; rw [hb]; rfl)
            have hb0 : (m.reply.use.length : Int) = 0 := Decidable.byContradiction fun h => (by rw [bne_iff_ne.2 h] at hb; cases hb)
            have hb1 : ¬ (0 : Int) < (m.reply.use.length : Int) := by omega
            clear hb0
            go_wp2_with fail
            go_meet
            exact ⟨by rw [HE.out], B10, Z10⟩
           | true =>
            have HE := Lib.hid (show r6 m.num m.reply = r5 m.num m.reply ++ ([32] ++ [117, 115, 101] ++ [61] ++ itoa (m.reply.use.length : Nat)) by unfold r6; rw [hb]; rfl)
            have hb0 : (m.reply.use.length : Int) ≠ 0 := bne_iff_ne.1 hb
            have hb1 : (0 : Int) < (m.reply.use.length : Int) := by omega
            clear hb0
            have hl1 := HLN.out.1
            have hl2 := HLN.out.2
            go_wp2_with fail
            refine (NumRefText.refText_any _ w10 HFT.out.reply.nu.1 HFT.out.reply.nu.2).mono ?_
            rintro e wy ⟨rfl, hby⟩
            go_wp2_with fail
            go_meet
            exact ⟨by rw [HE.out]; exact congrArg Value.string (cat3 _ _ _), Lib.hid (B10.out.trans (hby.mono B10.out.size)), Lib.hid ((hby.block bZ (lt_of_block Z10.out)).trans Z10.out)⟩
          case rest =>
           obtain ⟨rfl, B11, Z11⟩ := hcut
           obtain ⟨w11, hwc_⟩ : ∃ v, v = wc := ⟨_, rfl⟩
           subst hwc_
           clear HLN cZ6 B10 Z10
           go_wp2_with fail
           go_ret
           exact ⟨by rw [← HLM.out]; rfl, B11.out⟩
 · have e1 : (m.kind == 2) = false := beq_eq_false_iff_ne.2 hk2
   have e2 : (m.kind != 1) = true := bne_iff_ne.2 hk1
   have HLM := Lib.hid (show lineM m = [] by unfold lineM; rw [if_neg hk1, if_neg hk2])
   go_wp2_with fail
   go_ret
   exact ⟨by rw [HLM.out]; rfl, B4.out⟩
end RefLine
end Tl
end Go.Proofs.YtljbpelogjmciaaGreatDoor
