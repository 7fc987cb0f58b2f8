/-
 The contracts of provostref07's number, res, Labels: the bytes that the plain codes say; all that was there is left as it was. Condition: lists and texts are not too long.
-/
import Derived.Test.YtljbpelogjmciaaGreatDoorPackAll
import Derived.Test.YtljbpelogjmciaaGreatDoorWireRefBytes
import Derived.Test.YtljbpelogjmciaaGreatDoorRegionAll
set_option linter.unusedVariables false
set_option linter.unusedSimpArgs false
namespace Go.Proofs.YtljbpelogjmciaaGreatDoor
open Go.ChangeShapes Go.WideShapes Go.ChangeAt Go.RowKit Go.Lib
open LebMath WirePure Sd Wire SpecOwn
namespace Pk
def bx (l : List UInt8) : ByteArray := ⟨l.toArray⟩
theorem bx_size (l : List UInt8) : (bx l).size = l.length := by show l.toArray.size = _; simp
theorem bx_add {P : Program} {a b : List UInt8} (h : a.length + b.length ≤ 1000000000) (v : World) : (Op.stringOp .add (bx a) (bx b)).run P v = .ok (.string (bx (a ++ b))) v := by
 have h1 := run_string_add_sum (P := P) v (bx a) (bx b) (by rw [bx_size, bx_size]; omega)
 have e : bx a ++ bx b = bx (a ++ b) := by apply ByteArray.ext; simp [bx]
 rw [e] at h1
 exact h1
theorem number_ref (z : Int) (h0 : 0 ≤ z) (h1 : z ≤ 1099511627776) (w : World) :
 Calls Tryz.prog 163 #[.int .i64 z] w fun e w' => e = .returned (.string (bx (leb z.toNat))) ∧ Below w.heap.size w w' := by
 obtain ⟨n, rfl⟩ := Int.eq_ofNat_of_zero_le h0
 have hn : n ≤ 1099511627776 := by omega
 have hw : IntKind.u64.wrap (n : Int) = n := IntWalk.u64_in _ (by omega)
 clear h0 h1
 go_enter Tryz.func163, Tryz.ntmps163
 go_wp2_with fail
 refine (NumRefPut.refPut_any n w (by omega)).mono ?_
 rintro e w1 ⟨rfl, hb⟩
 have HB := Lib.hid hb
 clear hb
 go_wp2_with fail
 go_ret
 exact ⟨rfl, HB.out⟩
theorem number_nat (n : Nat) (h : n ≤ 1099511627776) (w : World) :
 Calls Tryz.prog 163 #[.int .i64 (n : Nat)] w fun e w' => e = .returned (.string (bx (leb n))) ∧ Below w.heap.size w w' := by
 have := number_ref (n : Int) (by omega) (by omega) w
 rwa [Int.toNat_natCast] at this
def FRes (b : Nat) (a1 a2 a3 : Int) : Nat → Value → World → Prop
 | 0 => fun v _ => v = .pointer (some ⟨b, 0, none⟩)
 | 1 => fun v _ => v = .int .i64 a1
 | 2 => fun v _ => v = .string (bx (bigC.put a1))
 | 3 => fun v _ => v = .pointer (some ⟨b, 1, none⟩)
 | 4 => fun v _ => v = .int .i64 a2
 | 5 => fun v _ => v = .string (bx (bigC.put a2))
 | 6 => fun v _ => v = .string (bx (bigC.put a1 ++ bigC.put a2))
 | 7 => fun v _ => v = .pointer (some ⟨b, 2, none⟩)
 | 8 => fun v _ => v = .int .i64 a3
 | 9 => fun v _ => v = .string (bx (bigC.put a3))
 | 10 => fun v _ => v = .string (bx ((bigC.put a1 ++ bigC.put a2) ++ bigC.put a3))
 | _ => fun v _ => v = .string (bx ((bigC.put a1 ++ bigC.put a2) ++ bigC.put a3))
theorem FRes_keep (b : Nat) (a1 a2 a3 : Int) (i : Nat) (v : Value) (w w' : World) (h : FRes b a1 a2 a3 i v w) (hb : Below w.heap.size w w') : FRes b a1 a2 a3 i v w' := by
 unfold FRes at h ⊢
 split at h <;> exact h
set_option maxRecDepth 100000 in
set_option maxHeartbeats 2000000 in
theorem res_ref (a1 a2 a3 : Int) (hok : resC.ok (a1, a2, a3)) (w : World) :
 Calls Tryz.prog 193 #[.agg #[.int .i64 a1, .int .i64 a2, .int .i64 a3]] w fun e w' => e = .returned (.string (bx (resC.put (a1, a2, a3)))) ∧ Below w.heap.size w w' := by
 obtain ⟨o1, o2, o3⟩ := hok
 have l1 : (bigC.put a1).length ≤ 10 := int_put_len o1
 have l2 : (bigC.put a2).length ≤ 10 := int_put_len o2
 have l3 : (bigC.put a3).length ≤ 10 := int_put_len o3
 have O1 := Lib.hid o1
 have O2 := Lib.hid o2
 have O3 := Lib.hid o3
 clear o1 o2 o3
 go_enter Tryz.func193, Tryz.ntmps193
 go_wp2_with fail
 obtain ⟨w0, hw0⟩ : ∃ v, w.alloc (.cells #[.int .i64 a1, .int .i64 a2, .int .i64 a3] 70) = v := ⟨_, rfl⟩
 have Z := Lib.hid (show w0.heap[w.heap.size]? = some (.cells #[.int .i64 a1, .int .i64 a2, .int .i64 a3] 70 (0, 0)) by rw [← hw0]; exact heap_alloc_new w _)
 have B0 := Lib.hid (show Below w.heap.size w w0 by rw [← hw0]; exact (Below.refl _ _).alloc (Nat.le_refl _) _)
 rw [hw0]
 obtain ⟨b, hb⟩ : ∃ b, w.heap.size = b := ⟨_, rfl⟩
 have HBB := Lib.hid hb
 rw [hb] at Z ⊢
 clear hw0 hb
 refine Late.wp_region_walk (by kernel_rfl) (by kernel_rfl) (FRes b a1 a2 a3) (FRes_keep b a1 a2 a3) ?_ ?_
 · refine ⟨?_, ?_, ?_, ?_, ?_, ?_, ?_, ?_, ?_, ?_, ?_, ?_, trivial⟩
   · intro a w1 hfr hdep hlate
     have f0 : a.tmps.getD 1 undef = .pointer (some ⟨b, 0, none⟩) := hlate 1 (by kernel_rfl)
     refine Loose.Step.value rfl (v := .pointer (some ⟨b, 0, none⟩)) (w' := w1) ?_ rfl (Below.refl _ _)
     simp [go_sem, Act.eval, f0]
   · intro a w1 hfr hdep hlate
     have hz := (hfr.below.block b (lt_of_block Z.out)).trans Z.out
     have hc : w1.cell? ⟨b, 0, none⟩ = some (.int .i64 a1) := by simp [World.cell?, hz]
     have e0 : a.tmps.getD 3 undef = .pointer (some ⟨b, 0, none⟩) := Loose.dep_of hdep 0 3 (by kernel_rfl)
     refine Loose.Step.value rfl (v := .int .i64 a1) (w' := w1) ?_ rfl (Below.refl _ _)
     simp [go_sem, Act.eval, e0, hc]
   · intro a w1 hfr hdep hlate
     have e0 : a.tmps.getD 4 undef = .int .i64 a1 := Loose.dep_of hdep 1 4 (by kernel_rfl)
     refine Loose.Step.call rfl (f := 163) (args := #[.int .i64 a1]) ?_ ?_
     · simp [go_sem, Act.eval, e0]
     · refine (number_ref a1 (int_rng O1.out).1 (by have := (int_rng O1.out).2; omega) w1).mono ?_
       rintro e w2 ⟨rfl, hb⟩
       exact ⟨_, rfl, rfl, hb⟩
   · intro a w1 hfr hdep hlate
     have f0 : a.tmps.getD 1 undef = .pointer (some ⟨b, 0, none⟩) := hlate 1 (by kernel_rfl)
     refine Loose.Step.value rfl (v := .pointer (some ⟨b, 1, none⟩)) (w' := w1) ?_ rfl (Below.refl _ _)
     simp [go_sem, Act.eval, f0]
   · intro a w1 hfr hdep hlate
     have hz := (hfr.below.block b (lt_of_block Z.out)).trans Z.out
     have hc : w1.cell? ⟨b, 1, none⟩ = some (.int .i64 a2) := by simp [World.cell?, hz]
     have e0 : a.tmps.getD 6 undef = .pointer (some ⟨b, 1, none⟩) := Loose.dep_of hdep 3 6 (by kernel_rfl)
     refine Loose.Step.value rfl (v := .int .i64 a2) (w' := w1) ?_ rfl (Below.refl _ _)
     simp [go_sem, Act.eval, e0, hc]
   · intro a w1 hfr hdep hlate
     have e0 : a.tmps.getD 7 undef = .int .i64 a2 := Loose.dep_of hdep 4 7 (by kernel_rfl)
     refine Loose.Step.call rfl (f := 163) (args := #[.int .i64 a2]) ?_ ?_
     · simp [go_sem, Act.eval, e0]
     · refine (number_ref a2 (int_rng O2.out).1 (by have := (int_rng O2.out).2; omega) w1).mono ?_
       rintro e w2 ⟨rfl, hb⟩
       exact ⟨_, rfl, rfl, hb⟩
   · intro a w1 hfr hdep hlate
     have ha := bx_add (P := Tryz.prog) (a := bigC.put a1) (b := bigC.put a2) (by (try simp only [List.length_append]); omega) w1
     have e0 : a.tmps.getD 5 undef = .string (bx (bigC.put a1)) := Loose.dep_of hdep 2 5 (by kernel_rfl)
     have e1 : a.tmps.getD 8 undef = .string (bx (bigC.put a2)) := Loose.dep_of hdep 5 8 (by kernel_rfl)
     refine Loose.Step.value rfl (v := .string (bx (bigC.put a1 ++ bigC.put a2))) (w' := w1) ?_ rfl (Below.refl _ _)
     simp [go_sem, Act.eval, e0, e1, ha, -List.append_assoc]
   · intro a w1 hfr hdep hlate
     have f0 : a.tmps.getD 1 undef = .pointer (some ⟨b, 0, none⟩) := hlate 1 (by kernel_rfl)
     refine Loose.Step.value rfl (v := .pointer (some ⟨b, 2, none⟩)) (w' := w1) ?_ rfl (Below.refl _ _)
     simp [go_sem, Act.eval, f0]
   · intro a w1 hfr hdep hlate
     have hz := (hfr.below.block b (lt_of_block Z.out)).trans Z.out
     have hc : w1.cell? ⟨b, 2, none⟩ = some (.int .i64 a3) := by simp [World.cell?, hz]
     have e0 : a.tmps.getD 10 undef = .pointer (some ⟨b, 2, none⟩) := Loose.dep_of hdep 7 10 (by kernel_rfl)
     refine Loose.Step.value rfl (v := .int .i64 a3) (w' := w1) ?_ rfl (Below.refl _ _)
     simp [go_sem, Act.eval, e0, hc]
   · intro a w1 hfr hdep hlate
     have e0 : a.tmps.getD 11 undef = .int .i64 a3 := Loose.dep_of hdep 8 11 (by kernel_rfl)
     refine Loose.Step.call rfl (f := 163) (args := #[.int .i64 a3]) ?_ ?_
     · simp [go_sem, Act.eval, e0]
     · refine (number_ref a3 (int_rng O3.out).1 (by have := (int_rng O3.out).2; omega) w1).mono ?_
       rintro e w2 ⟨rfl, hb⟩
       exact ⟨_, rfl, rfl, hb⟩
   · intro a w1 hfr hdep hlate
     have ha := bx_add (P := Tryz.prog) (a := (bigC.put a1 ++ bigC.put a2)) (b := bigC.put a3) (by (try simp only [List.length_append]); omega) w1
     have e0 : a.tmps.getD 9 undef = .string (bx (bigC.put a1 ++ bigC.put a2)) := Loose.dep_of hdep 6 9 (by kernel_rfl)
     have e1 : a.tmps.getD 12 undef = .string (bx (bigC.put a3)) := Loose.dep_of hdep 9 12 (by kernel_rfl)
     refine Loose.Step.value rfl (v := .string (bx ((bigC.put a1 ++ bigC.put a2) ++ bigC.put a3))) (w' := w1) ?_ rfl (Below.refl _ _)
     simp [go_sem, Act.eval, e0, e1, ha, -List.append_assoc]
   · intro a w1 hfr hdep hlate
     have e0 : a.tmps.getD 13 undef = .string (bx ((bigC.put a1 ++ bigC.put a2) ++ bigC.put a3)) := Loose.dep_of hdep 10 13 (by kernel_rfl)
     refine Loose.Step.value rfl (v := .string (bx ((bigC.put a1 ++ bigC.put a2) ++ bigC.put a3))) (w' := w1) ?_ rfl (Below.refl _ _)
     simp [go_sem, Act.eval, e0]
 · intro v0 v1 v2 v3 v4 v5 v6 v7 v8 v9 v10 v11 w6 hb6 hC
   have hlast : v11 = .string (bx ((bigC.put a1 ++ bigC.put a2) ++ bigC.put a3)) := hC.2
   subst hlast
   clear hC
   simp only [SpecOwn.put_lit, List.set_cons_succ, List.set_cons_zero]
   have BE := Lib.hid (B0.out.trans (hb6.mono B0.out.size))
   clear hb6
   go_wp2_with fail
   go_ret
   exact ⟨by rw [show resC.put (a1, a2, a3) = bigC.put a1 ++ (bigC.put a2 ++ bigC.put a3) from rfl, ← List.append_assoc]; rfl, BE.out⟩
def FLab (acc : List UInt8) (ad : Addr) (l : List Lbl) (cap j : Nat) (x : Lbl) : Nat → Value → World → Prop
 | 0 => fun v _ => v = .string (bx (acc))
 | 1 => fun v _ => v = .slice (some ad) l.length cap
 | 2 => fun v _ => v = .int .i64 (j : Nat)
 | 3 => fun v _ => v = .pointer (some (ad.add (j * 2)))
 | 4 => fun v _ => v = .pointer (some (ad.add (j * 2)))
 | 5 => fun v _ => v = .string x.key
 | 6 => fun v _ => v = .string (bx (txB x.key))
 | 7 => fun v _ => v = .string (bx (acc ++ txB x.key))
 | 8 => fun v _ => v = .slice (some ad) l.length cap
 | 9 => fun v _ => v = .int .i64 (j : Nat)
 | 10 => fun v _ => v = .pointer (some (ad.add (j * 2)))
 | 11 => fun v _ => v = .pointer (some ⟨(ad.add (j * 2)).block, (ad.add (j * 2)).off + 1, none⟩)
 | 12 => fun v _ => v = .string x.val
 | 13 => fun v _ => v = .string (bx (txB x.val))
 | 14 => fun v _ => v = .string (bx ((acc ++ txB x.key) ++ txB x.val))
 | _ => fun v _ => v = .string (bx ((acc ++ txB x.key) ++ txB x.val))
theorem FLab_keep (acc : List UInt8) (ad : Addr) (l : List Lbl) (cap j : Nat) (x : Lbl) (i : Nat) (v : Value) (w w' : World) (h : FLab acc ad l cap j x i v w) (hb : Below w.heap.size w w') : FLab acc ad l cap j x i v w' := by
 unfold FLab at h ⊢
 split at h <;> exact h
set_option maxRecDepth 100000 in
set_option maxHeartbeats 2000000 in
theorem labels_bytes (A : Option Addr) (cap : Nat) (l : List Lbl) (hn : l.length ≤ 1000) (hok : ∀ x ∈ l, x.key.size ≤ 1000 ∧ x.val.size ≤ 1000) (w : World) (hL : Lbls w A l) :
 Calls Tryz.prog 161 #[.slice A l.length cap] w fun e w' => e = .returned (.string (bx (labelsC.put l))) ∧ Below w.heap.size w w' := by
 have HOK := Lib.hid hok
 have HL := Lib.hid hL
 have hn' : (l.length : Int) ≤ 1000 := by omega
 clear hok hL
 have hle : (leb l.length).length ≤ 10 := leb_le_ten (by omega)
 go_enter Tryz.func161, Tryz.ntmps161
 go_wp2_with fail
 refine (number_ref (l.length : Int) (by omega) (by omega) w).mono ?_
 rintro e w1 ⟨rfl, hb1⟩
 have B1 := Lib.hid hb1
 clear hb1
 go_wp2_with fail
 go_loopw [3, 4] (fun s i wr => ∃ j : Nat, j ≤ l.length ∧ i = .int .i64 j ∧ s = .string (bx (leb l.length ++ (l.take j).flatMap labelC.put)) ∧ Hid (Below w.heap.size w wr)) (fun _ i _ => l.length - (RowKit.intOf i).toNat)
 case atStart => exact ⟨0, Nat.zero_le _, rfl, by simp, B1.out⟩
 case round =>
  obtain ⟨j, hj, rfl, rfl, HB⟩ := hrel
  by_cases hlt : j < l.length
  · have hlt2 : (j : Int) < (l.length : Int) := by omega
    have hox := HOK.out _ (List.getElem_mem hlt)
    have hpl := flat_put_len labelC.put 2020 (l.take j) (fun y hy => label_put_len (HOK.out y (List.mem_of_mem_take hy)))
    have hpl2 : ((l.take j).flatMap labelC.put).length ≤ 1000 * 2020 := Nat.le_trans hpl (Nat.mul_le_mul_right _ (by rw [List.length_take]; omega))
    have HNX := Lib.hid (show leb l.length ++ (l.take (j + 1)).flatMap labelC.put = (leb l.length ++ (l.take j).flatMap labelC.put) ++ labelC.put l[j] by
     rw [List.take_succ_eq_append_getElem hlt, List.flatMap_append, List.append_assoc]; simp)
    obtain ⟨acc, hacc⟩ : ∃ acc, leb l.length ++ (l.take j).flatMap labelC.put = acc := ⟨_, rfl⟩
    have hal : acc.length ≤ 3000000 := by rw [← hacc, List.length_append]; omega
    obtain ⟨x, hx⟩ : ∃ x, l[j] = x := ⟨_, rfl⟩
    rw [hx] at hox HNX
    rw [hacc] at HNX ⊢
    have HX := Lib.hid hx
    obtain ⟨n1, n2⟩ := hox
    have t1 : (txB x.key).length ≤ 10 + 1000 := txB_le n1
    have t2 : (txB x.val).length ≤ 10 + 1000 := txB_le n2
    obtain ⟨ad, hA, _, _⟩ := HL.out.at hlt
    subst hA
    clear hx hacc hpl hpl2
    go_wp2_with fail
    refine Late.wp_region_walk (by kernel_rfl) (by kernel_rfl) (FLab acc ad l cap j x) (FLab_keep acc ad l cap j x) ?_ ?_
    · refine ⟨?_, ?_, ?_, ?_, ?_, ?_, ?_, ?_, ?_, ?_, ?_, ?_, ?_, ?_, ?_, ?_, trivial⟩
      · intro a w1 hfr hdep hlate
        have f0 : a.tmps.getD 3 undef = .string (bx (acc)) := hlate 3 (by kernel_rfl)
        refine Loose.Step.value rfl (v := .string (bx (acc))) (w' := w1) ?_ rfl (Below.refl _ _)
        simp [go_sem, Act.eval, f0]
      · intro a w1 hfr hdep hlate
        have f0 : a.tmps.getD 0 undef = .slice (some ad) l.length cap := hlate 0 (by kernel_rfl)
        refine Loose.Step.value rfl (v := .slice (some ad) l.length cap) (w' := w1) ?_ rfl (Below.refl _ _)
        simp [go_sem, Act.eval, f0]
      · intro a w1 hfr hdep hlate
        have f0 : a.tmps.getD 4 undef = .int .i64 (j : Nat) := hlate 4 (by kernel_rfl)
        refine Loose.Step.value rfl (v := .int .i64 (j : Nat)) (w' := w1) ?_ rfl (Below.refl _ _)
        simp [go_sem, Act.eval, f0]
      · intro a w1 hfr hdep hlate
        have e0 : a.tmps.getD 15 undef = .slice (some ad) l.length cap := Loose.dep_of hdep 1 15 (by kernel_rfl)
        have e1 : a.tmps.getD 16 undef = .int .i64 (j : Nat) := Loose.dep_of hdep 2 16 (by kernel_rfl)
        refine Loose.Step.value rfl (v := .pointer (some (ad.add (j * 2)))) (w' := w1) ?_ rfl (Below.refl _ _)
        simp [go_sem, Act.eval, e0, e1, hlt, hlt2]
      · intro a w1 hfr hdep hlate
        have e0 : a.tmps.getD 17 undef = .pointer (some (ad.add (j * 2))) := Loose.dep_of hdep 3 17 (by kernel_rfl)
        refine Loose.Step.value rfl (v := .pointer (some (ad.add (j * 2)))) (w' := w1) ?_ rfl (Below.refl _ _)
        simp [go_sem, Act.eval, e0]
      · intro a w1 hfr hdep hlate
        obtain ⟨_, ha0, hla, hk0, hv0⟩ := (HL.out.below (HB.out.trans (hfr.below.mono HB.out.size))).at hlt
        obtain rfl := Option.some.inj ha0
        rw [HX.out] at hk0 hv0
        have e0 : a.tmps.getD 18 undef = .pointer (some (ad.add (j * 2))) := Loose.dep_of hdep 4 18 (by kernel_rfl)
        refine Loose.Step.value rfl (v := .string x.key) (w' := w1) ?_ rfl (Below.refl _ _)
        simp [go_sem, Act.eval, e0, hk0]
      · intro a w1 hfr hdep hlate
        have e0 : a.tmps.getD 19 undef = .string x.key := Loose.dep_of hdep 5 19 (by kernel_rfl)
        refine Loose.Step.call rfl (f := 72) (args := #[.string x.key]) ?_ ?_
        · simp [go_sem, Act.eval, e0]
        · refine (bytes_ref x.key (by omega) w1).mono ?_
          rintro e w2 ⟨rfl, hb⟩
          exact ⟨_, rfl, rfl, hb⟩
      · intro a w1 hfr hdep hlate
        have ha := bx_add (P := Tryz.prog) (a := acc) (b := txB x.key) (by omega) w1
        have e0 : a.tmps.getD 14 undef = .string (bx (acc)) := Loose.dep_of hdep 0 14 (by kernel_rfl)
        have e1 : a.tmps.getD 20 undef = .string (bx (txB x.key)) := Loose.dep_of hdep 6 20 (by kernel_rfl)
        refine Loose.Step.value rfl (v := .string (bx (acc ++ txB x.key))) (w' := w1) ?_ rfl (Below.refl _ _)
        simp [go_sem, Act.eval, e0, e1, ha, -List.append_assoc]
      · intro a w1 hfr hdep hlate
        have f0 : a.tmps.getD 0 undef = .slice (some ad) l.length cap := hlate 0 (by kernel_rfl)
        refine Loose.Step.value rfl (v := .slice (some ad) l.length cap) (w' := w1) ?_ rfl (Below.refl _ _)
        simp [go_sem, Act.eval, f0]
      · intro a w1 hfr hdep hlate
        have f0 : a.tmps.getD 4 undef = .int .i64 (j : Nat) := hlate 4 (by kernel_rfl)
        refine Loose.Step.value rfl (v := .int .i64 (j : Nat)) (w' := w1) ?_ rfl (Below.refl _ _)
        simp [go_sem, Act.eval, f0]
      · intro a w1 hfr hdep hlate
        have e0 : a.tmps.getD 22 undef = .slice (some ad) l.length cap := Loose.dep_of hdep 8 22 (by kernel_rfl)
        have e1 : a.tmps.getD 23 undef = .int .i64 (j : Nat) := Loose.dep_of hdep 9 23 (by kernel_rfl)
        refine Loose.Step.value rfl (v := .pointer (some (ad.add (j * 2)))) (w' := w1) ?_ rfl (Below.refl _ _)
        simp [go_sem, Act.eval, e0, e1, hlt, hlt2]
      · intro a w1 hfr hdep hlate
        have e0 : a.tmps.getD 24 undef = .pointer (some (ad.add (j * 2))) := Loose.dep_of hdep 10 24 (by kernel_rfl)
        refine Loose.Step.value rfl (v := .pointer (some ⟨(ad.add (j * 2)).block, (ad.add (j * 2)).off + 1, none⟩)) (w' := w1) ?_ rfl (Below.refl _ _)
        simp [go_sem, Act.eval, e0]
      · intro a w1 hfr hdep hlate
        obtain ⟨_, ha0, hla, hk0, hv0⟩ := (HL.out.below (HB.out.trans (hfr.below.mono HB.out.size))).at hlt
        obtain rfl := Option.some.inj ha0
        rw [HX.out] at hk0 hv0
        have e0 : a.tmps.getD 25 undef = .pointer (some ⟨(ad.add (j * 2)).block, (ad.add (j * 2)).off + 1, none⟩) := Loose.dep_of hdep 11 25 (by kernel_rfl)
        refine Loose.Step.value rfl (v := .string x.val) (w' := w1) ?_ rfl (Below.refl _ _)
        simp [go_sem, Act.eval, e0, hv0]
      · intro a w1 hfr hdep hlate
        have e0 : a.tmps.getD 26 undef = .string x.val := Loose.dep_of hdep 12 26 (by kernel_rfl)
        refine Loose.Step.call rfl (f := 72) (args := #[.string x.val]) ?_ ?_
        · simp [go_sem, Act.eval, e0]
        · refine (bytes_ref x.val (by omega) w1).mono ?_
          rintro e w2 ⟨rfl, hb⟩
          exact ⟨_, rfl, rfl, hb⟩
      · intro a w1 hfr hdep hlate
        have ha := bx_add (P := Tryz.prog) (a := (acc ++ txB x.key)) (b := txB x.val) (by (try simp only [List.length_append]); omega) w1
        have e0 : a.tmps.getD 21 undef = .string (bx (acc ++ txB x.key)) := Loose.dep_of hdep 7 21 (by kernel_rfl)
        have e1 : a.tmps.getD 27 undef = .string (bx (txB x.val)) := Loose.dep_of hdep 13 27 (by kernel_rfl)
        refine Loose.Step.value rfl (v := .string (bx ((acc ++ txB x.key) ++ txB x.val))) (w' := w1) ?_ rfl (Below.refl _ _)
        simp [go_sem, Act.eval, e0, e1, ha, -List.append_assoc]
      · intro a w1 hfr hdep hlate
        have e0 : a.tmps.getD 28 undef = .string (bx ((acc ++ txB x.key) ++ txB x.val)) := Loose.dep_of hdep 14 28 (by kernel_rfl)
        refine Loose.Step.value rfl (v := .string (bx ((acc ++ txB x.key) ++ txB x.val))) (w' := w1) ?_ rfl (Below.refl _ _)
        simp [go_sem, Act.eval, e0]
    · intro v0 v1 v2 v3 v4 v5 v6 v7 v8 v9 v10 v11 v12 v13 v14 v15 w6 hb6 hC
      have hlast : v15 = .string (bx ((acc ++ txB x.key) ++ txB x.val)) := hC.2
      subst hlast
      clear hC
      simp only [SpecOwn.put_lit, List.set_cons_succ, List.set_cons_zero]
      have HE := Lib.hid (HB.out.trans (hb6.mono HB.out.size))
      clear hb6
      go_wp2_with fail
      go_roundw
      case rel => exact ⟨j + 1, by omega, by go_num, by rw [HNX.out, label_put_eq, ← List.append_assoc], HE.out⟩
      case measure => simp [RowKit.intOf]; omega
  · obtain rfl : j = l.length := by omega
    have hlt2 : ¬ (l.length : Int) < (l.length : Int) := by omega
    have HT := Lib.hid (show leb l.length ++ (l.take l.length).flatMap labelC.put = labelsC.put l by rw [List.take_length]; rfl)
    rw [HT.out]
    go_wp2
    go_ret
    exact ⟨rfl, HB.out⟩
def FCt (acc : List UInt8) (g : Nat) (x : Ctr) (P : Option Addr) (pc : Nat) : Nat → Value → World → Prop
 | 0 => fun v _ => v = .string (bx (acc))
 | 1 => fun v _ => v = .pointer (some ⟨g, 0, none⟩)
 | 2 => fun v _ => v = .string x.name
 | 3 => fun v _ => v = .string (bx (txB x.name))
 | 4 => fun v _ => v = .string (bx (acc ++ txB x.name))
 | 5 => fun v _ => v = .pointer (some ⟨g, 1, none⟩)
 | 6 => fun v _ => v = .string x.image
 | 7 => fun v _ => v = .string (bx (txB x.image))
 | 8 => fun v _ => v = .string (bx ((acc ++ txB x.name) ++ txB x.image))
 | 9 => fun v _ => v = .pointer (some ⟨g, 2, none⟩)
 | 10 => fun v _ => v = .agg #[.int .i64 x.rc, .int .i64 x.rm, .int .i64 x.rp]
 | 11 => fun v _ => v = .string (bx (resC.put (x.rc, x.rm, x.rp)))
 | 12 => fun v _ => v = .string (bx (((acc ++ txB x.name) ++ txB x.image) ++ resC.put (x.rc, x.rm, x.rp)))
 | 13 => fun v _ => v = .pointer (some ⟨g, 5, none⟩)
 | 14 => fun v _ => v = .agg #[.int .i64 x.lc, .int .i64 x.lm, .int .i64 x.lp]
 | 15 => fun v _ => v = .string (bx (resC.put (x.lc, x.lm, x.lp)))
 | 16 => fun v _ => v = .string (bx ((((acc ++ txB x.name) ++ txB x.image) ++ resC.put (x.rc, x.rm, x.rp)) ++ resC.put (x.lc, x.lm, x.lp)))
 | 17 => fun v _ => v = .pointer (some ⟨g, 8, none⟩)
 | 18 => fun v _ => v = .slice P x.ports.length pc
 | 19 => fun v _ => v = .int .i64 (x.ports.length : Nat)
 | 20 => fun v _ => v = .string (bx (leb x.ports.length))
 | 21 => fun v _ => v = .string (bx (((((acc ++ txB x.name) ++ txB x.image) ++ resC.put (x.rc, x.rm, x.rp)) ++ resC.put (x.lc, x.lm, x.lp)) ++ leb x.ports.length))
 | _ => fun v _ => v = .string (bx ((((((acc ++ txB x.name) ++ txB x.image) ++ resC.put (x.rc, x.rm, x.rp)) ++ resC.put (x.lc, x.lm, x.lp)) ++ leb x.ports.length)))
theorem FCt_keep (acc : List UInt8) (g : Nat) (x : Ctr) (P : Option Addr) (pc : Nat) (i : Nat) (v : Value) (w w' : World) (h : FCt acc g x P pc i v w) (hb : Below w.heap.size w w') : FCt acc g x P pc i v w' := by
 unfold FCt at h ⊢
 split at h <;> exact h
def FCe (acc : List UInt8) (g : Nat) (x : Ctr) (P : Option Addr) (pc : Nat) : Nat → Value → World → Prop
 | 0 => fun v _ => v = .string (bx (acc))
 | 1 => fun v _ => v = .pointer (some ⟨g, 9, none⟩)
 | 2 => fun v _ => v = .pointer (some ⟨g, 9, none⟩)
 | 3 => fun v _ => v = .int .i64 x.ev
 | 4 => fun v _ => v = .string (bx ((intC 1000 (by decide)).put x.ev))
 | 5 => fun v _ => v = .string (bx (acc ++ (intC 1000 (by decide)).put x.ev))
 | 6 => fun v _ => v = .pointer (some ⟨g, 9, none⟩)
 | 7 => fun v _ => v = .pointer (some ⟨g, 10, none⟩)
 | 8 => fun v _ => v = .int .i64 x.fl
 | 9 => fun v _ => v = .string (bx ((intC 10 (by decide)).put x.fl))
 | 10 => fun v _ => v = .string (bx ((acc ++ (intC 1000 (by decide)).put x.ev) ++ (intC 10 (by decide)).put x.fl))
 | _ => fun v _ => v = .string (bx ((acc ++ (intC 1000 (by decide)).put x.ev) ++ (intC 10 (by decide)).put x.fl))
theorem FCe_keep (acc : List UInt8) (g : Nat) (x : Ctr) (P : Option Addr) (pc : Nat) (i : Nat) (v : Value) (w w' : World) (h : FCe acc g x P pc i v w) (hb : Below w.heap.size w w') : FCe acc g x P pc i v w' := by
 unfold FCe at h ⊢
 split at h <;> exact h
set_option maxRecDepth 100000 in
set_option maxHeartbeats 4000000 in
theorem ctrs_bytes (A : Option Addr) (cap : Nat) (l : List Ctr) (hn : l.length ≤ 4) (hok : ∀ x ∈ l, ctrC.ok x) (w : World) (hL : Ctrs w A l) :
 Calls Tryz.prog 162 #[.slice A l.length cap] w fun e w' => e = .returned (.string (bx (listP ctrC.put l))) ∧ Below w.heap.size w w' := by
 have HOK := Lib.hid hok
 have HL := Lib.hid hL
 have hn' : (l.length : Int) ≤ 4 := by omega
 clear hok hL
 have hle : (leb l.length).length ≤ 10 := leb_le_ten (by omega)
 go_enter Tryz.func162, Tryz.ntmps162
 go_wp2_with fail
 refine (number_nat l.length (by omega) w).mono ?_
 rintro e w1 ⟨rfl, hb1⟩
 have B1 := Lib.hid hb1
 clear hb1
 go_wp2_with fail
 go_loopw [3, 4] (fun s i wr => ∃ j : Nat, j ≤ l.length ∧ i = .int .i64 j ∧ s = .string (bx (leb l.length ++ (l.take j).flatMap ctrC.put)) ∧ Hid (Below w.heap.size w wr)) (fun _ i _ => l.length - (RowKit.intOf i).toNat)
 case atStart => exact ⟨0, Nat.zero_le _, rfl, by simp, B1.out⟩
 case round =>
  obtain ⟨j, hj, rfl, rfl, HB⟩ := hrel
  by_cases hlt : j < l.length
  · have hlt2 : (j : Int) < (l.length : Int) := by omega
    have hox := HOK.out _ (List.getElem_mem hlt)
    have hpl := flat_put_len ctrC.put 300 (l.take j) (fun y hy => ctr_put_len (HOK.out y (List.mem_of_mem_take hy)))
    have hpl2 : ((l.take j).flatMap ctrC.put).length ≤ 4 * 300 := Nat.le_trans hpl (Nat.mul_le_mul_right _ (by rw [List.length_take]; omega))
    have HNX := Lib.hid (show leb l.length ++ (l.take (j + 1)).flatMap ctrC.put = (leb l.length ++ (l.take j).flatMap ctrC.put) ++ ctrC.put l[j] by
     rw [List.take_succ_eq_append_getElem hlt, List.flatMap_append, List.append_assoc]; simp)
    obtain ⟨acc, hacc⟩ : ∃ acc, leb l.length ++ (l.take j).flatMap ctrC.put = acc := ⟨_, rfl⟩
    have hal : acc.length ≤ 3000 := by rw [← hacc, List.length_append]; omega
    obtain ⟨_, ad, P, pc, hA, ha, hc0, hnp⟩ := HL.out.at hlt
    have hc := hc0.keep (w' := wr) (by rw [Lists.add_block]; exact HB.out.block _ ha)
    obtain ⟨x, hx⟩ : ∃ x, l[j] = x := ⟨_, rfl⟩
    rw [hx] at hox HNX hc hnp
    rw [hacc] at HNX ⊢
    obtain ⟨⟨o1, o2, o3, o4, ⟨o5a, o5⟩, o6, o7⟩, _⟩ := hox
    have n1 : x.name.size ≤ 16 := o1
    have n2 : x.image.size ≤ 33 := o2
    have n5 : x.ports.length ≤ 3 := o5a
    have l1 : (txB x.name).length ≤ 10 + 16 := txB_le n1
    have l2 : (txB x.image).length ≤ 10 + 33 := txB_le n2
    have l3 : (resC.put (x.rc, x.rm, x.rp)).length ≤ 30 := res_put_len o3
    have l4 : (resC.put (x.lc, x.lm, x.lp)).length ≤ 30 := res_put_len o4
    have l5 : (leb x.ports.length).length ≤ 10 := leb_le_ten (by omega)
    have l6 : ((intC 1000 (by decide)).put x.ev).length ≤ 10 := int_put_len o6
    have l7 : ((intC 10 (by decide)).put x.fl).length ≤ 10 := int_put_len o7
    have O3 := Lib.hid o3
    have O4 := Lib.hid o4
    have O5 := Lib.hid o5
    have O6 := Lib.hid o6
    have O7 := Lib.hid o7
    have NP := Lib.hid hnp
    subst hA
    obtain ⟨c0, c1, c2, c3, c4, c5, c6, c7, c8, c9, c10, _⟩ := hc
    clear hx hacc hpl hpl2 hc0 hnp o1 o2 o3 o4 o5a o5 o6 o7
    go_wp2_with fail
    obtain ⟨w2, hw2⟩ : ∃ v, wr.alloc (.cells #[.string x.name, .string x.image, .int .i64 x.rc, .int .i64 x.rm, .int .i64 x.rp, .int .i64 x.lc, .int .i64 x.lm, .int .i64 x.lp, .slice P x.ports.length pc, .int .i64 x.ev, .int .i64 x.fl] 74) = v := ⟨_, rfl⟩
    have Z := Lib.hid (show w2.heap[wr.heap.size]? = some (.cells #[.string x.name, .string x.image, .int .i64 x.rc, .int .i64 x.rm, .int .i64 x.rp, .int .i64 x.lc, .int .i64 x.lm, .int .i64 x.lp, .slice P x.ports.length pc, .int .i64 x.ev, .int .i64 x.fl] 74 (0, 0)) by rw [← hw2]; exact heap_alloc_new wr _)
    have B2 := Lib.hid (show Below w.heap.size w w2 by rw [← hw2]; exact HB.out.alloc HB.out.size _)
    rw [hw2]
    obtain ⟨g, hg⟩ : ∃ g, wr.heap.size = g := ⟨_, rfl⟩
    rw [hg] at Z ⊢
    clear hw2 hg c0 c1 c2 c3 c4 c5 c6 c7 c8 c9 c10
    refine Late.wp_region_walk (by kernel_rfl) (by kernel_rfl) (FCt acc g x P pc) (FCt_keep acc g x P pc) ?_ ?_
    · refine ⟨?_, ?_, ?_, ?_, ?_, ?_, ?_, ?_, ?_, ?_, ?_, ?_, ?_, ?_, ?_, ?_, ?_, ?_, ?_, ?_, ?_, ?_, ?_, trivial⟩
      · intro a w1 hfr hdep hlate
        have f0 : a.tmps.getD 3 undef = .string (bx (acc)) := hlate 3 (by kernel_rfl)
        refine Loose.Step.value rfl (v := .string (bx (acc))) (w' := w1) ?_ rfl (Below.refl _ _)
        simp [go_sem, Act.eval, f0]
      · intro a w1 hfr hdep hlate
        have f0 : a.tmps.getD 5 undef = .pointer (some ⟨g, 0, none⟩) := hlate 5 (by kernel_rfl)
        refine Loose.Step.value rfl (v := .pointer (some ⟨g, 0, none⟩)) (w' := w1) ?_ rfl (Below.refl _ _)
        simp [go_sem, Act.eval, f0]
      · intro a w1 hfr hdep hlate
        have hz := (hfr.below.block g (lt_of_block Z.out)).trans Z.out
        have hc0 : w1.cell? ⟨g, 0, none⟩ = some (.string x.name) := by simp [World.cell?, hz]
        clear hz
        have e0 : a.tmps.getD 21 undef = .pointer (some ⟨g, 0, none⟩) := Loose.dep_of hdep 1 21 (by kernel_rfl)
        refine Loose.Step.value rfl (v := .string x.name) (w' := w1) ?_ rfl (Below.refl _ _)
        simp [go_sem, Act.eval, e0, hc0]
      · intro a w1 hfr hdep hlate
        have e0 : a.tmps.getD 22 undef = .string x.name := Loose.dep_of hdep 2 22 (by kernel_rfl)
        refine Loose.Step.call rfl (f := 72) (args := #[.string x.name]) ?_ ?_
        · simp [go_sem, Act.eval, e0]
        · refine (bytes_ref x.name (by omega) w1).mono ?_
          rintro e w2 ⟨rfl, hb⟩
          exact ⟨_, rfl, rfl, hb⟩
      · intro a w1 hfr hdep hlate
        have ha := bx_add (P := Tryz.prog) (a := acc) (b := txB x.name) (by (try simp only [List.length_append]); omega) w1
        have e0 : a.tmps.getD 20 undef = .string (bx (acc)) := Loose.dep_of hdep 0 20 (by kernel_rfl)
        have e1 : a.tmps.getD 23 undef = .string (bx (txB x.name)) := Loose.dep_of hdep 3 23 (by kernel_rfl)
        refine Loose.Step.value rfl (v := .string (bx (acc ++ txB x.name))) (w' := w1) ?_ rfl (Below.refl _ _)
        simp [go_sem, Act.eval, e0, e1, ha, -List.append_assoc]
      · intro a w1 hfr hdep hlate
        have f0 : a.tmps.getD 5 undef = .pointer (some ⟨g, 0, none⟩) := hlate 5 (by kernel_rfl)
        refine Loose.Step.value rfl (v := .pointer (some ⟨g, 1, none⟩)) (w' := w1) ?_ rfl (Below.refl _ _)
        simp [go_sem, Act.eval, f0]
      · intro a w1 hfr hdep hlate
        have hz := (hfr.below.block g (lt_of_block Z.out)).trans Z.out
        have hc1 : w1.cell? ⟨g, 1, none⟩ = some (.string x.image) := by simp [World.cell?, hz]
        clear hz
        have e0 : a.tmps.getD 25 undef = .pointer (some ⟨g, 1, none⟩) := Loose.dep_of hdep 5 25 (by kernel_rfl)
        refine Loose.Step.value rfl (v := .string x.image) (w' := w1) ?_ rfl (Below.refl _ _)
        simp [go_sem, Act.eval, e0, hc1]
      · intro a w1 hfr hdep hlate
        have e0 : a.tmps.getD 26 undef = .string x.image := Loose.dep_of hdep 6 26 (by kernel_rfl)
        refine Loose.Step.call rfl (f := 72) (args := #[.string x.image]) ?_ ?_
        · simp [go_sem, Act.eval, e0]
        · refine (bytes_ref x.image (by omega) w1).mono ?_
          rintro e w2 ⟨rfl, hb⟩
          exact ⟨_, rfl, rfl, hb⟩
      · intro a w1 hfr hdep hlate
        have ha := bx_add (P := Tryz.prog) (a := (acc ++ txB x.name)) (b := txB x.image) (by (try simp only [List.length_append]); omega) w1
        have e0 : a.tmps.getD 24 undef = .string (bx (acc ++ txB x.name)) := Loose.dep_of hdep 4 24 (by kernel_rfl)
        have e1 : a.tmps.getD 27 undef = .string (bx (txB x.image)) := Loose.dep_of hdep 7 27 (by kernel_rfl)
        refine Loose.Step.value rfl (v := .string (bx ((acc ++ txB x.name) ++ txB x.image))) (w' := w1) ?_ rfl (Below.refl _ _)
        simp [go_sem, Act.eval, e0, e1, ha, -List.append_assoc]
      · intro a w1 hfr hdep hlate
        have f0 : a.tmps.getD 5 undef = .pointer (some ⟨g, 0, none⟩) := hlate 5 (by kernel_rfl)
        refine Loose.Step.value rfl (v := .pointer (some ⟨g, 2, none⟩)) (w' := w1) ?_ rfl (Below.refl _ _)
        simp [go_sem, Act.eval, f0]
      · intro a w1 hfr hdep hlate
        have hz := (hfr.below.block g (lt_of_block Z.out)).trans Z.out
        have hc2 : w1.cell? ⟨g, 2, none⟩ = some (.int .i64 x.rc) := by simp [World.cell?, hz]
        have hc3 : w1.cell? ⟨g, 3, none⟩ = some (.int .i64 x.rm) := by simp [World.cell?, hz]
        have hc4 : w1.cell? ⟨g, 4, none⟩ = some (.int .i64 x.rp) := by simp [World.cell?, hz]
        clear hz
        have e0 : a.tmps.getD 29 undef = .pointer (some ⟨g, 2, none⟩) := Loose.dep_of hdep 9 29 (by kernel_rfl)
        refine Loose.Step.value rfl (v := .agg #[.int .i64 x.rc, .int .i64 x.rm, .int .i64 x.rp]) (w' := w1) ?_ rfl (Below.refl _ _)
        simp [go_sem, Act.eval, e0, hc2, hc3, hc4]
      · intro a w1 hfr hdep hlate
        have e0 : a.tmps.getD 30 undef = .agg #[.int .i64 x.rc, .int .i64 x.rm, .int .i64 x.rp] := Loose.dep_of hdep 10 30 (by kernel_rfl)
        refine Loose.Step.call rfl (f := 193) (args := #[.agg #[.int .i64 x.rc, .int .i64 x.rm, .int .i64 x.rp]]) ?_ ?_
        · simp [go_sem, Act.eval, e0]
        · refine (res_ref x.rc x.rm x.rp O3.out w1).mono ?_
          rintro e w2 ⟨rfl, hb⟩
          exact ⟨_, rfl, rfl, hb⟩
      · intro a w1 hfr hdep hlate
        have ha := bx_add (P := Tryz.prog) (a := ((acc ++ txB x.name) ++ txB x.image)) (b := resC.put (x.rc, x.rm, x.rp)) (by (try simp only [List.length_append]); omega) w1
        have e0 : a.tmps.getD 28 undef = .string (bx ((acc ++ txB x.name) ++ txB x.image)) := Loose.dep_of hdep 8 28 (by kernel_rfl)
        have e1 : a.tmps.getD 31 undef = .string (bx (resC.put (x.rc, x.rm, x.rp))) := Loose.dep_of hdep 11 31 (by kernel_rfl)
        refine Loose.Step.value rfl (v := .string (bx (((acc ++ txB x.name) ++ txB x.image) ++ resC.put (x.rc, x.rm, x.rp)))) (w' := w1) ?_ rfl (Below.refl _ _)
        simp [go_sem, Act.eval, e0, e1, ha, -List.append_assoc]
      · intro a w1 hfr hdep hlate
        have f0 : a.tmps.getD 5 undef = .pointer (some ⟨g, 0, none⟩) := hlate 5 (by kernel_rfl)
        refine Loose.Step.value rfl (v := .pointer (some ⟨g, 5, none⟩)) (w' := w1) ?_ rfl (Below.refl _ _)
        simp [go_sem, Act.eval, f0]
      · intro a w1 hfr hdep hlate
        have hz := (hfr.below.block g (lt_of_block Z.out)).trans Z.out
        have hc5 : w1.cell? ⟨g, 5, none⟩ = some (.int .i64 x.lc) := by simp [World.cell?, hz]
        have hc6 : w1.cell? ⟨g, 6, none⟩ = some (.int .i64 x.lm) := by simp [World.cell?, hz]
        have hc7 : w1.cell? ⟨g, 7, none⟩ = some (.int .i64 x.lp) := by simp [World.cell?, hz]
        clear hz
        have e0 : a.tmps.getD 33 undef = .pointer (some ⟨g, 5, none⟩) := Loose.dep_of hdep 13 33 (by kernel_rfl)
        refine Loose.Step.value rfl (v := .agg #[.int .i64 x.lc, .int .i64 x.lm, .int .i64 x.lp]) (w' := w1) ?_ rfl (Below.refl _ _)
        simp [go_sem, Act.eval, e0, hc5, hc6, hc7]
      · intro a w1 hfr hdep hlate
        have e0 : a.tmps.getD 34 undef = .agg #[.int .i64 x.lc, .int .i64 x.lm, .int .i64 x.lp] := Loose.dep_of hdep 14 34 (by kernel_rfl)
        refine Loose.Step.call rfl (f := 193) (args := #[.agg #[.int .i64 x.lc, .int .i64 x.lm, .int .i64 x.lp]]) ?_ ?_
        · simp [go_sem, Act.eval, e0]
        · refine (res_ref x.lc x.lm x.lp O4.out w1).mono ?_
          rintro e w2 ⟨rfl, hb⟩
          exact ⟨_, rfl, rfl, hb⟩
      · intro a w1 hfr hdep hlate
        have ha := bx_add (P := Tryz.prog) (a := (((acc ++ txB x.name) ++ txB x.image) ++ resC.put (x.rc, x.rm, x.rp))) (b := resC.put (x.lc, x.lm, x.lp)) (by (try simp only [List.length_append]); omega) w1
        have e0 : a.tmps.getD 32 undef = .string (bx (((acc ++ txB x.name) ++ txB x.image) ++ resC.put (x.rc, x.rm, x.rp))) := Loose.dep_of hdep 12 32 (by kernel_rfl)
        have e1 : a.tmps.getD 35 undef = .string (bx (resC.put (x.lc, x.lm, x.lp))) := Loose.dep_of hdep 15 35 (by kernel_rfl)
        refine Loose.Step.value rfl (v := .string (bx ((((acc ++ txB x.name) ++ txB x.image) ++ resC.put (x.rc, x.rm, x.rp)) ++ resC.put (x.lc, x.lm, x.lp)))) (w' := w1) ?_ rfl (Below.refl _ _)
        simp [go_sem, Act.eval, e0, e1, ha, -List.append_assoc]
      · intro a w1 hfr hdep hlate
        have f0 : a.tmps.getD 5 undef = .pointer (some ⟨g, 0, none⟩) := hlate 5 (by kernel_rfl)
        refine Loose.Step.value rfl (v := .pointer (some ⟨g, 8, none⟩)) (w' := w1) ?_ rfl (Below.refl _ _)
        simp [go_sem, Act.eval, f0]
      · intro a w1 hfr hdep hlate
        have hz := (hfr.below.block g (lt_of_block Z.out)).trans Z.out
        have hc8 : w1.cell? ⟨g, 8, none⟩ = some (.slice P x.ports.length pc) := by simp [World.cell?, hz]
        clear hz
        have e0 : a.tmps.getD 37 undef = .pointer (some ⟨g, 8, none⟩) := Loose.dep_of hdep 17 37 (by kernel_rfl)
        refine Loose.Step.value rfl (v := .slice P x.ports.length pc) (w' := w1) ?_ rfl (Below.refl _ _)
        simp [go_sem, Act.eval, e0, hc8]
      · intro a w1 hfr hdep hlate
        have e0 : a.tmps.getD 38 undef = .slice P x.ports.length pc := Loose.dep_of hdep 18 38 (by kernel_rfl)
        refine Loose.Step.value rfl (v := .int .i64 (x.ports.length : Nat)) (w' := w1) ?_ rfl (Below.refl _ _)
        simp [go_sem, Act.eval, e0]
      · intro a w1 hfr hdep hlate
        have e0 : a.tmps.getD 39 undef = .int .i64 (x.ports.length : Nat) := Loose.dep_of hdep 19 39 (by kernel_rfl)
        refine Loose.Step.call rfl (f := 163) (args := #[.int .i64 (x.ports.length : Nat)]) ?_ ?_
        · simp [go_sem, Act.eval, e0]
        · refine (number_nat x.ports.length (by omega) w1).mono ?_
          rintro e w2 ⟨rfl, hb⟩
          exact ⟨_, rfl, rfl, hb⟩
      · intro a w1 hfr hdep hlate
        have ha := bx_add (P := Tryz.prog) (a := ((((acc ++ txB x.name) ++ txB x.image) ++ resC.put (x.rc, x.rm, x.rp)) ++ resC.put (x.lc, x.lm, x.lp))) (b := leb x.ports.length) (by (try simp only [List.length_append]); omega) w1
        have e0 : a.tmps.getD 36 undef = .string (bx ((((acc ++ txB x.name) ++ txB x.image) ++ resC.put (x.rc, x.rm, x.rp)) ++ resC.put (x.lc, x.lm, x.lp))) := Loose.dep_of hdep 16 36 (by kernel_rfl)
        have e1 : a.tmps.getD 40 undef = .string (bx (leb x.ports.length)) := Loose.dep_of hdep 20 40 (by kernel_rfl)
        refine Loose.Step.value rfl (v := .string (bx (((((acc ++ txB x.name) ++ txB x.image) ++ resC.put (x.rc, x.rm, x.rp)) ++ resC.put (x.lc, x.lm, x.lp)) ++ leb x.ports.length))) (w' := w1) ?_ rfl (Below.refl _ _)
        simp [go_sem, Act.eval, e0, e1, ha, -List.append_assoc]
      · intro a w1 hfr hdep hlate
        have e0 : a.tmps.getD 41 undef = .string (bx (((((acc ++ txB x.name) ++ txB x.image) ++ resC.put (x.rc, x.rm, x.rp)) ++ resC.put (x.lc, x.lm, x.lp)) ++ leb x.ports.length)) := Loose.dep_of hdep 21 41 (by kernel_rfl)
        refine Loose.Step.value rfl (v := .string (bx ((((((acc ++ txB x.name) ++ txB x.image) ++ resC.put (x.rc, x.rm, x.rp)) ++ resC.put (x.lc, x.lm, x.lp)) ++ leb x.ports.length)))) (w' := w1) ?_ rfl (Below.refl _ _)
        simp [go_sem, Act.eval, e0]
    · intro v0 v1 v2 v3 v4 v5 v6 v7 v8 v9 v10 v11 v12 v13 v14 v15 v16 v17 v18 v19 v20 v21 v22 w6 hb6 hC
      have hlast : v22 = .string (bx ((((((acc ++ txB x.name) ++ txB x.image) ++ resC.put (x.rc, x.rm, x.rp)) ++ resC.put (x.lc, x.lm, x.lp)) ++ leb x.ports.length))) := hC.2
      subst hlast
      clear hC
      simp only [SpecOwn.put_lit, List.set_cons_succ, List.set_cons_zero]
      have B6 := Lib.hid (B2.out.trans (hb6.mono B2.out.size))
      have Z6 := Lib.hid ((hb6.block g (lt_of_block Z.out)).trans Z.out)
      clear hb6 Z
      obtain ⟨ac2, hac2⟩ : ∃ ac2, (((((acc ++ txB x.name) ++ txB x.image) ++ resC.put (x.rc, x.rm, x.rp)) ++ resC.put (x.lc, x.lm, x.lp)) ++ leb x.ports.length) = ac2 := ⟨_, rfl⟩
      have hal2 : ac2.length ≤ 4000 := by rw [← hac2]; simp only [List.length_append]; omega
      rw [hac2]
      have HAC2 := Lib.hid hac2
      clear hac2
      have hn5' : (x.ports.length : Int) ≤ 3 := by omega
      go_wp2_with fail
      go_loopw [3, 6] (fun s i wl => ∃ k : Nat, k ≤ x.ports.length ∧ i = .int .i64 k ∧ s = .string (bx (ac2 ++ (x.ports.take k).flatMap portC.put)) ∧ Hid (Below w6.heap.size w6 wl)) (fun _ i _ => x.ports.length - (RowKit.intOf i).toNat)
      case atStart => exact ⟨0, Nat.zero_le _, rfl, by simp, Below.refl _ _⟩
      case round =>
       obtain ⟨k, hk, rfl, rfl, HK⟩ := hrel
       have hz := (HK.out.block g (lt_of_block Z6.out)).trans Z6.out
       have hc8 : wr.cell? ⟨g, 8, none⟩ = some (.slice P x.ports.length pc) := by simp [World.cell?, hz]
       have Z := Lib.hid hz
       have hqpl := flat_put_len portC.put 10 (x.ports.take k) (fun y hy => port_put_len (O5.out y (List.mem_of_mem_take hy)))
       have hqpl2 : ((x.ports.take k).flatMap portC.put).length ≤ 3 * 10 := Nat.le_trans hqpl (Nat.mul_le_mul_right _ (by rw [List.length_take]; omega))
       clear hz hqpl
       by_cases hlk : k < x.ports.length
       · have hlk2 : (k : Int) < (x.ports.length : Int) := by omega
         obtain ⟨_, pa, hpa, hpl, hcp⟩ := (Sd.Nums.below NP.out (B6.out.trans (HK.out.mono B6.out.size))) k _ (List.getElem?_eq_getElem hlk)
         have hop := O5.out _ (List.getElem_mem hlk)
         have HPX := Lib.hid (show ac2 ++ (x.ports.take (k + 1)).flatMap portC.put = (ac2 ++ (x.ports.take k).flatMap portC.put) ++ portC.put x.ports[k] by
          rw [List.take_succ_eq_append_getElem hlk, List.flatMap_append, List.append_assoc]; simp)
         obtain ⟨z, hz⟩ : ∃ z, x.ports[k] = z := ⟨_, rfl⟩
         rw [hz] at hcp hop HPX
         obtain ⟨ac3, hac3⟩ : ∃ ac3, ac2 ++ (x.ports.take k).flatMap portC.put = ac3 := ⟨_, rfl⟩
         have hal3 : ac3.length ≤ 4100 := by rw [← hac3, List.length_append]; omega
         rw [hac3] at HPX ⊢
         have hzl : (portC.put z).length ≤ 10 := port_put_len hop
         have hadd : ∀ v, (Op.stringOp .add (bx ac3) (bx (portC.put z))).run Tryz.prog v = .ok (.string (bx (ac3 ++ portC.put z))) v := fun v => bx_add (by omega) v
         have HRUN := Lib.hid (number_ref z (int_rng hop).1 (by have := (int_rng hop).2; omega) wr)
         subst hpa
         clear hz hac3 hpl hop
         go_wp2_with fail
         refine HRUN.out.mono ?_
         rintro e w7 ⟨rfl, hb7⟩
         have HK7 := Lib.hid (HK.out.trans (hb7.mono HK.out.size))
         clear hb7 HRUN
         rw [show leb z.toNat = portC.put z from rfl]
         go_wp2_with fail
         go_roundw
         case rel => exact ⟨k + 1, by omega, by go_num, by rw [HPX.out], HK7.out⟩
         case measure => simp [RowKit.intOf]; omega
       · obtain rfl : k = x.ports.length := by omega
         have hlk2 : ¬ (x.ports.length : Int) < (x.ports.length : Int) := by omega
         rw [List.take_length] at hqpl2 ⊢
         have HBK := Lib.hid (show Below w.heap.size w wr from B6.out.trans (HK.out.mono B6.out.size))
         have HFI := Lib.hid (show acc ++ ctrC.put x = (ac2 ++ x.ports.flatMap portC.put) ++ (intC 1000 (by decide)).put x.ev ++ (intC 10 (by decide)).put x.fl by
          rw [← HAC2.out, ctr_put_eq, show portsC.put x.ports = leb x.ports.length ++ x.ports.flatMap portC.put from rfl]
          simp only [List.append_assoc])
         obtain ⟨acc0, hacc0⟩ : ∃ q, acc = q := ⟨_, rfl⟩
         rw [hacc0] at HFI HNX
         obtain ⟨acc, hac4⟩ : ∃ q, ac2 ++ x.ports.flatMap portC.put = q := ⟨_, rfl⟩
         have hal4 : acc.length ≤ 4100 := by rw [← hac4, List.length_append]; omega
         rw [hac4] at HFI ⊢
         clear hac4
         go_wp2_with fail
         refine Late.wp_region_walk (by kernel_rfl) (by kernel_rfl) (FCe acc g x P pc) (FCe_keep acc g x P pc) ?_ ?_
         · refine ⟨?_, ?_, ?_, ?_, ?_, ?_, ?_, ?_, ?_, ?_, ?_, ?_, trivial⟩
           · intro a w1 hfr hdep hlate
             have f0 : a.tmps.getD 3 undef = .string (bx (acc)) := hlate 3 (by kernel_rfl)
             refine Loose.Step.value rfl (v := .string (bx (acc))) (w' := w1) ?_ rfl (Below.refl _ _)
             simp [go_sem, Act.eval, f0]
           · intro a w1 hfr hdep hlate
             have f0 : a.tmps.getD 5 undef = .pointer (some ⟨g, 0, none⟩) := hlate 5 (by kernel_rfl)
             refine Loose.Step.value rfl (v := .pointer (some ⟨g, 9, none⟩)) (w' := w1) ?_ rfl (Below.refl _ _)
             simp [go_sem, Act.eval, f0]
           · intro a w1 hfr hdep hlate
             have e0 : a.tmps.getD 58 undef = .pointer (some ⟨g, 9, none⟩) := Loose.dep_of hdep 1 58 (by kernel_rfl)
             refine Loose.Step.value rfl (v := .pointer (some ⟨g, 9, none⟩)) (w' := w1) ?_ rfl (Below.refl _ _)
             simp [go_sem, Act.eval, e0]
           · intro a w1 hfr hdep hlate
             have hz := (hfr.below.block g (lt_of_block Z.out)).trans Z.out
             have hc9 : w1.cell? ⟨g, 9, none⟩ = some (.int .i64 x.ev) := by simp [World.cell?, hz]
             clear hz
             have e0 : a.tmps.getD 59 undef = .pointer (some ⟨g, 9, none⟩) := Loose.dep_of hdep 2 59 (by kernel_rfl)
             refine Loose.Step.value rfl (v := .int .i64 x.ev) (w' := w1) ?_ rfl (Below.refl _ _)
             simp [go_sem, Act.eval, e0, hc9]
           · intro a w1 hfr hdep hlate
             have e0 : a.tmps.getD 60 undef = .int .i64 x.ev := Loose.dep_of hdep 3 60 (by kernel_rfl)
             refine Loose.Step.call rfl (f := 163) (args := #[.int .i64 x.ev]) ?_ ?_
             · simp [go_sem, Act.eval, e0]
             · refine (number_ref x.ev (int_rng O6.out).1 (by have := (int_rng O6.out).2; omega) w1).mono ?_
               rintro e w2 ⟨rfl, hb⟩
               exact ⟨_, rfl, rfl, hb⟩
           · intro a w1 hfr hdep hlate
             have ha := bx_add (P := Tryz.prog) (a := acc) (b := (intC 1000 (by decide)).put x.ev) (by (try simp only [List.length_append]); omega) w1
             have e0 : a.tmps.getD 57 undef = .string (bx (acc)) := Loose.dep_of hdep 0 57 (by kernel_rfl)
             have e1 : a.tmps.getD 61 undef = .string (bx ((intC 1000 (by decide)).put x.ev)) := Loose.dep_of hdep 4 61 (by kernel_rfl)
             refine Loose.Step.value rfl (v := .string (bx (acc ++ (intC 1000 (by decide)).put x.ev))) (w' := w1) ?_ rfl (Below.refl _ _)
             simp [go_sem, Act.eval, e0, e1, ha, -List.append_assoc]
           · intro a w1 hfr hdep hlate
             have f0 : a.tmps.getD 5 undef = .pointer (some ⟨g, 0, none⟩) := hlate 5 (by kernel_rfl)
             refine Loose.Step.value rfl (v := .pointer (some ⟨g, 9, none⟩)) (w' := w1) ?_ rfl (Below.refl _ _)
             simp [go_sem, Act.eval, f0]
           · intro a w1 hfr hdep hlate
             have e0 : a.tmps.getD 63 undef = .pointer (some ⟨g, 9, none⟩) := Loose.dep_of hdep 6 63 (by kernel_rfl)
             refine Loose.Step.value rfl (v := .pointer (some ⟨g, 10, none⟩)) (w' := w1) ?_ rfl (Below.refl _ _)
             simp [go_sem, Act.eval, e0]
           · intro a w1 hfr hdep hlate
             have hz := (hfr.below.block g (lt_of_block Z.out)).trans Z.out
             have hc10 : w1.cell? ⟨g, 10, none⟩ = some (.int .i64 x.fl) := by simp [World.cell?, hz]
             clear hz
             have e0 : a.tmps.getD 64 undef = .pointer (some ⟨g, 10, none⟩) := Loose.dep_of hdep 7 64 (by kernel_rfl)
             refine Loose.Step.value rfl (v := .int .i64 x.fl) (w' := w1) ?_ rfl (Below.refl _ _)
             simp [go_sem, Act.eval, e0, hc10]
           · intro a w1 hfr hdep hlate
             have e0 : a.tmps.getD 65 undef = .int .i64 x.fl := Loose.dep_of hdep 8 65 (by kernel_rfl)
             refine Loose.Step.call rfl (f := 163) (args := #[.int .i64 x.fl]) ?_ ?_
             · simp [go_sem, Act.eval, e0]
             · refine (number_ref x.fl (int_rng O7.out).1 (by have := (int_rng O7.out).2; omega) w1).mono ?_
               rintro e w2 ⟨rfl, hb⟩
               exact ⟨_, rfl, rfl, hb⟩
           · intro a w1 hfr hdep hlate
             have ha := bx_add (P := Tryz.prog) (a := (acc ++ (intC 1000 (by decide)).put x.ev)) (b := (intC 10 (by decide)).put x.fl) (by (try simp only [List.length_append]); omega) w1
             have e0 : a.tmps.getD 62 undef = .string (bx (acc ++ (intC 1000 (by decide)).put x.ev)) := Loose.dep_of hdep 5 62 (by kernel_rfl)
             have e1 : a.tmps.getD 66 undef = .string (bx ((intC 10 (by decide)).put x.fl)) := Loose.dep_of hdep 9 66 (by kernel_rfl)
             refine Loose.Step.value rfl (v := .string (bx ((acc ++ (intC 1000 (by decide)).put x.ev) ++ (intC 10 (by decide)).put x.fl))) (w' := w1) ?_ rfl (Below.refl _ _)
             simp [go_sem, Act.eval, e0, e1, ha, -List.append_assoc]
           · intro a w1 hfr hdep hlate
             have e0 : a.tmps.getD 67 undef = .string (bx ((acc ++ (intC 1000 (by decide)).put x.ev) ++ (intC 10 (by decide)).put x.fl)) := Loose.dep_of hdep 10 67 (by kernel_rfl)
             refine Loose.Step.value rfl (v := .string (bx ((acc ++ (intC 1000 (by decide)).put x.ev) ++ (intC 10 (by decide)).put x.fl))) (w' := w1) ?_ rfl (Below.refl _ _)
             simp [go_sem, Act.eval, e0]
         · intro v0 v1 v2 v3 v4 v5 v6 v7 v8 v9 v10 v11 w6 hb6 hC
           have hlast : v11 = .string (bx ((acc ++ (intC 1000 (by decide)).put x.ev) ++ (intC 10 (by decide)).put x.fl)) := hC.2
           subst hlast
           clear hC
           simp only [SpecOwn.put_lit, List.set_cons_succ, List.set_cons_zero]
           have BE := Lib.hid (HBK.out.trans (hb6.mono HBK.out.size))
           clear hb6
           go_wp2_with fail
           go_roundw
           case rel => exact ⟨j + 1, by omega, by go_num, by rw [HNX.out, HFI.out], BE.out⟩
           case measure => simp [RowKit.intOf]; omega
  · obtain rfl : j = l.length := by omega
    have hlt2 : ¬ (l.length : Int) < (l.length : Int) := by omega
    have HT := Lib.hid (show leb l.length ++ (l.take l.length).flatMap ctrC.put = listP ctrC.put l by rw [List.take_length]; rfl)
    rw [HT.out]
    go_wp2
    go_ret
    exact ⟨rfl, HB.out⟩
def FBy (g : Nat) (S : Spc) (LA : Option Addr) (lc : Nat) (IA : Option Addr) (ic : Nat) (MA : Option Addr) (mc : Nat) : Nat → Value → World → Prop
 | 0 => fun v _ => v = .pointer (some ⟨g, 0, none⟩)
 | 1 => fun v _ => v = .string S.name
 | 2 => fun v _ => v = .string (bx (txB S.name))
 | 3 => fun v _ => v = .pointer (some ⟨g, 1, none⟩)
 | 4 => fun v _ => v = .slice LA S.labels.length lc
 | 5 => fun v _ => v = .string (bx (labelsC.put S.labels))
 | 6 => fun v _ => v = .string (bx (txB S.name ++ labelsC.put S.labels))
 | 7 => fun v _ => v = .pointer (some ⟨g, 2, none⟩)
 | 8 => fun v _ => v = .slice IA S.init.length ic
 | 9 => fun v _ => v = .string (bx (initC.put S.init))
 | 10 => fun v _ => v = .string (bx ((txB S.name ++ labelsC.put S.labels) ++ initC.put S.init))
 | 11 => fun v _ => v = .pointer (some ⟨g, 3, none⟩)
 | 12 => fun v _ => v = .slice MA S.main.length mc
 | 13 => fun v _ => v = .string (bx (mainC.put S.main))
 | 14 => fun v _ => v = .string (bx (((txB S.name ++ labelsC.put S.labels) ++ initC.put S.init) ++ mainC.put S.main))
 | 15 => fun v _ => v = .pointer (some ⟨g, 4, none⟩)
 | 16 => fun v _ => v = .int .i64 S.restart
 | 17 => fun v _ => v = .string (bx ((intC 3 (by decide)).put S.restart))
 | 18 => fun v _ => v = .string (bx ((((txB S.name ++ labelsC.put S.labels) ++ initC.put S.init) ++ mainC.put S.main) ++ (intC 3 (by decide)).put S.restart))
 | 19 => fun v _ => v = .pointer (some ⟨g, 5, none⟩)
 | 20 => fun v _ => v = .int .i64 S.grace
 | 21 => fun v _ => v = .string (bx ((intC 1000 (by decide)).put S.grace))
 | 22 => fun v _ => v = .string (bx (((((txB S.name ++ labelsC.put S.labels) ++ initC.put S.init) ++ mainC.put S.main) ++ (intC 3 (by decide)).put S.restart) ++ (intC 1000 (by decide)).put S.grace))
 | 23 => fun v _ => v = .pointer (some ⟨g, 6, none⟩)
 | 24 => fun v _ => v = .int .i64 S.prio
 | 25 => fun v _ => v = .string (bx ((intC 10 (by decide)).put S.prio))
 | 26 => fun v _ => v = .string (bx ((((((txB S.name ++ labelsC.put S.labels) ++ initC.put S.init) ++ mainC.put S.main) ++ (intC 3 (by decide)).put S.restart) ++ (intC 1000 (by decide)).put S.grace) ++ (intC 10 (by decide)).put S.prio))
 | _ => fun v _ => v = .string (bx (((((((txB S.name ++ labelsC.put S.labels) ++ initC.put S.init) ++ mainC.put S.main) ++ (intC 3 (by decide)).put S.restart) ++ (intC 1000 (by decide)).put S.grace) ++ (intC 10 (by decide)).put S.prio)))
theorem FBy_keep (g : Nat) (S : Spc) (LA : Option Addr) (lc : Nat) (IA : Option Addr) (ic : Nat) (MA : Option Addr) (mc : Nat) (i : Nat) (v : Value) (w w' : World) (h : FBy g S LA lc IA ic MA mc i v w) (hb : Below w.heap.size w w') : FBy g S LA lc IA ic MA mc i v w' := by
 unfold FBy at h ⊢
 split at h <;> exact h
set_option maxRecDepth 100000 in
set_option maxHeartbeats 4000000 in
theorem bytes_ref07 (S : Spc) (LA : Option Addr) (lc : Nat) (IA : Option Addr) (ic : Nat) (MA : Option Addr) (mc : Nat) (hok : specC.ok S) (w : World) (hS : S.In w LA lc IA ic MA mc) :
 Calls Tryz.prog 123 #[.agg #[.string S.name, .slice LA S.labels.length lc, .slice IA S.init.length ic, .slice MA S.main.length mc, .int .i64 S.restart, .int .i64 S.grace, .int .i64 S.prio]] w fun e w' => e = .returned (.string (bx (specC.put S))) ∧ Below w.heap.size w w' := by
 have HS := Lib.hid hS
 obtain ⟨⟨o1, ⟨o2a, o2⟩, ⟨o3a, o3⟩, ⟨o4a, o4⟩, o5, o6, o7⟩, _⟩ := hok
 have n1 : S.name.size ≤ 16 := o1
 have n2 : S.labels.length ≤ 4 := o2a
 have n3 : S.init.length ≤ 3 := o3a
 have n4 : S.main.length ≤ 4 := o4a
 have OL := Lib.hid (show ∀ x ∈ S.labels, x.key.size ≤ 1000 ∧ x.val.size ≤ 1000 from fun x hx => by
  obtain ⟨⟨p1, p2⟩, _⟩ := o2 x hx
  have q1 : x.key.size ≤ 33 := p1
  have q2 : x.val.size ≤ 16 := p2
  omega)
 have OI := Lib.hid (show ∀ x ∈ S.init, ctrC.ok x from o3)
 have OM := Lib.hid (show ∀ x ∈ S.main, ctrC.ok x from o4)
 have O5 := Lib.hid o5
 have O6 := Lib.hid o6
 have O7 := Lib.hid o7
 have l1 : (txB S.name).length ≤ 10 + 16 := txB_le n1
 have l2 := labels_put_len (l := S.labels) (by omega) OL.out
 have l3 : (initC.put S.init).length ≤ 2000 := ctrs_put_len (by omega) OI.out
 have l4 : (mainC.put S.main).length ≤ 2000 := ctrs_put_len n4 OM.out
 have l5 : ((intC 3 (by decide)).put S.restart).length ≤ 10 := int_put_len o5
 have l6 : ((intC 1000 (by decide)).put S.grace).length ≤ 10 := int_put_len o6
 have l7 : ((intC 10 (by decide)).put S.prio).length ≤ 10 := int_put_len o7
 clear hS o1 o2a o2 o3a o3 o4a o4 o5 o6 o7
 go_enter Tryz.func123, Tryz.ntmps123
 go_wp2_with fail
 obtain ⟨w0, hw0⟩ : ∃ v, w.alloc (.cells #[.string S.name, .slice LA S.labels.length lc, .slice IA S.init.length ic, .slice MA S.main.length mc, .int .i64 S.restart, .int .i64 S.grace, .int .i64 S.prio] 28) = v := ⟨_, rfl⟩
 have Z := Lib.hid (show w0.heap[w.heap.size]? = some (.cells #[.string S.name, .slice LA S.labels.length lc, .slice IA S.init.length ic, .slice MA S.main.length mc, .int .i64 S.restart, .int .i64 S.grace, .int .i64 S.prio] 28 (0, 0)) by rw [← hw0]; exact heap_alloc_new w _)
 have HB := Lib.hid (show Below w.heap.size w w0 by rw [← hw0]; exact (Below.refl _ _).alloc (Nat.le_refl _) _)
 rw [hw0]
 obtain ⟨g, hg⟩ : ∃ b, w.heap.size = b := ⟨_, rfl⟩
 rw [hg] at Z ⊢
 clear hw0 hg
 refine Late.wp_region_walk (by kernel_rfl) (by kernel_rfl) (FBy g S LA lc IA ic MA mc) (FBy_keep g S LA lc IA ic MA mc) ?_ ?_
 · refine ⟨?_, ?_, ?_, ?_, ?_, ?_, ?_, ?_, ?_, ?_, ?_, ?_, ?_, ?_, ?_, ?_, ?_, ?_, ?_, ?_, ?_, ?_, ?_, ?_, ?_, ?_, ?_, ?_, trivial⟩
   · intro a w1 hfr hdep hlate
     have f0 : a.tmps.getD 1 undef = .pointer (some ⟨g, 0, none⟩) := hlate 1 (by kernel_rfl)
     refine Loose.Step.value rfl (v := .pointer (some ⟨g, 0, none⟩)) (w' := w1) ?_ rfl (Below.refl _ _)
     simp [go_sem, Act.eval, f0]
   · intro a w1 hfr hdep hlate
     have hz := (hfr.below.block g (lt_of_block Z.out)).trans Z.out
     have hc : w1.cell? ⟨g, 0, none⟩ = some (.string S.name) := by simp [World.cell?, hz]
     clear hz
     have e0 : a.tmps.getD 3 undef = .pointer (some ⟨g, 0, none⟩) := Loose.dep_of hdep 0 3 (by kernel_rfl)
     refine Loose.Step.value rfl (v := .string S.name) (w' := w1) ?_ rfl (Below.refl _ _)
     simp [go_sem, Act.eval, e0, hc]
   · intro a w1 hfr hdep hlate
     have e0 : a.tmps.getD 4 undef = .string S.name := Loose.dep_of hdep 1 4 (by kernel_rfl)
     refine Loose.Step.call rfl (f := 72) (args := #[.string S.name]) ?_ ?_
     · simp [go_sem, Act.eval, e0]
     · refine (bytes_ref S.name (by omega) w1).mono ?_
       rintro e w2 ⟨rfl, hb⟩
       exact ⟨_, rfl, rfl, hb⟩
   · intro a w1 hfr hdep hlate
     have f0 : a.tmps.getD 1 undef = .pointer (some ⟨g, 0, none⟩) := hlate 1 (by kernel_rfl)
     refine Loose.Step.value rfl (v := .pointer (some ⟨g, 1, none⟩)) (w' := w1) ?_ rfl (Below.refl _ _)
     simp [go_sem, Act.eval, f0]
   · intro a w1 hfr hdep hlate
     have hz := (hfr.below.block g (lt_of_block Z.out)).trans Z.out
     have hc : w1.cell? ⟨g, 1, none⟩ = some (.slice LA S.labels.length lc) := by simp [World.cell?, hz]
     clear hz
     have e0 : a.tmps.getD 6 undef = .pointer (some ⟨g, 1, none⟩) := Loose.dep_of hdep 3 6 (by kernel_rfl)
     refine Loose.Step.value rfl (v := .slice LA S.labels.length lc) (w' := w1) ?_ rfl (Below.refl _ _)
     simp [go_sem, Act.eval, e0, hc]
   · intro a w1 hfr hdep hlate
     have e0 : a.tmps.getD 7 undef = .slice LA S.labels.length lc := Loose.dep_of hdep 4 7 (by kernel_rfl)
     refine Loose.Step.call rfl (f := 161) (args := #[.slice LA S.labels.length lc]) ?_ ?_
     · simp [go_sem, Act.eval, e0]
     · refine (labels_bytes LA lc S.labels (by omega) OL.out w1 (HS.out.labels.below (HB.out.trans (hfr.below.mono HB.out.size)))).mono ?_
       rintro e w2 ⟨rfl, hb⟩
       exact ⟨_, rfl, rfl, hb⟩
   · intro a w1 hfr hdep hlate
     have ha := bx_add (P := Tryz.prog) (a := txB S.name) (b := labelsC.put S.labels) (by (try simp only [List.length_append]); omega) w1
     have e0 : a.tmps.getD 5 undef = .string (bx (txB S.name)) := Loose.dep_of hdep 2 5 (by kernel_rfl)
     have e1 : a.tmps.getD 8 undef = .string (bx (labelsC.put S.labels)) := Loose.dep_of hdep 5 8 (by kernel_rfl)
     refine Loose.Step.value rfl (v := .string (bx (txB S.name ++ labelsC.put S.labels))) (w' := w1) ?_ rfl (Below.refl _ _)
     simp [go_sem, Act.eval, e0, e1, ha, -List.append_assoc]
   · intro a w1 hfr hdep hlate
     have f0 : a.tmps.getD 1 undef = .pointer (some ⟨g, 0, none⟩) := hlate 1 (by kernel_rfl)
     refine Loose.Step.value rfl (v := .pointer (some ⟨g, 2, none⟩)) (w' := w1) ?_ rfl (Below.refl _ _)
     simp [go_sem, Act.eval, f0]
   · intro a w1 hfr hdep hlate
     have hz := (hfr.below.block g (lt_of_block Z.out)).trans Z.out
     have hc : w1.cell? ⟨g, 2, none⟩ = some (.slice IA S.init.length ic) := by simp [World.cell?, hz]
     clear hz
     have e0 : a.tmps.getD 10 undef = .pointer (some ⟨g, 2, none⟩) := Loose.dep_of hdep 7 10 (by kernel_rfl)
     refine Loose.Step.value rfl (v := .slice IA S.init.length ic) (w' := w1) ?_ rfl (Below.refl _ _)
     simp [go_sem, Act.eval, e0, hc]
   · intro a w1 hfr hdep hlate
     have e0 : a.tmps.getD 11 undef = .slice IA S.init.length ic := Loose.dep_of hdep 8 11 (by kernel_rfl)
     refine Loose.Step.call rfl (f := 162) (args := #[.slice IA S.init.length ic]) ?_ ?_
     · simp [go_sem, Act.eval, e0]
     · refine (ctrs_bytes IA ic S.init (by omega) OI.out w1 (HS.out.init.below (HB.out.trans (hfr.below.mono HB.out.size)))).mono ?_
       rintro e w2 ⟨rfl, hb⟩
       exact ⟨_, rfl, rfl, hb⟩
   · intro a w1 hfr hdep hlate
     have ha := bx_add (P := Tryz.prog) (a := (txB S.name ++ labelsC.put S.labels)) (b := initC.put S.init) (by (try simp only [List.length_append]); omega) w1
     have e0 : a.tmps.getD 9 undef = .string (bx (txB S.name ++ labelsC.put S.labels)) := Loose.dep_of hdep 6 9 (by kernel_rfl)
     have e1 : a.tmps.getD 12 undef = .string (bx (initC.put S.init)) := Loose.dep_of hdep 9 12 (by kernel_rfl)
     refine Loose.Step.value rfl (v := .string (bx ((txB S.name ++ labelsC.put S.labels) ++ initC.put S.init))) (w' := w1) ?_ rfl (Below.refl _ _)
     simp [go_sem, Act.eval, e0, e1, ha, -List.append_assoc]
   · intro a w1 hfr hdep hlate
     have f0 : a.tmps.getD 1 undef = .pointer (some ⟨g, 0, none⟩) := hlate 1 (by kernel_rfl)
     refine Loose.Step.value rfl (v := .pointer (some ⟨g, 3, none⟩)) (w' := w1) ?_ rfl (Below.refl _ _)
     simp [go_sem, Act.eval, f0]
   · intro a w1 hfr hdep hlate
     have hz := (hfr.below.block g (lt_of_block Z.out)).trans Z.out
     have hc : w1.cell? ⟨g, 3, none⟩ = some (.slice MA S.main.length mc) := by simp [World.cell?, hz]
     clear hz
     have e0 : a.tmps.getD 14 undef = .pointer (some ⟨g, 3, none⟩) := Loose.dep_of hdep 11 14 (by kernel_rfl)
     refine Loose.Step.value rfl (v := .slice MA S.main.length mc) (w' := w1) ?_ rfl (Below.refl _ _)
     simp [go_sem, Act.eval, e0, hc]
   · intro a w1 hfr hdep hlate
     have e0 : a.tmps.getD 15 undef = .slice MA S.main.length mc := Loose.dep_of hdep 12 15 (by kernel_rfl)
     refine Loose.Step.call rfl (f := 162) (args := #[.slice MA S.main.length mc]) ?_ ?_
     · simp [go_sem, Act.eval, e0]
     · refine (ctrs_bytes MA mc S.main (by omega) OM.out w1 (HS.out.main.below (HB.out.trans (hfr.below.mono HB.out.size)))).mono ?_
       rintro e w2 ⟨rfl, hb⟩
       exact ⟨_, rfl, rfl, hb⟩
   · intro a w1 hfr hdep hlate
     have ha := bx_add (P := Tryz.prog) (a := ((txB S.name ++ labelsC.put S.labels) ++ initC.put S.init)) (b := mainC.put S.main) (by (try simp only [List.length_append]); omega) w1
     have e0 : a.tmps.getD 13 undef = .string (bx ((txB S.name ++ labelsC.put S.labels) ++ initC.put S.init)) := Loose.dep_of hdep 10 13 (by kernel_rfl)
     have e1 : a.tmps.getD 16 undef = .string (bx (mainC.put S.main)) := Loose.dep_of hdep 13 16 (by kernel_rfl)
     refine Loose.Step.value rfl (v := .string (bx (((txB S.name ++ labelsC.put S.labels) ++ initC.put S.init) ++ mainC.put S.main))) (w' := w1) ?_ rfl (Below.refl _ _)
     simp [go_sem, Act.eval, e0, e1, ha, -List.append_assoc]
   · intro a w1 hfr hdep hlate
     have f0 : a.tmps.getD 1 undef = .pointer (some ⟨g, 0, none⟩) := hlate 1 (by kernel_rfl)
     refine Loose.Step.value rfl (v := .pointer (some ⟨g, 4, none⟩)) (w' := w1) ?_ rfl (Below.refl _ _)
     simp [go_sem, Act.eval, f0]
   · intro a w1 hfr hdep hlate
     have hz := (hfr.below.block g (lt_of_block Z.out)).trans Z.out
     have hc : w1.cell? ⟨g, 4, none⟩ = some (.int .i64 S.restart) := by simp [World.cell?, hz]
     clear hz
     have e0 : a.tmps.getD 18 undef = .pointer (some ⟨g, 4, none⟩) := Loose.dep_of hdep 15 18 (by kernel_rfl)
     refine Loose.Step.value rfl (v := .int .i64 S.restart) (w' := w1) ?_ rfl (Below.refl _ _)
     simp [go_sem, Act.eval, e0, hc]
   · intro a w1 hfr hdep hlate
     have e0 : a.tmps.getD 19 undef = .int .i64 S.restart := Loose.dep_of hdep 16 19 (by kernel_rfl)
     refine Loose.Step.call rfl (f := 163) (args := #[.int .i64 S.restart]) ?_ ?_
     · simp [go_sem, Act.eval, e0]
     · refine (number_ref S.restart (int_rng O5.out).1 (by have := (int_rng O5.out).2; omega) w1).mono ?_
       rintro e w2 ⟨rfl, hb⟩
       exact ⟨_, rfl, rfl, hb⟩
   · intro a w1 hfr hdep hlate
     have ha := bx_add (P := Tryz.prog) (a := (((txB S.name ++ labelsC.put S.labels) ++ initC.put S.init) ++ mainC.put S.main)) (b := (intC 3 (by decide)).put S.restart) (by (try simp only [List.length_append]); omega) w1
     have e0 : a.tmps.getD 17 undef = .string (bx (((txB S.name ++ labelsC.put S.labels) ++ initC.put S.init) ++ mainC.put S.main)) := Loose.dep_of hdep 14 17 (by kernel_rfl)
     have e1 : a.tmps.getD 20 undef = .string (bx ((intC 3 (by decide)).put S.restart)) := Loose.dep_of hdep 17 20 (by kernel_rfl)
     refine Loose.Step.value rfl (v := .string (bx ((((txB S.name ++ labelsC.put S.labels) ++ initC.put S.init) ++ mainC.put S.main) ++ (intC 3 (by decide)).put S.restart))) (w' := w1) ?_ rfl (Below.refl _ _)
     simp [go_sem, Act.eval, e0, e1, ha, -List.append_assoc]
   · intro a w1 hfr hdep hlate
     have f0 : a.tmps.getD 1 undef = .pointer (some ⟨g, 0, none⟩) := hlate 1 (by kernel_rfl)
     refine Loose.Step.value rfl (v := .pointer (some ⟨g, 5, none⟩)) (w' := w1) ?_ rfl (Below.refl _ _)
     simp [go_sem, Act.eval, f0]
   · intro a w1 hfr hdep hlate
     have hz := (hfr.below.block g (lt_of_block Z.out)).trans Z.out
     have hc : w1.cell? ⟨g, 5, none⟩ = some (.int .i64 S.grace) := by simp [World.cell?, hz]
     clear hz
     have e0 : a.tmps.getD 22 undef = .pointer (some ⟨g, 5, none⟩) := Loose.dep_of hdep 19 22 (by kernel_rfl)
     refine Loose.Step.value rfl (v := .int .i64 S.grace) (w' := w1) ?_ rfl (Below.refl _ _)
     simp [go_sem, Act.eval, e0, hc]
   · intro a w1 hfr hdep hlate
     have e0 : a.tmps.getD 23 undef = .int .i64 S.grace := Loose.dep_of hdep 20 23 (by kernel_rfl)
     refine Loose.Step.call rfl (f := 163) (args := #[.int .i64 S.grace]) ?_ ?_
     · simp [go_sem, Act.eval, e0]
     · refine (number_ref S.grace (int_rng O6.out).1 (by have := (int_rng O6.out).2; omega) w1).mono ?_
       rintro e w2 ⟨rfl, hb⟩
       exact ⟨_, rfl, rfl, hb⟩
   · intro a w1 hfr hdep hlate
     have ha := bx_add (P := Tryz.prog) (a := ((((txB S.name ++ labelsC.put S.labels) ++ initC.put S.init) ++ mainC.put S.main) ++ (intC 3 (by decide)).put S.restart)) (b := (intC 1000 (by decide)).put S.grace) (by (try simp only [List.length_append]); omega) w1
     have e0 : a.tmps.getD 21 undef = .string (bx ((((txB S.name ++ labelsC.put S.labels) ++ initC.put S.init) ++ mainC.put S.main) ++ (intC 3 (by decide)).put S.restart)) := Loose.dep_of hdep 18 21 (by kernel_rfl)
     have e1 : a.tmps.getD 24 undef = .string (bx ((intC 1000 (by decide)).put S.grace)) := Loose.dep_of hdep 21 24 (by kernel_rfl)
     refine Loose.Step.value rfl (v := .string (bx (((((txB S.name ++ labelsC.put S.labels) ++ initC.put S.init) ++ mainC.put S.main) ++ (intC 3 (by decide)).put S.restart) ++ (intC 1000 (by decide)).put S.grace))) (w' := w1) ?_ rfl (Below.refl _ _)
     simp [go_sem, Act.eval, e0, e1, ha, -List.append_assoc]
   · intro a w1 hfr hdep hlate
     have f0 : a.tmps.getD 1 undef = .pointer (some ⟨g, 0, none⟩) := hlate 1 (by kernel_rfl)
     refine Loose.Step.value rfl (v := .pointer (some ⟨g, 6, none⟩)) (w' := w1) ?_ rfl (Below.refl _ _)
     simp [go_sem, Act.eval, f0]
   · intro a w1 hfr hdep hlate
     have hz := (hfr.below.block g (lt_of_block Z.out)).trans Z.out
     have hc : w1.cell? ⟨g, 6, none⟩ = some (.int .i64 S.prio) := by simp [World.cell?, hz]
     clear hz
     have e0 : a.tmps.getD 26 undef = .pointer (some ⟨g, 6, none⟩) := Loose.dep_of hdep 23 26 (by kernel_rfl)
     refine Loose.Step.value rfl (v := .int .i64 S.prio) (w' := w1) ?_ rfl (Below.refl _ _)
     simp [go_sem, Act.eval, e0, hc]
   · intro a w1 hfr hdep hlate
     have e0 : a.tmps.getD 27 undef = .int .i64 S.prio := Loose.dep_of hdep 24 27 (by kernel_rfl)
     refine Loose.Step.call rfl (f := 163) (args := #[.int .i64 S.prio]) ?_ ?_
     · simp [go_sem, Act.eval, e0]
     · refine (number_ref S.prio (int_rng O7.out).1 (by have := (int_rng O7.out).2; omega) w1).mono ?_
       rintro e w2 ⟨rfl, hb⟩
       exact ⟨_, rfl, rfl, hb⟩
   · intro a w1 hfr hdep hlate
     have ha := bx_add (P := Tryz.prog) (a := (((((txB S.name ++ labelsC.put S.labels) ++ initC.put S.init) ++ mainC.put S.main) ++ (intC 3 (by decide)).put S.restart) ++ (intC 1000 (by decide)).put S.grace)) (b := (intC 10 (by decide)).put S.prio) (by (try simp only [List.length_append]); omega) w1
     have e0 : a.tmps.getD 25 undef = .string (bx (((((txB S.name ++ labelsC.put S.labels) ++ initC.put S.init) ++ mainC.put S.main) ++ (intC 3 (by decide)).put S.restart) ++ (intC 1000 (by decide)).put S.grace)) := Loose.dep_of hdep 22 25 (by kernel_rfl)
     have e1 : a.tmps.getD 28 undef = .string (bx ((intC 10 (by decide)).put S.prio)) := Loose.dep_of hdep 25 28 (by kernel_rfl)
     refine Loose.Step.value rfl (v := .string (bx ((((((txB S.name ++ labelsC.put S.labels) ++ initC.put S.init) ++ mainC.put S.main) ++ (intC 3 (by decide)).put S.restart) ++ (intC 1000 (by decide)).put S.grace) ++ (intC 10 (by decide)).put S.prio))) (w' := w1) ?_ rfl (Below.refl _ _)
     simp [go_sem, Act.eval, e0, e1, ha, -List.append_assoc]
   · intro a w1 hfr hdep hlate
     have e0 : a.tmps.getD 29 undef = .string (bx ((((((txB S.name ++ labelsC.put S.labels) ++ initC.put S.init) ++ mainC.put S.main) ++ (intC 3 (by decide)).put S.restart) ++ (intC 1000 (by decide)).put S.grace) ++ (intC 10 (by decide)).put S.prio)) := Loose.dep_of hdep 26 29 (by kernel_rfl)
     refine Loose.Step.value rfl (v := .string (bx (((((((txB S.name ++ labelsC.put S.labels) ++ initC.put S.init) ++ mainC.put S.main) ++ (intC 3 (by decide)).put S.restart) ++ (intC 1000 (by decide)).put S.grace) ++ (intC 10 (by decide)).put S.prio)))) (w' := w1) ?_ rfl (Below.refl _ _)
     simp [go_sem, Act.eval, e0]
 · intro v0 v1 v2 v3 v4 v5 v6 v7 v8 v9 v10 v11 v12 v13 v14 v15 v16 v17 v18 v19 v20 v21 v22 v23 v24 v25 v26 v27 w6 hb6 hC
   have hlast : v27 = .string (bx (((((((txB S.name ++ labelsC.put S.labels) ++ initC.put S.init) ++ mainC.put S.main) ++ (intC 3 (by decide)).put S.restart) ++ (intC 1000 (by decide)).put S.grace) ++ (intC 10 (by decide)).put S.prio))) := hC.2
   subst hlast
   clear hC
   simp only [SpecOwn.put_lit, List.set_cons_succ, List.set_cons_zero]
   have BE := Lib.hid (HB.out.trans (hb6.mono HB.out.size))
   clear hb6
   go_wp2_with fail
   go_ret
   exact ⟨by rw [spec_put_eq, ← List.append_assoc, ← List.append_assoc, ← List.append_assoc, ← List.append_assoc, ← List.append_assoc]; rfl, BE.out⟩
end Pk
end Go.Proofs.YtljbpelogjmciaaGreatDoor
