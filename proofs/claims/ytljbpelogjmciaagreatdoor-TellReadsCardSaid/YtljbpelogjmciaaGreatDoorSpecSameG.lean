/-
 The contracts of slices.Equal on numbers, of spec's alikeButImage and alike: whether numbers, whether containers are the same. All that was there is left as it was. No condition. And what follows of it, part by part, each with its conditions.
-/
import Derived.Test.YtljbpelogjmciaaGreatDoorSpecErrAll
import Derived.Test.YtljbpelogjmciaaGreatDoorSpecDataAll
import Derived.Deep.QuietTactic
import Derived.BigQuiet
set_option maxRecDepth 100000
namespace Go.Proofs.YtljbpelogjmciaaGreatDoor
open Go.ChangeShapes Go.WideShapes Go.ChangeAt Go.RowKit Go.Lib
open Sd Lists Book
namespace SpecOwn
theorem equalInts_any (A : Option Addr) (ac : Nat) (a : List Int) (B : Option Addr) (bc : Nat) (b : List Int) (hl : a.length ≤ 9223372036854775807) (w : World) (hA : Nums .i64 w A a) (hB : Nums .i64 w B b) :
 Calls Tryz.prog 237 #[.slice A a.length ac, .slice B b.length bc] w fun e w' => e = .returned (.bool (sameIs a b)) ∧ Below w.heap.size w w' := by
 have HA := hid hA
 have HB := hid hB
 have hl' : (a.length : Int) ≤ 9223372036854775807 := by omega
 clear hA hB
 by_cases hlen : a.length = b.length
 · have HLEN := hid hlen
   rw [← hlen]; clear hlen
   go_enter Tryz.func237, Tryz.ntmps237
   go_wp2_with fail
   go_loopw [13] (fun i wr => ∃ k : Nat, k ≤ a.length ∧ i = .int .i64 k ∧ Hid (Below w.heap.size w wr) ∧ Hid (Far a b k true)) (fun i _ => a.length - (RowKit.intOf i).toNat)
   case atStart => exact ⟨0, Nat.zero_le _, rfl, Below.refl _ _, ⟨fun _ => ⟨HLEN.out, by simp⟩, fun h => by cases h⟩⟩
   case round =>
    obtain ⟨k, hk, rfl, HW, HF⟩ := hrel
    by_cases hlt : k < a.length
    · have hlb : k < b.length := by have := HLEN.out; omega
      obtain ⟨_, p, rfl, hp, hc⟩ := (Nums.below HA.out HW.out).at hlt
      obtain ⟨_, q, rfl, hq, hd⟩ := (Nums.below HB.out HW.out).at hlb
      have HN := fun (t : Bool) (ht : t = true ↔ a[k] = b[k]) => HF.out.next hlt hlb ht
      obtain ⟨x, hx⟩ : ∃ x, a[k] = x := ⟨_, rfl⟩; obtain ⟨y, hy⟩ : ∃ y, b[k] = y := ⟨_, rfl⟩
      rw [hx] at hc HN
      rw [hy] at hd HN
      have hka : (k : Int) < (a.length : Int) := by omega
      clear hx hy hp hq
      cases he : (x == y) with
      | true =>
       have HNX := hid (HN true (by simpa using he)); clear HN; go_wp2_with fail
       go_quiet (fail)
       go_wp2
       go_roundw
       case rel => exact ⟨k + 1, by omega, by go_num, HW.out.trans ((Kit.below_drewN _ _ _).mono HW.out.size), HNX.out⟩
       case measure => simp [RowKit.intOf]; omega
      | false =>
       have HNX := hid (HN false (by simpa using he)); have HD := hid (show false = sameIs a b from same_bool ((show false = true ↔ a = b from ⟨fun h => (by cases h), fun h => absurd h (HNX.out.2 rfl)⟩).trans sameIs_iff.symm)); clear HN; go_wp2_with fail
       go_quiet (fail)
       go_wp2
       go_ret
       exact ⟨ret_b HD.out, HW.out.trans ((Kit.below_drewN _ _ _).mono HW.out.size)⟩
    · have HD := hid (show true = sameIs a b from same_bool ((HF.out.done (fun _ => by omega)).trans sameIs_iff.symm))
      go_wp2
      go_ret
      exact ⟨ret_b HD.out, HW.out⟩
 · have hne : ((a.length : Int) == (b.length : Int)) = false := by simp; omega
   have HD := hid (show false = sameIs a b from same_bool ((show false = true ↔ a = b from ⟨fun h => (by cases h), fun h => absurd (by rw [h]) hlen⟩).trans sameIs_iff.symm)); clear hlen
   go_enter Tryz.func237, Tryz.ntmps237
   go_wp2
   go_ret
   exact ⟨ret_b HD.out, Below.refl _ _⟩
def butB (x y : Ctr) : Bool := x.name.toList == y.name.toList && resB x.rc x.rm x.rp y.rc y.rm y.rp && resB x.lc x.lm x.lp y.lc y.lm y.lp && sameIs x.ports y.ports && probeB x.ev x.fl y.ev y.fl
def alikeB (x y : Ctr) : Bool := x.image.toList == y.image.toList && butB x y
theorem alikeB_same (x y : Ctr) : alikeB x y = sameC x y := by
 unfold alikeB butB sameC resB probeB
 cases (x.image.toList == y.image.toList) <;> simp
set_option maxHeartbeats 2000000 in
theorem butImage_any (x : Ctr) (P : Option Addr) (pc : Nat) (y : Ctr) (Q : Option Addr) (qc : Nat) (hxp : x.ports.length ≤ 9223372036854775807) (w : World) (hP : Nums .i64 w P x.ports) (hQ : Nums .i64 w Q y.ports) :
 Calls Tryz.prog 226 #[.agg #[.string x.name, .string x.image, .int .i64 x.rc, .int .i64 x.rm, .int .i64 x.rp, .int .i64 x.lc, .int .i64 x.lm, .int .i64 x.lp, .slice P x.ports.length pc, .int .i64 x.ev, .int .i64 x.fl], .agg #[.string y.name, .string y.image, .int .i64 y.rc, .int .i64 y.rm, .int .i64 y.rp, .int .i64 y.lc, .int .i64 y.lm, .int .i64 y.lp, .slice Q y.ports.length qc, .int .i64 y.ev, .int .i64 y.fl]] w
  fun e w' => e = .returned (.bool (butB x y)) ∧ Below w.heap.size w w' := by
 have hb0 := fun o o' => ((Below.refl w.heap.size w).alloc (Nat.le_refl _) o).alloc (show w.heap.size ≤ (w.alloc o).heap.size by simp) o'
 have HB0 := hid hb0
 have NP := hid hP
 have NQ := hid hQ
 have hgr : Tryz.prog.eqGuardType Tryz.prog.depth 70 = false := by kernel_rfl
 have hgp : Tryz.prog.eqGuardType Tryz.prog.depth 72 = false := by kernel_rfl
 obtain ⟨b0, e0⟩ : ∃ b0 : Bool, (x.name.toList == y.name.toList) = b0 := ⟨_, rfl⟩
 obtain ⟨b2, e2⟩ : ∃ b2 : Bool, resB x.rc x.rm x.rp y.rc y.rm y.rp = b2 := ⟨_, rfl⟩
 obtain ⟨b3, e3⟩ : ∃ b3 : Bool, resB x.lc x.lm x.lp y.lc y.lm y.lp = b3 := ⟨_, rfl⟩
 obtain ⟨b4, e4⟩ : ∃ b4 : Bool, sameIs x.ports y.ports = b4 := ⟨_, rfl⟩
 obtain ⟨b5, e5⟩ : ∃ b5 : Bool, probeB x.ev x.fl y.ev y.fl = b5 := ⟨_, rfl⟩
 have HR := hid (show (b0 && b2 && b3 && b4 && b5) = butB x y by rw [← e0, ← e2, ← e3, ← e4, ← e5]; rfl)
 have q2 := fun v => eql_res x.rc x.rm x.rp y.rc y.rm y.rp v
 have q3 := fun v => eql_res x.lc x.lm x.lp y.lc y.lm y.lp v
 have q5 := fun v => eql_probe x.ev x.fl y.ev y.fl v
 rw [e2] at q2
 rw [e3] at q3
 rw [e5] at q5
 have E4 := hid e4
 clear hb0 hP hQ e2 e3 e4 e5
 go_enter Tryz.func226, Tryz.ntmps226
 cases b0 with
 | false =>
  have HD := hid (show false = butB x y from by have := HR.out; simpa using this); go_wp2
  go_ret
  exact ⟨ret_b HD.out, HB0.out _ _⟩
 | true =>
  cases b2 with
  | false =>
   have HD := hid (show false = butB x y from by have := HR.out; simpa using this); go_wp2
   go_ret
   exact ⟨ret_b HD.out, HB0.out _ _⟩
  | true =>
   cases b3 with
   | false =>
    have HD := hid (show false = butB x y from by have := HR.out; simpa using this); go_wp2
    go_ret
    exact ⟨ret_b HD.out, HB0.out _ _⟩
   | true =>
    go_wp2_with fail
    refine (equalInts_any P pc x.ports Q qc y.ports hxp _ (Nums.below NP.out (HB0.out _ _)) (Nums.below NQ.out (HB0.out _ _))).mono ?_
    rintro e w5 ⟨rfl, hb5⟩; have HB5 := hid ((HB0.out _ _).trans (hb5.mono (by simp; omega)))
    obtain ⟨hcell, hfroz⟩ := Kit.bcell hb5
    have hz5 : w.heap.size + 1 < w5.heap.size := by have := hb5.size; simp at this; omega
    have hy5 : w.heap.size < w5.heap.size := by omega
    rw [E4.out]; clear hb5
    cases b4 with
    | false =>
     have HD := hid (show false = butB x y from by have := HR.out; simpa using this); go_wp2
     go_ret
     exact ⟨ret_b HD.out, HB5.out⟩
    | true =>
     have HD := hid (show b5 = butB x y from by have := HR.out; simpa using this); go_wp2
     go_ret
     exact ⟨ret_b HD.out, HB5.out⟩
set_option maxHeartbeats 2000000 in
theorem alike_any (x : Ctr) (P : Option Addr) (pc : Nat) (y : Ctr) (Q : Option Addr) (qc : Nat) (hxp : x.ports.length ≤ 9223372036854775807) (w : World) (hP : Nums .i64 w P x.ports) (hQ : Nums .i64 w Q y.ports) :
 Calls Tryz.prog 213 #[.agg #[.string x.name, .string x.image, .int .i64 x.rc, .int .i64 x.rm, .int .i64 x.rp, .int .i64 x.lc, .int .i64 x.lm, .int .i64 x.lp, .slice P x.ports.length pc, .int .i64 x.ev, .int .i64 x.fl], .agg #[.string y.name, .string y.image, .int .i64 y.rc, .int .i64 y.rm, .int .i64 y.rp, .int .i64 y.lc, .int .i64 y.lm, .int .i64 y.lp, .slice Q y.ports.length qc, .int .i64 y.ev, .int .i64 y.fl]] w
  fun e w' => e = .returned (.bool (alikeB x y)) ∧ Below w.heap.size w w' := by
 have hb0 := fun o o' => ((Below.refl w.heap.size w).alloc (Nat.le_refl _) o).alloc (show w.heap.size ≤ (w.alloc o).heap.size by simp) o'
 have HB0 := hid hb0
 have NP := hid hP
 have NQ := hid hQ
 clear hb0 hP hQ
 cases b0 : (x.image.toList == y.image.toList) with
 | false =>
  have HD := hid (show false = alikeB x y from by unfold alikeB; rw [b0]; rfl)
  go_enter Tryz.func213, Tryz.ntmps213
  go_wp2
  go_ret
  exact ⟨ret_b HD.out, HB0.out _ _⟩
 | true =>
  have HD := hid (show butB x y = alikeB x y from by unfold alikeB; rw [b0]; rfl)
  go_enter Tryz.func213, Tryz.ntmps213
  go_wp2_with fail
  refine (butImage_any x P pc y Q qc hxp _ (Nums.below NP.out (HB0.out _ _)) (Nums.below NQ.out (HB0.out _ _))).mono ?_
  rintro e w5 ⟨rfl, hb5⟩; have HB5 := hid ((HB0.out _ _).trans (hb5.mono (by simp; omega))); clear hb5; go_wp2
  go_ret
  exact ⟨ret_b HD.out, HB5.out⟩
set_option maxHeartbeats 2000000 in
theorem equalFunc_any (A : Option Addr) (ac : Nat) (a : List Ctr) (B : Option Addr) (bc : Nat) (b : List Ctr) (hl : a.length ≤ 9223372036854775807) (w : World) (hA : Ctrs w A a) (hB : Ctrs w B b) :
 Calls Tryz.prog 212 #[.slice A a.length ac, .slice B b.length bc, .func (.func 213) #[] #[]] w fun e w' => e = .returned (.bool (sameCs a b)) ∧ Below w.heap.size w w' := by
 have HA := hid hA
 have HB := hid hB
 have hl' : (a.length : Int) ≤ 9223372036854775807 := by omega
 clear hA hB
 by_cases hlen : a.length = b.length
 · have HLEN := hid hlen
   rw [← hlen]; clear hlen
   go_enter Tryz.func212, Tryz.ntmps212
   go_wp2_with fail
   go_loopw [17] (fun i wr => ∃ k : Nat, k ≤ a.length ∧ i = .int .i64 k ∧ Hid (Below w.heap.size w wr) ∧ Hid (Far a b k true)) (fun i _ => a.length - (RowKit.intOf i).toNat)
   case atStart => exact ⟨0, Nat.zero_le _, rfl, Below.refl _ _, ⟨fun _ => ⟨HLEN.out, by simp⟩, fun h => by cases h⟩⟩
   case round =>
    obtain ⟨k, hk, rfl, HW, HF⟩ := hrel
    by_cases hlt : k < a.length
    · have hlb : k < b.length := by have := HLEN.out; omega
      obtain ⟨fa, p, P, pc, rfl, hp, hc, nP⟩ := (HA.out.below HW.out).at hlt
      obtain ⟨fb, q, Q, qc, rfl, hq, hd, nQ⟩ := (HB.out.below HW.out).at hlb
      have HN := fun (t : Bool) (ht : t = true ↔ a[k] = b[k]) => HF.out.next hlt hlb ht
      obtain ⟨x, hx⟩ : ∃ x, a[k] = x := ⟨_, rfl⟩; obtain ⟨y, hy⟩ : ∃ y, b[k] = y := ⟨_, rfl⟩
      rw [hx] at hc HN nP fa
      rw [hy] at hd HN nQ fb
      have hxp := fa.ports
      have hka : (k : Int) < (a.length : Int) := by omega
      obtain ⟨c0, c1, c2, c3, c4, c5, c6, c7, c8, c9, c10, _⟩ := hc
      have hd' := fun o => hd.keep (w' := wr.alloc o) (by rw [add_block]; exact Below.heap_alloc wr o _ hq)
      have d0 := fun o => (hd' o).1
      have d1 := fun o => (hd' o).2.1
      have d2 := fun o => (hd' o).2.2.1
      have d3 := fun o => (hd' o).2.2.2.1
      have d4 := fun o => (hd' o).2.2.2.2.1
      have d5 := fun o => (hd' o).2.2.2.2.2.1
      have d6 := fun o => (hd' o).2.2.2.2.2.2.1
      have d7 := fun o => (hd' o).2.2.2.2.2.2.2.1
      have d8 := fun o => (hd' o).2.2.2.2.2.2.2.2.1
      have d9 := fun o => (hd' o).2.2.2.2.2.2.2.2.2.1
      have d10 := fun o => (hd' o).2.2.2.2.2.2.2.2.2.2.1
      have NP := hid nP
      have NQ := hid nQ
      clear hd hd' hx hy hp hq nP nQ fa fb
      have hb0 := fun o o' => ((Below.refl wr.heap.size wr).alloc (Nat.le_refl _) o).alloc (show wr.heap.size ≤ (wr.alloc o).heap.size by simp) o'
      have HB0 := hid hb0
      clear hb0; go_wp2_with fail
      refine (alike_any x P pc y Q qc hxp _ (Nums.below NP.out (HB0.out _ _)) (Nums.below NQ.out (HB0.out _ _))).mono ?_
      rintro e w5 ⟨rfl, hb5⟩; have HB5 := hid (HW.out.trans (((HB0.out _ _).trans (hb5.mono (by simp; omega))).mono HW.out.size)); clear hb5 c0 c1 c2 c3 c4 c5 c6 c7 c8 c9 c10 d0 d1 d2 d3 d4 d5 d6 d7 d8 d9 d10
      cases he : alikeB x y with
      | true =>
       have HNX := hid (HN true (by rw [← sameC_iff x y, ← alikeB_same, he])); clear HN he; go_wp2
       go_roundw
       case rel => exact ⟨k + 1, by omega, by go_num, HB5.out, HNX.out⟩
       case measure => simp [RowKit.intOf]; omega
      | false =>
       have HNX := hid (HN false (by rw [← sameC_iff x y, ← alikeB_same, he])); have HD := hid (show false = sameCs a b from same_bool ((show false = true ↔ a = b from ⟨fun h => (by cases h), fun h => absurd h (HNX.out.2 rfl)⟩).trans sameCs_iff.symm)); clear HN he; go_wp2
       go_ret
       exact ⟨ret_b HD.out, HB5.out⟩
    · have HD := hid (show true = sameCs a b from same_bool ((HF.out.done (fun _ => by omega)).trans sameCs_iff.symm))
      go_wp2
      go_ret
      exact ⟨ret_b HD.out, HW.out⟩
 · have hne : ((a.length : Int) == (b.length : Int)) = false := by simp; omega
   have HD := hid (show false = sameCs a b from same_bool ((show false = true ↔ a = b from ⟨fun h => (by cases h), fun h => absurd (by rw [h]) hlen⟩).trans sameCs_iff.symm)); clear hlen
   go_enter Tryz.func212, Tryz.ntmps212
   go_wp2
   go_ret
   exact ⟨ret_b HD.out, Below.refl _ _⟩
end SpecOwn
end Go.Proofs.YtljbpelogjmciaaGreatDoor
