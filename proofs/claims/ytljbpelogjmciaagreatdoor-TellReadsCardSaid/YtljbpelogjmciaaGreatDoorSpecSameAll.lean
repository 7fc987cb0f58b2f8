/-
 The contracts of slices.Equal on labels and of spec.Same: whether labels, whether specs are the same. All that was there is left as it was. No condition.
-/
import Derived.Test.YtljbpelogjmciaaGreatDoorSpecSameG
set_option maxRecDepth 100000
namespace Go.Proofs.YtljbpelogjmciaaGreatDoor
open Go.ChangeShapes Go.WideShapes Go.ChangeAt Go.RowKit Go.Lib
open Sd Lists Book
namespace SpecOwn
theorem neq_label (x y : Lbl) (v : World) : (binOp BinOp.neq 140 (.agg #[.string x.key, .string x.val]) (.agg #[.string y.key, .string y.val])).run Tryz.prog v = .ok (.bool (!sameL x y)) v := by
 have h := eql_label x y v
 simp only [binOp, Sem.run_bind] at h ⊢
 cases hq : (Op.equal 140 (.agg #[.string x.key, .string x.val]) (.agg #[.string y.key, .string y.val])).run Tryz.prog v with
 | ok b w' =>
  rw [hq] at h
  simp at h ⊢
  obtain ⟨rfl, rfl⟩ := h
  simp
 | _ => rw [hq] at h; simp at h
theorem equalLabels_any (A : Option Addr) (ac : Nat) (a : List Lbl) (B : Option Addr) (bc : Nat) (b : List Lbl) (hl : a.length ≤ 9223372036854775807) (w : World) (hA : Lbls w A a) (hB : Lbls w B b) :
 Calls Tryz.prog 211 #[.slice A a.length ac, .slice B b.length bc] w fun e w' => e = .returned (.bool (sameLs a b)) ∧ Below w.heap.size w w' := by
 have HA := hid hA
 have HB := hid hB
 have hl' : (a.length : Int) ≤ 9223372036854775807 := by omega
 have hgl : Tryz.prog.eqGuardType Tryz.prog.depth 140 = false := by kernel_rfl
 clear hA hB
 by_cases hlen : a.length = b.length
 · have HLEN := hid hlen
   rw [← hlen]; clear hlen
   go_enter Tryz.func211, Tryz.ntmps211
   go_wp2_with fail
   go_loopw [13] (fun i wr => ∃ k : Nat, k ≤ a.length ∧ i = .int .i64 k ∧ Hid (Below w.heap.size w wr) ∧ Hid (Far a b k true)) (fun i _ => a.length - (RowKit.intOf i).toNat)
   case atStart => exact ⟨0, Nat.zero_le _, rfl, Below.refl _ _, ⟨fun _ => ⟨HLEN.out, by simp⟩, fun h => by cases h⟩⟩
   case round =>
    obtain ⟨k, hk, rfl, HW, HF⟩ := hrel
    by_cases hlt : k < a.length
    · have hlb : k < b.length := by have := HLEN.out; omega
      obtain ⟨p, rfl, hp, hc⟩ := (HA.out.below HW.out).at hlt
      obtain ⟨q, rfl, hq, hd⟩ := (HB.out.below HW.out).at hlb
      have HN := fun (t : Bool) (ht : t = true ↔ a[k] = b[k]) => HF.out.next hlt hlb ht
      obtain ⟨x, hx⟩ : ∃ x, a[k] = x := ⟨_, rfl⟩; obtain ⟨y, hy⟩ : ∃ y, b[k] = y := ⟨_, rfl⟩
      rw [hx] at hc HN
      rw [hy] at hd HN
      obtain ⟨c0, c1⟩ := hc
      obtain ⟨d0, d1⟩ := hd
      have hka : (k : Int) < (a.length : Int) := by omega
      have hnq := fun v => neq_label x y v
      clear hx hy hp hq
      cases he : sameL x y with
      | true =>
       rw [he] at hnq
       have HNX := hid (HN true (by rw [← sameL_iff x y, he])); clear HN he; go_wp2_with fail
       go_quiet (fail)
       go_wp2
       go_roundw
       case rel => exact ⟨k + 1, by omega, by go_num, HW.out.trans ((Kit.below_drewN _ _ _).mono HW.out.size), HNX.out⟩
       case measure => simp [RowKit.intOf]; omega
      | false =>
       rw [he] at hnq
       have HNX := hid (HN false (by rw [← sameL_iff x y, he])); have HD := hid (show false = sameLs a b from same_bool ((show false = true ↔ a = b from ⟨fun h => (by cases h), fun h => absurd h (HNX.out.2 rfl)⟩).trans sameLs_iff.symm)); clear HN he; go_wp2_with fail
       go_quiet (fail)
       go_wp2
       go_ret
       exact ⟨ret_b HD.out, HW.out.trans ((Kit.below_drewN _ _ _).mono HW.out.size)⟩
    · have HD := hid (show true = sameLs a b from same_bool ((HF.out.done (fun _ => by omega)).trans sameLs_iff.symm))
      go_wp2
      go_ret
      exact ⟨ret_b HD.out, HW.out⟩
 · have hne : ((a.length : Int) == (b.length : Int)) = false := by simp; omega
   have HD := hid (show false = sameLs a b from same_bool ((show false = true ↔ a = b from ⟨fun h => (by cases h), fun h => absurd (by rw [h]) hlen⟩).trans sameLs_iff.symm)); clear hlen
   go_enter Tryz.func211, Tryz.ntmps211
   go_wp2
   go_ret
   exact ⟨ret_b HD.out, Below.refl _ _⟩
set_option maxHeartbeats 2000000 in
theorem same_any (S : Spc) (LA : Option Addr) (lc : Nat) (IA : Option Addr) (ic : Nat) (MA : Option Addr) (mc : Nat) (T : Spc) (LB : Option Addr) (ld : Nat) (IB : Option Addr) (id : Nat) (MB : Option Addr) (md : Nat) (w : World) (hS : S.In w LA lc IA ic MA mc) (hT : T.In w LB ld IB id MB md) :
 Calls Tryz.prog 190 #[.agg #[.string S.name, .slice LA S.labels.length lc, .slice IA S.init.length ic, .slice MA S.main.length mc, .int .i64 S.restart, .int .i64 S.grace, .int .i64 S.prio], .agg #[.string T.name, .slice LB T.labels.length ld, .slice IB T.init.length id, .slice MB T.main.length md, .int .i64 T.restart, .int .i64 T.grace, .int .i64 T.prio]] w
  fun e w' => e = .returned (.bool (sameS S T)) ∧ Below w.heap.size w w' := by
 have HS := hid hS
 have HT := hid hT
 have hb0 : ∀ o o', Below w.heap.size w ((w.alloc o).alloc o') := fun o o' => ((Below.refl _ _).alloc (Nat.le_refl _) _).alloc (by simp) _
 have HB0 := hid hb0
 obtain ⟨b0, e0⟩ : ∃ b0 : Bool, (S.name.toList == T.name.toList) = b0 := ⟨_, rfl⟩
 obtain ⟨b1, e1⟩ : ∃ b1 : Bool, sameLs S.labels T.labels = b1 := ⟨_, rfl⟩
 obtain ⟨b2, e2⟩ : ∃ b2 : Bool, sameCs S.init T.init = b2 := ⟨_, rfl⟩
 obtain ⟨b3, e3⟩ : ∃ b3 : Bool, sameCs S.main T.main = b3 := ⟨_, rfl⟩
 obtain ⟨b4, e4⟩ : ∃ b4 : Bool, (S.restart == T.restart) = b4 := ⟨_, rfl⟩
 obtain ⟨b5, e5⟩ : ∃ b5 : Bool, (S.grace == T.grace) = b5 := ⟨_, rfl⟩
 obtain ⟨b6, e6⟩ : ∃ b6 : Bool, (S.prio == T.prio) = b6 := ⟨_, rfl⟩
 have HR := hid (show (b0 && b1 && b2 && b3 && b4 && b5 && b6) = sameS S T by rw [← e0, ← e1, ← e2, ← e3, ← e4, ← e5, ← e6]; rfl)
 have E1 := hid e1
 have E2 := hid e2
 have E3 := hid e3
 clear hS hT hb0 e1 e2 e3
 go_enter Tryz.func190, Tryz.ntmps190
 cases b0 with
 | false =>
  have HD := hid (show false = sameS S T from by have := HR.out; simpa using this); go_wp2
  go_ret
  exact ⟨ret_b HD.out, HB0.out _ _⟩
 | true =>
  go_wp2_with fail
  refine (equalLabels_any LA lc S.labels LB ld T.labels HS.out.nl _ (HS.out.below (HB0.out _ _)).labels (HT.out.below (HB0.out _ _)).labels).mono ?_
  rintro e w5 ⟨rfl, hb5⟩; have HB5 := hid ((HB0.out _ _).trans (hb5.mono (by simp; omega)))
  obtain ⟨hcell, hfroz⟩ := Kit.bcell hb5
  have hz5 : w.heap.size + 1 < w5.heap.size := by have := hb5.size; simp at this; omega
  have hy5 : w.heap.size < w5.heap.size := by omega
  rw [E1.out]; clear hb5
  cases b1 with
  | false =>
   have HD := hid (show false = sameS S T from by have := HR.out; simpa using this); go_wp2
   go_ret
   exact ⟨ret_b HD.out, HB5.out⟩
  | true =>
   go_wp2_with fail
   refine (equalFunc_any IA ic S.init IB id T.init HS.out.ni _ (HS.out.below (HB5.out)).init (HT.out.below (HB5.out)).init).mono ?_
   rintro e w6 ⟨rfl, hb6⟩; have HB6 := hid (HB5.out.trans (hb6.mono HB5.out.size))
   obtain ⟨hcell6, hfroz6⟩ := Kit.bcell hb6
   have hz6 : w.heap.size + 1 < w6.heap.size := Nat.lt_of_lt_of_le hz5 hb6.size
   have hy6 : w.heap.size < w6.heap.size := by omega
   rw [E2.out]; clear hb6
   cases b2 with
   | false =>
    have HD := hid (show false = sameS S T from by have := HR.out; simpa using this); go_wp2
    go_ret
    exact ⟨ret_b HD.out, HB6.out⟩
   | true =>
    go_wp2_with fail
    refine (equalFunc_any MA mc S.main MB md T.main HS.out.nm _ (HS.out.below (HB6.out)).main (HT.out.below (HB6.out)).main).mono ?_
    rintro e w7 ⟨rfl, hb7⟩; have HB7 := hid (HB6.out.trans (hb7.mono HB6.out.size))
    obtain ⟨hcell7, hfroz7⟩ := Kit.bcell hb7
    have hz7 : w.heap.size + 1 < w7.heap.size := Nat.lt_of_lt_of_le hz6 hb7.size
    have hy7 : w.heap.size < w7.heap.size := by omega
    rw [E3.out]; clear hb7
    cases b3 with
    | false =>
     have HD := hid (show false = sameS S T from by have := HR.out; simpa using this); go_wp2
     go_ret
     exact ⟨ret_b HD.out, HB7.out⟩
    | true =>
     cases b4 with
     | false =>
      have HD := hid (show false = sameS S T from by have := HR.out; simpa using this); go_wp2
      go_ret
      exact ⟨ret_b HD.out, HB7.out⟩
     | true =>
      cases b5 with
      | false =>
       have HD := hid (show false = sameS S T from by have := HR.out; simpa using this); go_wp2
       go_ret
       exact ⟨ret_b HD.out, HB7.out⟩
      | true =>
       have HD := hid (show b6 = sameS S T from by have := HR.out; simpa using this); go_wp2
       go_ret
       exact ⟨ret_b HD.out, HB7.out⟩
end SpecOwn
end Go.Proofs.YtljbpelogjmciaaGreatDoor
