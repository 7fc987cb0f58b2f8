/-
 The contract of the document's Bytes of chapter 8 (provostref08.Bytes): the bytes of a call that may be. All that was there is left as it was. Conditions: the call may be, and is not too much.
-/
import Derived.Test.YtakdhkhcndeiiaaGreatDoorAskRef
import Derived.Test.YtakdhkhcndeiiaaGreatDoorAskLoad
import Derived.Test.YtakdhkhcndeiiaaGreatDoorAskPut
import Derived.Test.YtakdhkhcndeiiaaGreatDoorPackRefPut
import Derived.Test.YtakdhkhcndeiiaaGreatDoorWireRefBytes
import Derived.Test.YtakdhkhcndeiiaaGreatDoorRegionAll
import Derived.IntWalk
set_option linter.unusedVariables false
set_option linter.unusedSimpArgs false
namespace Go.Proofs.YtakdhkhcndeiiaaGreatDoor
open Go.ChangeShapes Go.WideShapes Go.ChangeAt Go.RowKit Go.Lib
open LebMath WirePure Sd Wire SpecOwn SpecRef Book Pk
namespace Ak

theorem put_bx (n : Nat) (hn : n < 18446744073709551616) (w : World) : Calls Tryz.prog 79 #[.int .u64 n] w fun e w' => e = .returned (.string (bx (leb n))) ∧ Below w.heap.size w w' := NumRefPut.refPut_any n w hn
theorem put_int (z : Int) (h0 : 0 ≤ z) (h1 : z ≤ 1099511627776) (w : World) : Calls Tryz.prog 79 #[.int .u64 z] w fun e w' => e = .returned (.string (bx (leb z.toNat))) ∧ Below w.heap.size w w' := by
 obtain ⟨n, rfl⟩ := Int.eq_ofNat_of_zero_le h0
 exact put_bx n (by omega) w
theorem text_bx (s : ByteArray) (hs : s.size ≤ 140737488351232) (w : World) : Calls Tryz.prog 81 #[.string s] w fun e w' => e = .returned (.string (bx (dataC.put s))) ∧ Below w.heap.size w w' := bytes_ref s hs w
theorem putF_few {c : Cal} {f : Int} (h : okF c f) : (putF c f).length ≤ 3000000 := by
 rcases nine f with rfl | rfl | rfl | rfl | rfl | rfl | rfl | rfl | rfl | ⟨h0, h1, h2, h3, h4, h5, h6, h7, h8⟩
 · exact Nat.le_trans (int_put_len (show uidC.ok c.uid from h)) (by decide)
 · have h' : c.rev ≤ 18446744073709551615 := h
   exact Nat.le_trans (leb_le_ten (n := c.rev) (by omega)) (by decide)
 · exact spec_put_len (show specC.ok c.spec from h)
 · exact Nat.le_trans (int_put_len (show graceC.ok c.grace from h)) (by decide)
 · exact Nat.le_trans (int_put_len (show ctrNC.ok c.ctr from h)) (by decide)
 · exact Nat.le_trans (int_put_len (show uidC.ok c.id from h)) (by decide)
 · have h' : c.data.size ≤ 32 := h
   exact Nat.le_trans (txB_le (s := c.data) h') (by decide)
 · exact Nat.le_trans (int_put_len (show mostC.ok c.most from h)) (by decide)
 · have h' : c.sel.length ≤ 4 ∧ ∀ x ∈ c.sel, labelC.ok x := h
   have h1 := leb_le_ten (n := c.sel.length) (by omega)
   have h2 := flat_put_len labelC.put 100 c.sel (fun y hy => by
    have hy' : y.key.size ≤ 33 ∧ y.val.size ≤ 16 := (h'.2 y hy).1
    have e1 := txB_le hy'.1
    have e2 := txB_le hy'.2
    show (txB y.key ++ txB y.val).length ≤ 100
    rw [List.length_append]; omega)
   have h3 : c.sel.length * 100 ≤ 4 * 100 := Nat.mul_le_mul_right _ h'.1
   show (leb c.sel.length ++ c.sel.flatMap labelC.put).length ≤ _
   rw [List.length_append]; omega
 · simp [putF, h0, h1, h2, h3, h4, h5, h6, h7, h8]
theorem number_field (c : Cal) (LA : Option Addr) (lc : Nat) (IA : Option Addr) (ic : Nat) (MA : Option Addr) (mc : Nat) (SA : Option Addr) (sc : Nat) (f : Int) (hf : f = 0 ∨ f = 3 ∨ f = 4 ∨ f = 5 ∨ f = 7) (h : (checkF c f).1 = 0) (hr : c.rev < 18446744073709551616) :
 ∃ (s : ByteArray) (z lo hi : Int), nameF f = s ∧ putF c f = leb z.toNat ∧ 0 ≤ z ∧ z ≤ 1099511627776 ∧ (leb z.toNat).length ≤ 10 ∧
  (∀ w, Calls Tryz.prog 68 #[.agg #[.int .i64 c.kind, .int .i64 c.uid, .int .u64 c.rev, .string c.spec.name, .slice LA c.spec.labels.length lc, .slice IA c.spec.init.length ic, .slice MA c.spec.main.length mc, .int .i64 c.spec.restart, .int .i64 c.spec.grace, .int .i64 c.spec.prio, .int .i64 c.grace, .int .i64 c.ctr, .int .i64 c.id, .int .i64 c.most, .string c.data, .slice SA c.sel.length sc], .string s] w fun e w' => e = .returned (.tuple #[.int .i64 z, .int .i64 lo, .int .i64 hi]) ∧ Below w.heap.size w w') ∧ ((s.toList == ([114, 101, 118] : List UInt8)) = false) ∧ ((s.toList == ([115, 112, 101, 99] : List UInt8)) = false) ∧ ((s.toList == ([100, 97, 116, 97] : List UInt8)) = false) ∧ ((s.toList == ([115, 101, 108] : List UInt8)) = false) := by
 rcases hf with rfl | rfl | rfl | rfl | rfl
 · have hrg := range_fine (show (rangeV c.uid 1 1073741824 a_uid).1 = 0 from h)
   exact ⟨⟨#[117, 105, 100]⟩, c.uid, 1, 1073741824, rfl, rfl, by omega, by omega, leb_le_ten (by omega), fun w => bounds_0 c LA lc IA ic MA mc SA sc w, by decide +kernel, by decide +kernel, by decide +kernel, by decide +kernel⟩
 · have hrg := range_fine (show (rangeV c.grace 0 1000 a_grace).1 = 0 from h)
   exact ⟨⟨#[103, 114, 97, 99, 101]⟩, c.grace, 0, 1000, rfl, rfl, by omega, by omega, leb_le_ten (by omega), fun w => bounds_3 c LA lc IA ic MA mc SA sc w, by decide +kernel, by decide +kernel, by decide +kernel, by decide +kernel⟩
 · have hrg := range_fine (show (rangeV c.ctr 0 3 a_ctr).1 = 0 from h)
   exact ⟨⟨#[99, 116, 114]⟩, c.ctr, 0, 3, rfl, rfl, by omega, by omega, leb_le_ten (by omega), fun w => bounds_4 c LA lc IA ic MA mc SA sc w, by decide +kernel, by decide +kernel, by decide +kernel, by decide +kernel⟩
 · have hrg := range_fine (show (rangeV c.id 1 1073741824 a_id).1 = 0 from h)
   exact ⟨⟨#[105, 100]⟩, c.id, 1, 1073741824, rfl, rfl, by omega, by omega, leb_le_ten (by omega), fun w => bounds_5 c LA lc IA ic MA mc SA sc w, by decide +kernel, by decide +kernel, by decide +kernel, by decide +kernel⟩
 · have hrg := range_fine (show (rangeV c.most 1 32 a_most).1 = 0 from h)
   exact ⟨⟨#[109, 111, 115, 116]⟩, c.most, 1, 32, rfl, rfl, by omega, by omega, leb_le_ten (by omega), fun w => bounds_7 c LA lc IA ic MA mc SA sc w, by decide +kernel, by decide +kernel, by decide +kernel, by decide +kernel⟩

theorem unwanted_of {ops : Array Oper} {o : Oper} {a : Act} {j d : Nat} {b : Bool} (hg : o.guard = some (j, !b)) (hj : (ops[j]?).bind (·.dst) = some d) (hv : a.tmps.getD d undef = .bool b) : Region.wanted o (yielded ops a.tmps) = false := by
 have hs : a.tmps[d]? = some (.bool b) := by
  rw [Array.getD_eq_getD_getElem?] at hv
  cases h : a.tmps[d]? with
  | none => rw [h] at hv; simp [undef] at hv
  | some x => rw [h] at hv; simp at hv; rw [hv]
 unfold Region.wanted
 rw [hg]
 simp [yielded, hj, hs]
theorem unwanted_no {ops : Array Oper} {o : Oper} {a : Act} {j d : Nat} {b : Bool} (hg : o.guard = some (j, b)) (hj : (ops[j]?).bind (·.dst) = some d) (hv : a.tmps.getD d undef = undef) : Region.wanted o (yielded ops a.tmps) = false := by
 rw [Array.getD_eq_getD_getElem?] at hv
 unfold Region.wanted
 rw [hg]
 cases h : a.tmps[d]? with
 | none => simp [yielded, hj, h]
 | some x =>
  rw [h] at hv
  simp only [Option.getD_some] at hv
  subst hv
  simp [yielded, hj, h, undef]

def FB (c : Cal) (LA : Option Addr) (lc : Nat) (IA : Option Addr) (ic : Nat) (MA : Option Addr) (mc : Nat) (SA : Option Addr) (sc : Nat) (b : Nat) (ad : Addr) (m cap k : Nat) (s : ByteArray) (z lo hi : Int) : Nat → Value → World → Prop
 | 0 => fun v _ => v = .agg (cvals c LA lc IA ic MA mc SA sc).toArray
 | 1 => fun v _ => v = .slice (some ad) m cap
 | 2 => fun v _ => v = .int .i64 (k : Nat)
 | 3 => fun v _ => v = .pointer (some (ad.add k))
 | 4 => fun v _ => v = .string s
 | 5 => fun v _ => v = .tuple #[.int .i64 z, .int .i64 lo, .int .i64 hi]
 | 6 => fun v _ => v = .tuple #[.int .i64 z, .int .i64 lo, .int .i64 hi]
 | 7 => fun v _ => v = .int .i64 z
 | 8 => fun v _ => v = .int .i64 lo
 | 9 => fun v _ => v = .int .i64 hi
 | 10 => fun v _ => v = .int .i64 z
 | 11 => fun v _ => v = .int .i64 lo
 | _ => fun v _ => v = .int .i64 hi
theorem FB_keep (c : Cal) (LA : Option Addr) (lc : Nat) (IA : Option Addr) (ic : Nat) (MA : Option Addr) (mc : Nat) (SA : Option Addr) (sc : Nat) (b : Nat) (ad : Addr) (m cap k : Nat) (s : ByteArray) (z lo hi : Int) (i_ : Nat) (v_ : Value) (w_ w2_ : World) (h_ : FB c LA lc IA ic MA mc SA sc b ad m cap k s z lo hi i_ v_ w_) (hb_ : Below w_.heap.size w_ w2_) : FB c LA lc IA ic MA mc SA sc b ad m cap k s z lo hi i_ v_ w2_ := by
 unfold FB at h_ ⊢
 split at h_ <;> exact h_

set_option maxRecDepth 100000 in
set_option maxHeartbeats 8000000 in
theorem bytesR_any (c : Cal) (LA : Option Addr) (lc : Nat) (IA : Option Addr) (ic : Nat) (MA : Option Addr) (mc : Nat) (SA : Option Addr) (sc : Nat) (hLt : LightC c) (hc : (checkC c).1 = 0) (w : World) (h : c.In w LA lc IA ic MA mc SA) :
 Calls Tryz.prog 26 #[.agg #[.int .i64 c.kind, .int .i64 c.uid, .int .u64 c.rev, .string c.spec.name, .slice LA c.spec.labels.length lc, .slice IA c.spec.init.length ic, .slice MA c.spec.main.length mc, .int .i64 c.spec.restart, .int .i64 c.spec.grace, .int .i64 c.spec.prio, .int .i64 c.grace, .int .i64 c.ctr, .int .i64 c.id, .int .i64 c.most, .string c.data, .slice SA c.sel.length sc]] w fun e w' => e = .returned (.string (bx (putC c))) ∧ Below w.heap.size w w' := by
 have HLT := Lib.hid hLt
 have H := Lib.hid h
 have HCF := Lib.hid hc
 obtain ⟨hkd, hfs, _⟩ := check_fine.1 hc
 have HFS := Lib.hid hfs
 obtain ⟨kn, hkn⟩ := Int.eq_ofNat_of_zero_le (show 0 ≤ c.kind by omega)
 have hkn12 : kn ≤ 12 := by omega
 have hwk : IntKind.u64.wrap (kn : Int) = kn := IntWalk.u64_in _ (by omega)
 have HKP := Lib.hid (show leb kn = kindC.put c.kind by show _ = leb c.kind.toNat; rw [hkn]; rfl)
 have HKL := Lib.hid (show (kindC.put c.kind).length ≤ 10 from int_put_len (show (intC 12 (by decide)).ok c.kind from int_ok (by omega) (by omega)))
 obtain ⟨w1, hw1⟩ : ∃ v, w.alloc (.cells #[.int .i64 c.kind, .int .i64 c.uid, .int .u64 c.rev, .string c.spec.name, .slice LA c.spec.labels.length lc, .slice IA c.spec.init.length ic, .slice MA c.spec.main.length mc, .int .i64 c.spec.restart, .int .i64 c.spec.grace, .int .i64 c.spec.prio, .int .i64 c.grace, .int .i64 c.ctr, .int .i64 c.id, .int .i64 c.most, .string c.data, .slice SA c.sel.length sc] 41) = v := ⟨_, rfl⟩
 have B1 := Lib.hid (show Below w.heap.size w w1 by rw [← hw1]; exact (Below.refl _ _).alloc (Nat.le_refl _) _)
 have X1 := Lib.hid (show w1.heap[w.heap.size]? = some (.cells #[.int .i64 c.kind, .int .i64 c.uid, .int .u64 c.rev, .string c.spec.name, .slice LA c.spec.labels.length lc, .slice IA c.spec.init.length ic, .slice MA c.spec.main.length mc, .int .i64 c.spec.restart, .int .i64 c.spec.grace, .int .i64 c.spec.prio, .int .i64 c.grace, .int .i64 c.ctr, .int .i64 c.id, .int .i64 c.most, .string c.data, .slice SA c.sel.length sc] 41) by rw [← hw1]; exact heap_alloc_new w _)
 have c0 : w1.cell? ⟨w.heap.size, 0, none⟩ = some (.int .i64 (kn : Int)) := by rw [← hkn]; exact box_cell X1.out 0 rfl
 have HKN := Lib.hid hkn
 clear h hLt hc hkd hfs hkn
 go_enter Tryz.func26, Tryz.ntmps26
 go_wp2_with fail
 refine (put_bx kn (by omega) w1).mono ?_
 rintro e w2 ⟨rfl, hb2⟩
 rw [HKP.out]
 have B2 := Lib.hid (B1.out.trans (hb2.mono B1.out.size))
 have X2 := Lib.hid ((hb2.block w.heap.size (lt_of_block X1.out)).trans X1.out)
 clear hb2 X1 hw1 c0 hwk
 have c0 := box_cell X2.out 0 rfl
 go_wp2_with fail
 refine (names_fields c.kind w2).mono ?_
 rintro e w3 ⟨A, cap, rfl, hT, hb3⟩
 have B3 := Lib.hid (B2.out.trans (hb3.mono B2.out.size))
 have X3 := Lib.hid ((hb3.block w.heap.size (lt_of_block X2.out)).trans X2.out)
 obtain ⟨b, hb⟩ : ∃ b, w.heap.size = b := ⟨_, rfl⟩
 have HBB := Lib.hid hb
 rw [hb] at X3 ⊢
 have TX0 := Lib.hid hT
 have HLE := Lib.hid (fields_len c.kind)
 have HRG := Lib.hid (fields_lt c.kind)
 obtain ⟨l, hl⟩ : ∃ l, fieldsV c.kind = l := ⟨_, rfl⟩
 obtain ⟨xs, hxs⟩ : ∃ xs, namesV c.kind = xs := ⟨_, rfl⟩
 have HXS := Lib.hid (show xs = l.map nameF by rw [← hxs, ← hl]; rfl)
 rw [hl] at HLE HRG HFS ⊢
 rw [hxs] at TX0
 have HLV := Lib.hid hl
 clear hT hl hxs hb3 hb X2 c0
 have hn3 : (l.length : Int) ≤ 3 := by have := HLE.out; omega
 go_wp2_with fail
 go_loopw [3, 5] (fun s i wr => ∃ k : Nat, k ≤ l.length ∧ i = .int .i64 k ∧ s = .string (bx (kindC.put c.kind ++ (l.take k).flatMap (putF c))) ∧ Hid (Below w.heap.size w wr) ∧ Hid (Below w3.heap.size w3 wr)) (fun _ i _ => l.length - (RowKit.intOf i).toNat)
 case atStart => exact ⟨0, Nat.zero_le _, rfl, by simp, B3.out, Below.refl _ _⟩
 case round =>
  obtain ⟨k, hk, rfl, rfl, BW, CW⟩ := hrel
  have XW := Lib.hid ((CW.out.block b (lt_of_block X3.out)).trans X3.out)
  by_cases hlt : k < l.length
  · have hx : k < xs.length := by rw [HXS.out, List.length_map]; exact hlt
    obtain ⟨ad, rfl, ha, hc⟩ := (texts_below TX0.out CW.out).at hx
    have hka : (k : Int) < (l.length : Int) := by omega
    have hrg := HRG.out l[k] (List.getElem_mem hlt)
    have hof := HFS.out l[k] (List.getElem_mem hlt)
    have hnm : xs[k] = nameF l[k] := by simp only [HXS.out, List.getElem_map]
    have hpre : ((l.take k).flatMap (putF c)).length ≤ 2 * 3000000 := Nat.le_trans (flat_put_len (putF c) 3000000 (l.take k) (fun g hg => putF_few (checkF_ok (HFS.out g (List.mem_of_mem_take hg)) H.out.rev))) (Nat.mul_le_mul_right _ (by rw [List.length_take]; have := HLE.out; omega))
    have HNX0 := Lib.hid (show bx (kindC.put c.kind ++ (l.take (k + 1)).flatMap (putF c)) = bx ((kindC.put c.kind ++ (l.take k).flatMap (putF c)) ++ putF c l[k]) by
     rw [List.take_succ_eq_append_getElem hlt, List.flatMap_append, List.append_assoc]; simp)
    rw [hnm] at hc
    obtain ⟨f, hf⟩ : ∃ f, l[k] = f := ⟨_, rfl⟩
    rw [hf] at hc hrg hof HNX0
    obtain ⟨acc, hacc⟩ : ∃ acc, kindC.put c.kind ++ (l.take k).flatMap (putF c) = acc := ⟨_, rfl⟩
    have HAL := Lib.hid (show acc.length ≤ 7000000 by rw [← hacc, List.length_append]; have := HKL.out; omega)
    rw [hacc] at HNX0 ⊢
    have HOKF := Lib.hid hof
    clear hf hnm hx hof hacc hpre
    rcases (by omega : f = 1 ∨ f = 2 ∨ f = 6 ∨ f = 8 ∨ (f = 0 ∨ f = 3 ∨ f = 4 ∨ f = 5 ∨ f = 7)) with rfl | rfl | rfl | rfl | hnum
    all_goals clear hrg
    · have HNX := Lib.hid (show bx (kindC.put c.kind ++ (l.take (k + 1)).flatMap (putF c)) = bx (acc ++ leb c.rev) from HNX0.out)
      clear HNX0
      as_aux_lemma =>
       rw [show nameF 1 = ⟨#[114, 101, 118]⟩ from rfl] at hc
       have c2 := box_cell XW.out 2 rfl
       have HPL := Lib.hid (show (leb c.rev).length ≤ 10 from leb_le_ten H.out.rev)
       have hadd := fun v => bx_add (P := Tryz.prog) (a := acc) (b := leb c.rev) (by have h1_ := HAL.out; have h2_ := HPL.out; omega) v
       clear ha
       go_wp2_with fail
       refine (put_bx c.rev H.out.rev wr).mono ?_
       rintro e w6 ⟨rfl, hb6⟩
       have B6 := Lib.hid (BW.out.trans (hb6.mono BW.out.size))
       have C6 := Lib.hid (CW.out.trans (hb6.mono CW.out.size))
       clear hb6
       go_wp2
       go_roundw
       case rel => exact ⟨k + 1, by omega, by go_num, (by rw [HNX.out]), B6.out, C6.out⟩
       case measure => simp [RowKit.intOf]; omega
    · have HNX := Lib.hid (show bx (kindC.put c.kind ++ (l.take (k + 1)).flatMap (putF c)) = bx (acc ++ specC.put c.spec) from HNX0.out)
      clear HNX0
      as_aux_lemma =>
       rw [show nameF 2 = ⟨#[115, 112, 101, 99]⟩ from rfl] at hc
       have ld := Lib.hid (range_at XW.out 3 [.string c.spec.name, .slice LA c.spec.labels.length lc, .slice IA c.spec.init.length ic, .slice MA c.spec.main.length mc, .int .i64 c.spec.restart, .int .i64 c.spec.grace, .int .i64 c.spec.prio] rfl)
       have HPL := Lib.hid (show (specC.put c.spec).length ≤ 3000000 from spec_put_len (checkF_ok HOKF.out H.out.rev))
       have hadd := fun v => bx_add (P := Tryz.prog) (a := acc) (b := specC.put c.spec) (by have h1_ := HAL.out; have h2_ := HPL.out; omega) v
       clear ha
       go_wp2_with (refine wpList_load_mid rfl _ _ rfl _ _ rfl _ _ ld.out Tryz.underlying28 rfl (by kernel_rfl) ?_)
       refine (bytes_ref07 c.spec LA lc IA ic MA mc (checkF_ok HOKF.out H.out.rev) wr (H.out.spec.below BW.out)).mono ?_
       rintro e w6 ⟨rfl, hb6⟩
       have B6 := Lib.hid (BW.out.trans (hb6.mono BW.out.size))
       have C6 := Lib.hid (CW.out.trans (hb6.mono CW.out.size))
       clear hb6
       go_wp2
       go_roundw
       case rel => exact ⟨k + 1, by omega, by go_num, (by rw [HNX.out]), B6.out, C6.out⟩
       case measure => simp [RowKit.intOf]; omega
    · have HNX := Lib.hid (show bx (kindC.put c.kind ++ (l.take (k + 1)).flatMap (putF c)) = bx (acc ++ dataC.put c.data) from HNX0.out)
      clear HNX0
      as_aux_lemma =>
       rw [show nameF 6 = ⟨#[100, 97, 116, 97]⟩ from rfl] at hc
       have c14 := box_cell XW.out 14 rfl
       have HDS := Lib.hid (show c.data.size ≤ 32 from checkF_ok HOKF.out H.out.rev)
       have HPL := Lib.hid (show (dataC.put c.data).length ≤ 10 + 32 from txB_le HDS.out)
       have hadd := fun v => bx_add (P := Tryz.prog) (a := acc) (b := dataC.put c.data) (by have h1_ := HAL.out; have h2_ := HPL.out; omega) v
       clear ha
       go_wp2_with fail
       refine (text_bx c.data (by have := HDS.out; omega) wr).mono ?_
       rintro e w6 ⟨rfl, hb6⟩
       have B6 := Lib.hid (BW.out.trans (hb6.mono BW.out.size))
       have C6 := Lib.hid (CW.out.trans (hb6.mono CW.out.size))
       clear hb6
       go_wp2
       go_roundw
       case rel => exact ⟨k + 1, by omega, by go_num, (by rw [HNX.out]), B6.out, C6.out⟩
       case measure => simp [RowKit.intOf]; omega
    · have HNX := Lib.hid (show bx (kindC.put c.kind ++ (l.take (k + 1)).flatMap (putF c)) = bx (acc ++ labelsC.put c.sel) from HNX0.out)
      clear HNX0
      as_aux_lemma =>
       rw [show nameF 8 = ⟨#[115, 101, 108]⟩ from rfl] at hc
       have c15 := box_cell XW.out 15 rfl
       have HPL := Lib.hid (show (labelsC.put c.sel).length ≤ 10 + 10 * 220 by
        have h1_ := leb_le_ten (n := c.sel.length) (by have := HLT.out.sel.1; omega)
        have h2_ := flat_put_len labelC.put 220 c.sel (fun y hy => by have := HLT.out.sel.2 y hy; have e1 := txB_le this.1; have e2 := txB_le this.2; show (txB y.key ++ txB y.val).length ≤ 220; rw [List.length_append]; omega)
        have h3_ : c.sel.length * 220 ≤ 10 * 220 := Nat.mul_le_mul_right _ HLT.out.sel.1
        show (leb c.sel.length ++ c.sel.flatMap labelC.put).length ≤ _
        rw [List.length_append]; omega)
       have hadd := fun v => bx_add (P := Tryz.prog) (a := acc) (b := labelsC.put c.sel) (by have h1_ := HAL.out; have h2_ := HPL.out; omega) v
       clear ha
       go_wp2_with fail
       refine (labels_bytes SA sc c.sel (by have := HLT.out.sel.1; omega) (fun x hx => by have := HLT.out.sel.2 x hx; omega) wr (H.out.sel.below BW.out)).mono ?_
       rintro e w6 ⟨rfl, hb6⟩
       have B6 := Lib.hid (BW.out.trans (hb6.mono BW.out.size))
       have C6 := Lib.hid (CW.out.trans (hb6.mono CW.out.size))
       clear hb6
       go_wp2
       go_roundw
       case rel => exact ⟨k + 1, by omega, by go_num, (by rw [HNX.out]), B6.out, C6.out⟩
       case measure => simp [RowKit.intOf]; omega
    · obtain ⟨s, z, lo, hi, hns, hps, hz0, hz1, hpl, hbd, q1, q2, q3, q4⟩ := number_field c LA lc IA ic MA mc SA sc f hnum HOKF.out H.out.rev
      rw [hns] at hc
      rw [hps] at HNX0
      have HNX := Lib.hid HNX0.out
      have hwr : IntKind.u64.wrap z = z := IntWalk.u64_in _ (by omega)
      have HPL := Lib.hid (show (leb z.toNat).length ≤ 10 from hpl)
      have HZ0 := Lib.hid hz0
      have HZ1 := Lib.hid hz1
      have HWR := Lib.hid hwr
      have HC := Lib.hid hc
      have HAD := Lib.hid ha
      have HBD := Lib.hid hbd
      clear hz0 hz1 hwr hbd hpl hns hps HNX0 hnum
      as_aux_lemma =>
       go_wp2_with fail
       refine Loose.wp_region_walk (by kernel_rfl) (by kernel_rfl) (FB c LA lc IA ic MA mc SA sc b ad l.length cap k s z lo hi) (FB_keep c LA lc IA ic MA mc SA sc b ad l.length cap k s z lo hi) ?_ ?_
       · refine ⟨?_, ?_, ?_, ?_, ?_, ?_, ?_, ?_, ?_, ?_, ?_, ?_, ?_, trivial⟩
         · intro a w1 hfr hdep
           have hl_ := run_loadVar_mid w1 b 0 41 (cvals c LA lc IA ic MA mc SA sc) _ (range_call ((hfr.below.block b (lt_of_block XW.out)).trans XW.out)) Tryz.underlying41 rfl (by kernel_rfl)
           have f0 : a.tmps.getD 1 undef = .pointer (some ⟨b, 0, none⟩) := hfr.slot 1 (by kernel_rfl)
           refine Loose.Step.value rfl (v := .agg (cvals c LA lc IA ic MA mc SA sc).toArray) (w' := w1) ?_ rfl (Below.refl _ _)
           unfold execOp; simp only [Act.eval, f0, Instr.loadAt, Instr.sureAddr, Sem.run_bind, Sem.run_pure, Result.andThen_ok, hl_]
         · intro a w1 hfr hdep
           have f0 : a.tmps.getD 4 undef = .slice (some ad) l.length cap := hfr.slot 4 (by kernel_rfl)
           refine Loose.Step.value rfl (v := .slice (some ad) l.length cap) (w' := w1) ?_ rfl (Below.refl _ _)
           simp [go_sem, Act.eval, f0]
         · intro a w1 hfr hdep
           have f0 : a.tmps.getD 5 undef = .int .i64 (k : Nat) := hfr.slot 5 (by kernel_rfl)
           refine Loose.Step.value rfl (v := .int .i64 (k : Nat)) (w' := w1) ?_ rfl (Below.refl _ _)
           simp [go_sem, Act.eval, f0]
         · intro a w1 hfr hdep
           have e0 : a.tmps.getD 28 undef = .slice (some ad) l.length cap := Loose.dep_of hdep 1 28 (by kernel_rfl)
           have e1 : a.tmps.getD 29 undef = .int .i64 (k : Nat) := Loose.dep_of hdep 2 29 (by kernel_rfl)
           refine Loose.Step.value rfl (v := .pointer (some (ad.add k))) (w' := w1) ?_ rfl (Below.refl _ _)
           simp [go_sem, Act.eval, e0, e1, hka, hlt]
         · intro a w1 hfr hdep
           have hc_ : w1.cell? (ad.add k) = some (.string s) := (hfr.below.cell (p := ad.add k) (by rw [Lists.add_block]; exact HAD.out)).trans HC.out
           have e0 : a.tmps.getD 30 undef = .pointer (some (ad.add k)) := Loose.dep_of hdep 3 30 (by kernel_rfl)
           refine Loose.Step.value rfl (v := .string s) (w' := w1) ?_ rfl (Below.refl _ _)
           simp [go_sem, Act.eval, e0, hc_]
         · intro a w1 hfr hdep
           have e0 : a.tmps.getD 27 undef = .agg (cvals c LA lc IA ic MA mc SA sc).toArray := Loose.dep_of hdep 0 27 (by kernel_rfl)
           have e1 : a.tmps.getD 31 undef = .string s := Loose.dep_of hdep 4 31 (by kernel_rfl)
           refine Loose.Step.call rfl (f := 68) (args := #[.agg (cvals c LA lc IA ic MA mc SA sc).toArray, .string s]) ?_ ?_
           · simp [go_sem, Act.eval, e0, e1]
           · refine (HBD.out w1).mono ?_
             rintro e w2 ⟨rfl, hb⟩
             exact ⟨_, rfl, rfl, hb⟩
         · intro a w1 hfr hdep
           have e0 : a.tmps.getD 32 undef = .tuple #[.int .i64 z, .int .i64 lo, .int .i64 hi] := Loose.dep_of hdep 5 32 (by kernel_rfl)
           refine Loose.Step.value rfl (v := .tuple #[.int .i64 z, .int .i64 lo, .int .i64 hi]) (w' := w1) ?_ rfl (Below.refl _ _)
           simp [go_sem, Act.eval, e0]
         · intro a w1 hfr hdep
           have e0 : a.tmps.getD 26 undef = .tuple #[.int .i64 z, .int .i64 lo, .int .i64 hi] := Loose.dep_of hdep 6 26 (by kernel_rfl)
           refine Loose.Step.value rfl (v := .int .i64 z) (w' := w1) ?_ rfl (Below.refl _ _)
           simp [go_sem, Act.eval, e0]
         · intro a w1 hfr hdep
           have e0 : a.tmps.getD 26 undef = .tuple #[.int .i64 z, .int .i64 lo, .int .i64 hi] := Loose.dep_of hdep 6 26 (by kernel_rfl)
           refine Loose.Step.value rfl (v := .int .i64 lo) (w' := w1) ?_ rfl (Below.refl _ _)
           simp [go_sem, Act.eval, e0]
         · intro a w1 hfr hdep
           have e0 : a.tmps.getD 26 undef = .tuple #[.int .i64 z, .int .i64 lo, .int .i64 hi] := Loose.dep_of hdep 6 26 (by kernel_rfl)
           refine Loose.Step.value rfl (v := .int .i64 hi) (w' := w1) ?_ rfl (Below.refl _ _)
           simp [go_sem, Act.eval, e0]
         · intro a w1 hfr hdep
           have e0 : a.tmps.getD 33 undef = .int .i64 z := Loose.dep_of hdep 7 33 (by kernel_rfl)
           refine Loose.Step.value rfl (v := .int .i64 z) (w' := w1) ?_ rfl (Below.refl _ _)
           simp [go_sem, Act.eval, e0]
         · intro a w1 hfr hdep
           have e0 : a.tmps.getD 34 undef = .int .i64 lo := Loose.dep_of hdep 8 34 (by kernel_rfl)
           refine Loose.Step.value rfl (v := .int .i64 lo) (w' := w1) ?_ rfl (Below.refl _ _)
           simp [go_sem, Act.eval, e0]
         · intro a w1 hfr hdep
           have e0 : a.tmps.getD 35 undef = .int .i64 hi := Loose.dep_of hdep 9 35 (by kernel_rfl)
           refine Loose.Step.value rfl (v := .int .i64 hi) (w' := w1) ?_ rfl (Below.refl _ _)
           simp [go_sem, Act.eval, e0]
       · intro v0 v1 v2 v3 v4 v5 v6 v7 v8 v9 v10 v11 v12 w5 hb5 hC
         have h1 : v10 = .int .i64 z := hC.1.1.2
         have h2 : v11 = .int .i64 lo := hC.1.2
         have h3 : v12 = .int .i64 hi := hC.2
         subst h1 h2 h3
         have B5 := Lib.hid (BW.out.trans (hb5.mono BW.out.size))
         have C5 := Lib.hid (CW.out.trans (hb5.mono CW.out.size))
         clear hC hb5
         simp only [SpecOwn.put_lit, List.set_cons_succ, List.set_cons_zero]
         have hwr := HWR.out
         have hadd := fun v => bx_add (P := Tryz.prog) (a := acc) (b := leb z.toNat) (by have h1_ := HAL.out; have h2_ := HPL.out; omega) v
         go_wp2_with fail
         refine (put_int z HZ0.out HZ1.out w5).mono ?_
         rintro e w6 ⟨rfl, hb6⟩
         have B6 := Lib.hid (B5.out.trans (hb6.mono B5.out.size))
         have C6 := Lib.hid (C5.out.trans (hb6.mono C5.out.size))
         clear hb6
         clear hwr
         go_wp2
         go_roundw
         case rel => exact ⟨k + 1, by omega, by go_num, (by rw [HNX.out]), B6.out, C6.out⟩
         case measure => simp [RowKit.intOf]; omega
  · have hka : ¬ (k : Int) < (l.length : Int) := by omega
    have hE : kindC.put c.kind ++ (l.take k).flatMap (putF c) = putC c := by
     rw [List.take_of_length_le (by omega), ← HLV.out]; rfl
    rw [hE]
    clear hE
    go_wp2
    go_ret
    exact ⟨rfl, HBB.out ▸ BW.out⟩
end Ak
end Go.Proofs.YtakdhkhcndeiiaaGreatDoor
