/-
 The contract of a reader's Big. Condition: as WireReads. And what follows of it, part by part, each with its conditions.
-/
import Derived.Test.YtakdhkhcndeiiaaGreatDoorWireAll
import Derived.Test.YtakdhkhcndeiiaaGreatDoorSpecSameG
import Derived.Test.YtakdhkhcndeiiaaGreatDoorPackAll
namespace Go.Proofs.YtakdhkhcndeiiaaGreatDoor
open Go.ChangeShapes Go.WideShapes Go.ChangeAt Go.RowKit Go.Lib
open LebMath WirePure
namespace Wire

theorem rbig_any (g : Nat) (c : Int) (l : List UInt8) (hl : l.length ≤ maxLen) (w : World) (h : Rd w g c l) :
 Calls Tryz.prog 148 #[.pointer (some ⟨g, 0, none⟩)] w fun e w' => e = .returned (.int .u64 (numV 18446744073709551615 c l)) ∧ Rd w' g (numE 18446744073709551615 c l) (numL 18446744073709551615 c l) ∧ Aside g w w' := by
 have H := Lib.hid h
 have HL := Lib.hid hl
 clear h hl
 go_enter Tryz.func148, Tryz.ntmps148
 go_wp2_with fail
 refine (number_any g 18446744073709551615 (by decide) c l HL.out w H.out).mono ?_
 rintro e w3 ⟨rfl, h3, k3⟩
 have H3 := Lib.hid h3
 have K3 := Lib.hid k3
 clear h3 k3
 go_wp2
 go_ret
 exact ⟨rfl, H3.out, K3.out⟩

end Wire
end Go.Proofs.YtakdhkhcndeiiaaGreatDoor

namespace Go.Proofs.YtakdhkhcndeiiaaGreatDoor
open Go.ChangeShapes Go.WideShapes Go.ChangeAt Go.RowKit Go.Lib
open Sd Lists Book
namespace SpecOwn

theorem neq_label (x y : Lbl) (v : World) : (binOp BinOp.neq 169 (.agg #[.string x.key, .string x.val]) (.agg #[.string y.key, .string y.val])).run Tryz.prog v = .ok (.bool (!sameL x y)) v := by
 have h := eql_label x y v
 simp only [binOp, Sem.run_bind] at h ⊢
 cases hq : (Op.equal 169 (.agg #[.string x.key, .string x.val]) (.agg #[.string y.key, .string y.val])).run Tryz.prog v with
 | ok b w' =>
  rw [hq] at h
  simp at h ⊢
  obtain ⟨rfl, rfl⟩ := h
  simp
 | _ => rw [hq] at h; simp at h

set_option maxRecDepth 100000 in
theorem equalLabels_any (A : Option Addr) (ac : Nat) (a : List Lbl) (B : Option Addr) (bc : Nat) (b : List Lbl) (hl : a.length ≤ 9223372036854775807) (w : World) (hA : Lbls w A a) (hB : Lbls w B b) :
 Calls Tryz.prog 184 #[.slice A a.length ac, .slice B b.length bc] w fun e w' => e = .returned (.bool (sameLs a b)) ∧ Below w.heap.size w w' := by
 have HA := Lib.hid hA
 have HB := Lib.hid hB
 have hl' : (a.length : Int) ≤ 9223372036854775807 := by omega
 have hgl : Tryz.prog.eqGuardType Tryz.prog.depth 169 = false := by kernel_rfl
 clear hA hB
 by_cases hlen : a.length = b.length
 · have HLEN := Lib.hid hlen
   rw [← hlen]
   clear hlen
   go_enter Tryz.func184, Tryz.ntmps184
   go_wp2_with fail
   go_loopw [13] (fun i wr => ∃ k : Nat, k ≤ a.length ∧ i = .int .i64 k ∧ Hid (Below w.heap.size w wr) ∧ Hid (Far a b k true)) (fun i _ => a.length - (RowKit.intOf i).toNat)
   case atStart => exact ⟨0, Nat.zero_le _, rfl, Below.refl _ _, ⟨fun _ => ⟨HLEN.out, by simp⟩, fun h => by cases h⟩⟩
   case round =>
    obtain ⟨k, hk, rfl, HW, HF⟩ := hrel
    by_cases hlt : k < a.length
    · have hlb : k < b.length := by have := HLEN.out; omega
      obtain ⟨p, rfl, hp, hc⟩ := (HA.out.below HW.out).at hlt
      obtain ⟨q, rfl, hq, hd⟩ := (HB.out.below HW.out).at hlb
      have HN := fun (t : Bool) (ht : t = true ↔ a[k] = b[k]) => HF.out.next hlt hlb ht
      obtain ⟨x, hx⟩ : ∃ x, a[k] = x := ⟨_, rfl⟩
      obtain ⟨y, hy⟩ : ∃ y, b[k] = y := ⟨_, rfl⟩
      rw [hx] at hc HN
      rw [hy] at hd HN
      obtain ⟨c0, c1⟩ := hc
      obtain ⟨d0, d1⟩ := hd
      have hka : (k : Int) < (a.length : Int) := by omega
      have hnq := fun v => neq_label x y v
      clear hx hy hp hq
      cases he : sameL x y with
      | true =>
       rw [he] at hnq
       have HNX := Lib.hid (HN true (by rw [← sameL_iff x y, he]))
       clear HN he
       go_wp2_with fail
       go_quiet (fail)
       go_wp2
       go_roundw
       case rel => exact ⟨k + 1, by omega, by go_num, HW.out.trans ((Kit.below_drewN _ _ _).mono HW.out.size), HNX.out⟩
       case measure => simp [RowKit.intOf]; omega
      | false =>
       rw [he] at hnq
       have HNX := Lib.hid (HN false (by rw [← sameL_iff x y, he]))
       have HD := Lib.hid (show false = sameLs a b from same_bool ((show false = true ↔ a = b from ⟨fun h => (by cases h), fun h => absurd h (HNX.out.2 rfl)⟩).trans sameLs_iff.symm))
       clear HN he
       go_wp2_with fail
       go_quiet (fail)
       go_wp2
       go_ret
       exact ⟨ret_b HD.out, HW.out.trans ((Kit.below_drewN _ _ _).mono HW.out.size)⟩
    · have HD := Lib.hid (show true = sameLs a b from same_bool ((HF.out.done (fun _ => by omega)).trans sameLs_iff.symm))
      go_wp2
      go_ret
      exact ⟨ret_b HD.out, HW.out⟩
 · have hne : ((a.length : Int) == (b.length : Int)) = false := by simp; omega
   have HD := Lib.hid (show false = sameLs a b from same_bool ((show false = true ↔ a = b from ⟨fun h => (by cases h), fun h => absurd (by rw [h]) hlen⟩).trans sameLs_iff.symm))
   clear hlen
   go_enter Tryz.func184, Tryz.ntmps184
   go_wp2
   go_ret
   exact ⟨ret_b HD.out, Below.refl _ _⟩

set_option maxRecDepth 100000 in
set_option maxHeartbeats 2000000 in
theorem same_any (S : Spc) (LA : Option Addr) (lc : Nat) (IA : Option Addr) (ic : Nat) (MA : Option Addr) (mc : Nat) (T : Spc) (LB : Option Addr) (ld : Nat) (IB : Option Addr) (id : Nat) (MB : Option Addr) (md : Nat) (w : World) (hS : S.In w LA lc IA ic MA mc) (hT : T.In w LB ld IB id MB md) :
 Calls Tryz.prog 129 #[.agg #[.string S.name, .slice LA S.labels.length lc, .slice IA S.init.length ic, .slice MA S.main.length mc, .int .i64 S.restart, .int .i64 S.grace, .int .i64 S.prio], .agg #[.string T.name, .slice LB T.labels.length ld, .slice IB T.init.length id, .slice MB T.main.length md, .int .i64 T.restart, .int .i64 T.grace, .int .i64 T.prio]] w
  fun e w' => e = .returned (.bool (sameS S T)) ∧ Below w.heap.size w w' := by
 have HS := Lib.hid hS
 have HT := Lib.hid hT
 have hb0 : ∀ o o', Below w.heap.size w ((w.alloc o).alloc o') := fun o o' => ((Below.refl _ _).alloc (Nat.le_refl _) _).alloc (by simp) _
 have HB0 := Lib.hid hb0
 obtain ⟨b0, e0⟩ : ∃ b0 : Bool, (S.name.toList == T.name.toList) = b0 := ⟨_, rfl⟩
 obtain ⟨b1, e1⟩ : ∃ b1 : Bool, sameLs S.labels T.labels = b1 := ⟨_, rfl⟩
 obtain ⟨b2, e2⟩ : ∃ b2 : Bool, sameCs S.init T.init = b2 := ⟨_, rfl⟩
 obtain ⟨b3, e3⟩ : ∃ b3 : Bool, sameCs S.main T.main = b3 := ⟨_, rfl⟩
 obtain ⟨b4, e4⟩ : ∃ b4 : Bool, (S.restart == T.restart) = b4 := ⟨_, rfl⟩
 obtain ⟨b5, e5⟩ : ∃ b5 : Bool, (S.grace == T.grace) = b5 := ⟨_, rfl⟩
 obtain ⟨b6, e6⟩ : ∃ b6 : Bool, (S.prio == T.prio) = b6 := ⟨_, rfl⟩
 have HR := Lib.hid (show (b0 && b1 && b2 && b3 && b4 && b5 && b6) = sameS S T by rw [← e0, ← e1, ← e2, ← e3, ← e4, ← e5, ← e6]; rfl)
 have E1 := Lib.hid e1
 have E2 := Lib.hid e2
 have E3 := Lib.hid e3
 clear hS hT hb0 e1 e2 e3
 go_enter Tryz.func129, Tryz.ntmps129
 cases b0 with
 | false =>
  have HD := Lib.hid (show false = sameS S T from by have := HR.out; simpa using this)
  go_wp2
  go_ret
  exact ⟨ret_b HD.out, HB0.out _ _⟩
 | true =>
  go_wp2_with fail
  refine (equalLabels_any LA lc S.labels LB ld T.labels HS.out.nl _ (HS.out.below (HB0.out _ _)).labels (HT.out.below (HB0.out _ _)).labels).mono ?_
  rintro e w5 ⟨rfl, hb5⟩
  have HB5 := Lib.hid ((HB0.out _ _).trans (hb5.mono (by simp; omega)))
  obtain ⟨hcell, hfroz⟩ := Kit.bcell hb5
  have hz5 : w.heap.size + 1 < w5.heap.size := by have := hb5.size; simp at this; omega
  have hy5 : w.heap.size < w5.heap.size := by omega
  rw [E1.out]
  clear hb5
  cases b1 with
  | false =>
   have HD := Lib.hid (show false = sameS S T from by have := HR.out; simpa using this)
   go_wp2
   go_ret
   exact ⟨ret_b HD.out, HB5.out⟩
  | true =>
   go_wp2_with fail
   refine (equalFunc_any IA ic S.init IB id T.init HS.out.ni _ (HS.out.below (HB5.out)).init (HT.out.below (HB5.out)).init).mono ?_
   rintro e w6 ⟨rfl, hb6⟩
   have HB6 := Lib.hid (HB5.out.trans (hb6.mono HB5.out.size))
   obtain ⟨hcell6, hfroz6⟩ := Kit.bcell hb6
   have hz6 : w.heap.size + 1 < w6.heap.size := Nat.lt_of_lt_of_le hz5 hb6.size
   have hy6 : w.heap.size < w6.heap.size := by omega
   rw [E2.out]
   clear hb6
   cases b2 with
   | false =>
    have HD := Lib.hid (show false = sameS S T from by have := HR.out; simpa using this)
    go_wp2
    go_ret
    exact ⟨ret_b HD.out, HB6.out⟩
   | true =>
    go_wp2_with fail
    refine (equalFunc_any MA mc S.main MB md T.main HS.out.nm _ (HS.out.below (HB6.out)).main (HT.out.below (HB6.out)).main).mono ?_
    rintro e w7 ⟨rfl, hb7⟩
    have HB7 := Lib.hid (HB6.out.trans (hb7.mono HB6.out.size))
    obtain ⟨hcell7, hfroz7⟩ := Kit.bcell hb7
    have hz7 : w.heap.size + 1 < w7.heap.size := Nat.lt_of_lt_of_le hz6 hb7.size
    have hy7 : w.heap.size < w7.heap.size := by omega
    rw [E3.out]
    clear hb7
    cases b3 with
    | false =>
     have HD := Lib.hid (show false = sameS S T from by have := HR.out; simpa using this)
     go_wp2
     go_ret
     exact ⟨ret_b HD.out, HB7.out⟩
    | true =>
     cases b4 with
     | false =>
      have HD := Lib.hid (show false = sameS S T from by have := HR.out; simpa using this)
      go_wp2
      go_ret
      exact ⟨ret_b HD.out, HB7.out⟩
     | true =>
      cases b5 with
      | false =>
       have HD := Lib.hid (show false = sameS S T from by have := HR.out; simpa using this)
       go_wp2
       go_ret
       exact ⟨ret_b HD.out, HB7.out⟩
      | true =>
       have HD := Lib.hid (show b6 = sameS S T from by have := HR.out; simpa using this)
       go_wp2
       go_ret
       exact ⟨ret_b HD.out, HB7.out⟩
end SpecOwn
end Go.Proofs.YtakdhkhcndeiiaaGreatDoor

set_option linter.unusedVariables false
set_option linter.unusedSimpArgs false
namespace Go.Proofs.YtakdhkhcndeiiaaGreatDoor.Ak
open WirePure LebMath Sd TextPure Pk SpecOwn SpecRef Book

structure Cal where
 kind : Int
 uid : Int
 rev : Nat
 spec : Spc
 grace : Int
 ctr : Int
 id : Int
 most : Int
 data : ByteArray
 sel : List Lbl
def Z0 : Spc := ⟨⟨#[]⟩, [], [], [], 0, 0, 0⟩
def zeroC (k : Int) : Cal := ⟨k, 0, 0, Z0, 0, 0, 0, 0, ⟨#[]⟩, []⟩
def fieldsV (k : Int) : List Int :=
 if k = 1 then [2] else if k = 2 then [0, 1, 2] else if k = 3 then [0, 3] else if k = 4 then [0, 4] else if k = 5 then [5, 6] else if k = 6 then [5, 7] else
 if k = 7 then [5] else if k = 12 then [5] else if k = 8 then [0] else if k = 10 then [0] else if k = 9 then [8] else if k = 11 then [1, 8] else []
def rangeV (n least most : Int) (s : ByteArray) : Say := if n < least ∨ most < n then (1, s) else fine
def a_uid : ByteArray := ⟨#[117, 105, 100]⟩
def a_spec : ByteArray := ⟨#[115, 112, 101, 99]⟩
def a_grace : ByteArray := ⟨#[103, 114, 97, 99, 101]⟩
def a_ctr : ByteArray := ⟨#[99, 116, 114]⟩
def a_id : ByteArray := ⟨#[105, 100]⟩
def a_data : ByteArray := ⟨#[100, 97, 116, 97]⟩
def a_most : ByteArray := ⟨#[109, 111, 115, 116]⟩
def a_sel : ByteArray := ⟨#[115, 101, 108]⟩
def a_kind : ByteArray := ⟨#[107, 105, 110, 100]⟩
def a_call : ByteArray := ⟨#[99, 97, 108, 108]⟩
def checkF (c : Cal) (f : Int) : Say :=
 if f = 0 then rangeV c.uid 1 1073741824 a_uid else if f = 2 then inV a_spec (checkV c.spec) else if f = 3 then rangeV c.grace 0 1000 a_grace else
 if f = 4 then rangeV c.ctr 0 3 a_ctr else if f = 5 then rangeV c.id 1 1073741824 a_id else if f = 6 then (if 32 < c.data.size then (2, a_data) else fine) else
 if f = 7 then rangeV c.most 1 32 a_most else if f = 8 then labelsV a_sel c.sel else fine
def zeroF (c : Cal) (f : Int) : Bool :=
 if f = 0 then c.uid == 0 else if f = 1 then c.rev == 0 else if f = 2 then sameS c.spec Z0 else if f = 3 then c.grace == 0 else if f = 4 then c.ctr == 0 else
 if f = 5 then c.id == 0 else if f = 6 then decide (c.data = ⟨#[]⟩) else if f = 7 then c.most == 0 else if f = 8 then decide (c.sel.length = 0) else true
def fieldsFrom (c : Cal) : List Int → Say
 | [] => fine
 | f :: l => if (checkF c f).1 ≠ 0 then checkF c f else fieldsFrom c l
def othersFrom (c : Cal) : Nat → Nat → Bool
 | _, 0 => true
 | k, n + 1 => if (!(fieldsV c.kind).contains (k : Int) && !zeroF c k) = true then false else othersFrom c (k + 1) n
def checkC (c : Cal) : Say :=
 if c.kind < 1 ∨ 12 < c.kind then (80, a_kind)
 else if (fieldsFrom c (fieldsV c.kind)).1 ≠ 0 then fieldsFrom c (fieldsV c.kind)
 else if othersFrom c 0 9 = false then (4, a_call) else fine

theorem fieldsFrom_ok {c : Cal} : ∀ {l : List Int}, (fieldsFrom c l).1 = 0 ↔ ∀ f ∈ l, (checkF c f).1 = 0
 | [] => by simp [fieldsFrom, fine]
 | f :: l => by
  rw [fieldsFrom]
  split
  · rename_i h
    simp only [List.mem_cons]
    exact ⟨fun h0 => absurd h0 h, fun h0 => absurd (h0 f (.inl rfl)) h⟩
  · rename_i h
    rw [fieldsFrom_ok (l := l)]
    simp only [List.mem_cons]
    constructor
    · rintro h1 g (rfl | hg)
      · simpa using h
      · exact h1 g hg
    · exact fun h1 g hg => h1 g (.inr hg)
theorem othersFrom_ok {c : Cal} : ∀ {n k : Nat}, othersFrom c k n = true ↔ ∀ i : Nat, k ≤ i → i < k + n → (fieldsV c.kind).contains (i : Int) = true ∨ zeroF c i = true
 | 0, k => by simp [othersFrom]; intro i h1 h2; omega
 | n + 1, k => by
  rw [othersFrom]
  split
  · rename_i h
    simp only [Bool.and_eq_true, Bool.not_eq_true'] at h
    constructor
    · intro h0; simp at h0
    · intro h0
      rcases h0 k (Nat.le_refl _) (by omega) with h1 | h1
      · rw [h1] at h; simp at h
      · rw [h1] at h; simp at h
  · rename_i h
    rw [othersFrom_ok (n := n) (k := k + 1)]
    constructor
    · intro h1 i hi1 hi2
      rcases Nat.lt_or_ge k i with h2 | h2
      · exact h1 i h2 (by omega)
      · obtain rfl : i = k := by omega
        cases ha : (fieldsV c.kind).contains (i : Int)
        · cases hb : zeroF c i
          · exact absurd (by rw [ha, hb]; rfl) h
          · exact .inr rfl
        · exact .inl rfl
    · exact fun h1 i hi1 hi2 => h1 i (by omega) (by omega)
theorem check_fine {c : Cal} : (checkC c).1 = 0 ↔ (1 ≤ c.kind ∧ c.kind ≤ 12) ∧ (∀ f ∈ fieldsV c.kind, (checkF c f).1 = 0) ∧ ∀ i : Nat, i < 9 → (fieldsV c.kind).contains (i : Int) = true ∨ zeroF c i = true := by
 unfold checkC
 split
 · rename_i h
   constructor
   · intro h0; simp at h0
   · rintro ⟨h1, _⟩; omega
 · rename_i h
   split
   · rename_i h1
     constructor
     · exact fun h0 => absurd h0 h1
     · rintro ⟨_, h2, _⟩
       exact absurd (fieldsFrom_ok.2 h2) h1
   · rename_i h1
     have h1' : (fieldsFrom c (fieldsV c.kind)).1 = 0 := by simpa using h1
     split
     · rename_i h2
       constructor
       · intro h0; simp at h0
       · rintro ⟨_, _, h3⟩
         rw [othersFrom_ok.2 (fun i _ hi => h3 i (by omega))] at h2
         simp at h2
     · rename_i h2
       have h2' : othersFrom c 0 9 = true := by simpa using h2
       exact ⟨fun _ => ⟨by omega, fieldsFrom_ok.1 h1', fun i hi => othersFrom_ok.1 h2' i (Nat.zero_le _) (by omega)⟩, fun _ => rfl⟩
theorem range_fine {n a b : Int} {s : ByteArray} (h : (rangeV n a b s).1 = 0) : a ≤ n ∧ n ≤ b := by
 unfold rangeV at h
 split at h
 · simp at h
 · omega
theorem kinds_of {k : Int} (h : 1 ≤ k ∧ k ≤ 12) : k = 1 ∨ k = 2 ∨ k = 3 ∨ k = 4 ∨ k = 5 ∨ k = 6 ∨ k = 7 ∨ k = 8 ∨ k = 9 ∨ k = 10 ∨ k = 11 ∨ k = 12 := by omega
theorem fields_of (k : Int) : k = 1 ∧ fieldsV k = [2] ∨ k = 2 ∧ fieldsV k = [0, 1, 2] ∨ k = 3 ∧ fieldsV k = [0, 3] ∨ k = 4 ∧ fieldsV k = [0, 4] ∨ k = 5 ∧ fieldsV k = [5, 6] ∨ k = 6 ∧ fieldsV k = [5, 7] ∨ k = 7 ∧ fieldsV k = [5] ∨ k = 12 ∧ fieldsV k = [5] ∨ k = 8 ∧ fieldsV k = [0] ∨ k = 10 ∧ fieldsV k = [0] ∨ k = 9 ∧ fieldsV k = [8] ∨ k = 11 ∧ fieldsV k = [1, 8] ∨ (k < 1 ∨ 12 < k) ∧ fieldsV k = [] := by
 by_cases h : 1 ≤ k ∧ k ≤ 12
 · rcases kinds_of h with rfl | rfl | rfl | rfl | rfl | rfl | rfl | rfl | rfl | rfl | rfl | rfl <;> simp [fieldsV]
 · have : fieldsV k = [] := by
    unfold fieldsV
    repeat rw [if_neg (by omega)]
   rw [this]
   simp
   omega
theorem fields_lt (k : Int) : ∀ f ∈ fieldsV k, 0 ≤ f ∧ f < 9 := by
 rcases fields_of k with ⟨_, h⟩ | ⟨_, h⟩ | ⟨_, h⟩ | ⟨_, h⟩ | ⟨_, h⟩ | ⟨_, h⟩ | ⟨_, h⟩ | ⟨_, h⟩ | ⟨_, h⟩ | ⟨_, h⟩ | ⟨_, h⟩ | ⟨_, h⟩ | ⟨_, h⟩ <;> rw [h] <;> simp
theorem fields_nodup (k : Int) : (fieldsV k).Nodup := by
 rcases fields_of k with ⟨_, h⟩ | ⟨_, h⟩ | ⟨_, h⟩ | ⟨_, h⟩ | ⟨_, h⟩ | ⟨_, h⟩ | ⟨_, h⟩ | ⟨_, h⟩ | ⟨_, h⟩ | ⟨_, h⟩ | ⟨_, h⟩ | ⟨_, h⟩ | ⟨_, h⟩ <;> rw [h] <;> decide
theorem fields_len (k : Int) : (fieldsV k).length ≤ 3 := by
 rcases fields_of k with ⟨_, h⟩ | ⟨_, h⟩ | ⟨_, h⟩ | ⟨_, h⟩ | ⟨_, h⟩ | ⟨_, h⟩ | ⟨_, h⟩ | ⟨_, h⟩ | ⟨_, h⟩ | ⟨_, h⟩ | ⟨_, h⟩ | ⟨_, h⟩ | ⟨_, h⟩ <;> rw [h] <;> simp

def uidC : Codec Int := intC 1073741824 (by decide)
def revC : Codec Nat := numC 18446744073709551615 (by decide)
def graceC : Codec Int := intC 1000 (by decide)
def ctrNC : Codec Int := intC 3 (by decide)
def mostC : Codec Int := intC 32 (by decide)
def dataC : Codec ByteArray := textC 32 (by decide)
def putF (c : Cal) (f : Int) : List UInt8 :=
 if f = 0 then uidC.put c.uid else if f = 1 then revC.put c.rev else if f = 2 then specC.put c.spec else if f = 3 then graceC.put c.grace else
 if f = 4 then ctrNC.put c.ctr else if f = 5 then uidC.put c.id else if f = 6 then dataC.put c.data else if f = 7 then mostC.put c.most else if f = 8 then labelsC.put c.sel else []
def rdF (f : Int) (c : Cal) (e : Int) (l : List UInt8) : Cal × Int × List UInt8 :=
 if f = 0 then ({ c with uid := (uidC.rd e l).1 }, (uidC.rd e l).2) else if f = 1 then ({ c with rev := (revC.rd e l).1 }, (revC.rd e l).2) else
 if f = 2 then ({ c with spec := (specC.rd e l).1 }, (specC.rd e l).2) else if f = 3 then ({ c with grace := (graceC.rd e l).1 }, (graceC.rd e l).2) else
 if f = 4 then ({ c with ctr := (ctrNC.rd e l).1 }, (ctrNC.rd e l).2) else if f = 5 then ({ c with id := (uidC.rd e l).1 }, (uidC.rd e l).2) else
 if f = 6 then ({ c with data := (dataC.rd e l).1 }, (dataC.rd e l).2) else if f = 7 then ({ c with most := (mostC.rd e l).1 }, (mostC.rd e l).2) else
 if f = 8 then ({ c with sel := (labelsC.rd e l).1 }, (labelsC.rd e l).2) else (c, e, l)
def setF (f : Int) (c d : Cal) : Cal :=
 if f = 0 then { c with uid := d.uid } else if f = 1 then { c with rev := d.rev } else if f = 2 then { c with spec := d.spec } else if f = 3 then { c with grace := d.grace } else
 if f = 4 then { c with ctr := d.ctr } else if f = 5 then { c with id := d.id } else if f = 6 then { c with data := d.data } else if f = 7 then { c with most := d.most } else
 if f = 8 then { c with sel := d.sel } else c
def okF (c : Cal) (f : Int) : Prop :=
 if f = 0 then uidC.ok c.uid else if f = 1 then revC.ok c.rev else if f = 2 then specC.ok c.spec else if f = 3 then graceC.ok c.grace else
 if f = 4 then ctrNC.ok c.ctr else if f = 5 then uidC.ok c.id else if f = 6 then dataC.ok c.data else if f = 7 then mostC.ok c.most else if f = 8 then labelsC.ok c.sel else True
theorem nine (f : Int) : f = 0 ∨ f = 1 ∨ f = 2 ∨ f = 3 ∨ f = 4 ∨ f = 5 ∨ f = 6 ∨ f = 7 ∨ f = 8 ∨ (f ≠ 0 ∧ f ≠ 1 ∧ f ≠ 2 ∧ f ≠ 3 ∧ f ≠ 4 ∧ f ≠ 5 ∧ f ≠ 6 ∧ f ≠ 7 ∧ f ≠ 8) := by omega
theorem rdF_keeps (f : Int) (c : Cal) (e : Int) (l : List UInt8) (h : e ≠ 0) : (rdF f c e l).2 = (e, l) := by
 rcases nine f with rfl | rfl | rfl | rfl | rfl | rfl | rfl | rfl | rfl | ⟨h0, h1, h2, h3, h4, h5, h6, h7, h8⟩
 · exact uidC.keeps e l h
 · exact revC.keeps e l h
 · exact specC.keeps e l h
 · exact graceC.keeps e l h
 · exact ctrNC.keeps e l h
 · exact uidC.keeps e l h
 · exact dataC.keeps e l h
 · exact mostC.keeps e l h
 · exact labelsC.keeps e l h
 · simp [rdF, h0, h1, h2, h3, h4, h5, h6, h7, h8]
theorem rdF_len (f : Int) (c : Cal) (e : Int) (l : List UInt8) : (rdF f c e l).2.2.length ≤ l.length := by
 rcases nine f with rfl | rfl | rfl | rfl | rfl | rfl | rfl | rfl | rfl | ⟨h0, h1, h2, h3, h4, h5, h6, h7, h8⟩
 · exact uidC.len e l
 · exact revC.len e l
 · exact specC.len e l
 · exact graceC.len e l
 · exact ctrNC.len e l
 · exact uidC.len e l
 · exact dataC.len e l
 · exact mostC.len e l
 · exact labelsC.len e l
 · simp [rdF, h0, h1, h2, h3, h4, h5, h6, h7, h8]
theorem rdF_kind (f : Int) (c : Cal) (e : Int) (l : List UInt8) : (rdF f c e l).1.kind = c.kind := by
 rcases nine f with rfl | rfl | rfl | rfl | rfl | rfl | rfl | rfl | rfl | ⟨h0, h1, h2, h3, h4, h5, h6, h7, h8⟩
 all_goals first | rfl | simp [rdF, h0, h1, h2, h3, h4, h5, h6, h7, h8]
theorem rdF_canon (f : Int) (c : Cal) (l : List UInt8) (h : (rdF f c 0 l).2.1 = 0) : l = putF (rdF f c 0 l).1 f ++ (rdF f c 0 l).2.2 := by
 rcases nine f with rfl | rfl | rfl | rfl | rfl | rfl | rfl | rfl | rfl | ⟨h0, h1, h2, h3, h4, h5, h6, h7, h8⟩
 · exact (uidC.canon l h).2
 · exact (revC.canon l h).2
 · exact (specC.canon l h).2
 · exact (graceC.canon l h).2
 · exact (ctrNC.canon l h).2
 · exact (uidC.canon l h).2
 · exact (dataC.canon l h).2
 · exact (mostC.canon l h).2
 · exact (labelsC.canon l h).2
 · simp [rdF, putF, h0, h1, h2, h3, h4, h5, h6, h7, h8]
theorem rdF_other (f g : Int) (hfg : g ≠ f) (c : Cal) (e : Int) (l : List UInt8) : putF (rdF f c e l).1 g = putF c g := by
 rcases nine f with rfl | rfl | rfl | rfl | rfl | rfl | rfl | rfl | rfl | ⟨h0, h1, h2, h3, h4, h5, h6, h7, h8⟩
 all_goals first | (simp [rdF, h0, h1, h2, h3, h4, h5, h6, h7, h8]; done) | skip
 all_goals
  rcases nine g with rfl | rfl | rfl | rfl | rfl | rfl | rfl | rfl | rfl | ⟨g0, g1, g2, g3, g4, g5, g6, g7, g8⟩
  all_goals first | exact absurd rfl hfg | rfl | (simp only [putF, if_neg g0, if_neg g1, if_neg g2, if_neg g3, if_neg g4, if_neg g5, if_neg g6, if_neg g7, if_neg g8]; done)
theorem rdF_back (f : Int) (c d : Cal) (r : List UInt8) (h : okF d f) : rdF f c 0 (putF d f ++ r) = (setF f c d, 0, r) := by
 rcases nine f with rfl | rfl | rfl | rfl | rfl | rfl | rfl | rfl | rfl | ⟨h0, h1, h2, h3, h4, h5, h6, h7, h8⟩
 · have := uidC.back d.uid r h
   show (({ c with uid := (uidC.rd 0 (uidC.put d.uid ++ r)).1 } : Cal), (uidC.rd 0 (uidC.put d.uid ++ r)).2) = _
   rw [this]; rfl
 · have := revC.back d.rev r h
   show (({ c with rev := (revC.rd 0 (revC.put d.rev ++ r)).1 } : Cal), (revC.rd 0 (revC.put d.rev ++ r)).2) = _
   rw [this]; rfl
 · have := specC.back d.spec r h
   show (({ c with spec := (specC.rd 0 (specC.put d.spec ++ r)).1 } : Cal), (specC.rd 0 (specC.put d.spec ++ r)).2) = _
   rw [this]; rfl
 · have := graceC.back d.grace r h
   show (({ c with grace := (graceC.rd 0 (graceC.put d.grace ++ r)).1 } : Cal), (graceC.rd 0 (graceC.put d.grace ++ r)).2) = _
   rw [this]; rfl
 · have := ctrNC.back d.ctr r h
   show (({ c with ctr := (ctrNC.rd 0 (ctrNC.put d.ctr ++ r)).1 } : Cal), (ctrNC.rd 0 (ctrNC.put d.ctr ++ r)).2) = _
   rw [this]; rfl
 · have := uidC.back d.id r h
   show (({ c with id := (uidC.rd 0 (uidC.put d.id ++ r)).1 } : Cal), (uidC.rd 0 (uidC.put d.id ++ r)).2) = _
   rw [this]; rfl
 · have := dataC.back d.data r h
   show (({ c with data := (dataC.rd 0 (dataC.put d.data ++ r)).1 } : Cal), (dataC.rd 0 (dataC.put d.data ++ r)).2) = _
   rw [this]; rfl
 · have := mostC.back d.most r h
   show (({ c with most := (mostC.rd 0 (mostC.put d.most ++ r)).1 } : Cal), (mostC.rd 0 (mostC.put d.most ++ r)).2) = _
   rw [this]; rfl
 · have := labelsC.back d.sel r h
   show (({ c with sel := (labelsC.rd 0 (labelsC.put d.sel ++ r)).1 } : Cal), (labelsC.rd 0 (labelsC.put d.sel ++ r)).2) = _
   rw [this]; rfl
 · simp [rdF, putF, setF, h0, h1, h2, h3, h4, h5, h6, h7, h8]

def rdFs : List Int → Cal → Int → List UInt8 → Cal × Int × List UInt8
 | [], c, e, l => (c, e, l)
 | f :: fs, c, e, l => rdFs fs (rdF f c e l).1 (rdF f c e l).2.1 (rdF f c e l).2.2
def setFs : List Int → Cal → Cal → Cal
 | [], c, _ => c
 | f :: fs, c, d => setFs fs (setF f c d) d
theorem rdFs_snoc : ∀ (fs : List Int) (f : Int) (c : Cal) (e : Int) (l : List UInt8), rdFs (fs ++ [f]) c e l = rdF f (rdFs fs c e l).1 (rdFs fs c e l).2.1 (rdFs fs c e l).2.2
 | [], _, _, _, _ => rfl
 | g :: fs, f, c, e, l => by rw [List.cons_append, rdFs, rdFs_snoc fs f, rdFs]
theorem rdFs_keeps : ∀ (fs : List Int) (c : Cal) (e : Int) (l : List UInt8), e ≠ 0 → (rdFs fs c e l).2 = (e, l)
 | [], _, _, _, _ => rfl
 | f :: fs, c, e, l, h => by
  have h1 := rdF_keeps f c e l h
  rw [rdFs, show (rdF f c e l).2.1 = e by rw [h1], show (rdF f c e l).2.2 = l by rw [h1]]
  exact rdFs_keeps fs _ e l h
theorem rdFs_len : ∀ (fs : List Int) (c : Cal) (e : Int) (l : List UInt8), (rdFs fs c e l).2.2.length ≤ l.length
 | [], _, _, _ => Nat.le_refl _
 | f :: fs, c, e, l => by rw [rdFs]; exact Nat.le_trans (rdFs_len fs _ _ _) (rdF_len f c e l)
theorem rdFs_kind : ∀ (fs : List Int) (c : Cal) (e : Int) (l : List UInt8), (rdFs fs c e l).1.kind = c.kind
 | [], _, _, _ => rfl
 | f :: fs, c, e, l => by rw [rdFs, rdFs_kind fs, rdF_kind]
theorem rdFs_other : ∀ (fs : List Int) (g : Int), g ∉ fs → ∀ (c : Cal) (e : Int) (l : List UInt8), putF (rdFs fs c e l).1 g = putF c g
 | [], _, _, _, _, _ => rfl
 | f :: fs, g, hg, c, e, l => by
  rw [rdFs, rdFs_other fs g (fun h => hg (.tail _ h)), rdF_other f g (fun h => hg (h ▸ .head _))]
theorem rdFs_canon : ∀ (fs : List Int), fs.Nodup → ∀ (c : Cal) (l : List UInt8), (rdFs fs c 0 l).2.1 = 0 → l = fs.flatMap (putF (rdFs fs c 0 l).1) ++ (rdFs fs c 0 l).2.2
 | [], _, c, l, _ => rfl
 | f :: fs, hn, c, l, h => by
  rw [List.nodup_cons] at hn
  rw [rdFs] at h ⊢
  by_cases h1 : (rdF f c 0 l).2.1 = 0
  · have e1 := rdF_canon f c l h1
    rw [h1] at h ⊢
    have e2 := rdFs_canon fs hn.2 (rdF f c 0 l).1 (rdF f c 0 l).2.2 h
    rw [List.flatMap_cons, rdFs_other fs f hn.1, List.append_assoc, ← e2]
    exact e1
  · have := rdFs_keeps fs (rdF f c 0 l).1 _ (rdF f c 0 l).2.2 h1
    rw [this] at h
    exact absurd h h1
theorem rdFs_back : ∀ (fs : List Int) (c d : Cal) (r : List UInt8), (∀ f ∈ fs, okF d f) → rdFs fs c 0 (fs.flatMap (putF d) ++ r) = (setFs fs c d, 0, r)
 | [], _, _, _, _ => rfl
 | f :: fs, c, d, r, h => by
  rw [List.flatMap_cons, List.append_assoc, rdFs, rdF_back f c d _ (h f (.head _))]
  exact rdFs_back fs _ d r (fun g hg => h g (.tail _ hg))

def kindC : Codec Int := intC 12 (by decide)
def putC (c : Cal) : List UInt8 := kindC.put c.kind ++ (fieldsV c.kind).flatMap (putF c)
def rdC (l : List UInt8) : Cal × Int × List UInt8 := rdFs (fieldsV (kindC.rd 0 l).1) (zeroC (kindC.rd 0 l).1) (kindC.rd 0 l).2.1 (kindC.rd 0 l).2.2
theorem checkF_ok {c : Cal} {f : Int} (h : (checkF c f).1 = 0) (hr : c.rev < 18446744073709551616) : okF c f := by
 rcases nine f with rfl | rfl | rfl | rfl | rfl | rfl | rfl | rfl | rfl | ⟨h0, h1, h2, h3, h4, h5, h6, h7, h8⟩
 · have := range_fine (show (rangeV c.uid 1 1073741824 a_uid).1 = 0 from h)
   exact int_ok (by omega) (by omega)
 · show c.rev ≤ 18446744073709551615
   omega
 · have h' : (inV a_spec (checkV c.spec)).1 = 0 := h
   refine spec_ok ?_
   unfold inV at h'
   split at h'
   · assumption
   · exact h'
 · have := range_fine (show (rangeV c.grace 0 1000 a_grace).1 = 0 from h)
   exact int_ok (by omega) (by omega)
 · have := range_fine (show (rangeV c.ctr 0 3 a_ctr).1 = 0 from h)
   exact int_ok (by omega) (by omega)
 · have := range_fine (show (rangeV c.id 1 1073741824 a_id).1 = 0 from h)
   exact int_ok (by omega) (by omega)
 · have h' : (if 32 < c.data.size then ((2, a_data) : Say) else fine).1 = 0 := h
   split at h'
   · simp at h'
   · show c.data.size ≤ 32
     omega
 · have := range_fine (show (rangeV c.most 1 32 a_most).1 = 0 from h)
   exact int_ok (by omega) (by omega)
 · have h' : (labelsV a_sel c.sel).1 = 0 := h
   unfold labelsV at h'
   split at h'
   · simp at h'
   · exact ⟨by show c.sel.length ≤ 4; omega, label_each _ _ _ h'⟩
 · simp [okF, h0, h1, h2, h3, h4, h5, h6, h7, h8]
theorem zero_uid {c : Cal} (h : zeroF c 0 = true) : c.uid = 0 := by simpa [zeroF] using h
theorem zero_rev {c : Cal} (h : zeroF c 1 = true) : c.rev = 0 := by simpa [zeroF] using h
theorem zero_spec {c : Cal} (h : zeroF c 2 = true) : c.spec = Z0 := by
 have h' : sameS c.spec Z0 = true := h
 exact (sameS_iff _ _).1 h'
theorem zero_grace {c : Cal} (h : zeroF c 3 = true) : c.grace = 0 := by simpa [zeroF] using h
theorem zero_ctr {c : Cal} (h : zeroF c 4 = true) : c.ctr = 0 := by simpa [zeroF] using h
theorem zero_id {c : Cal} (h : zeroF c 5 = true) : c.id = 0 := by simpa [zeroF] using h
theorem zero_data {c : Cal} (h : zeroF c 6 = true) : c.data = ⟨#[]⟩ := by simpa [zeroF] using h
theorem zero_most {c : Cal} (h : zeroF c 7 = true) : c.most = 0 := by simpa [zeroF] using h
theorem zero_sel {c : Cal} (h : zeroF c 8 = true) : c.sel = [] := by
 have h' : decide (c.sel.length = 0) = true := h
 exact List.length_eq_zero_iff.1 (of_decide_eq_true h')
theorem set_all {c : Cal} (h : (checkC c).1 = 0) : setFs (fieldsV c.kind) (zeroC c.kind) c = c := by
 obtain ⟨hk, _, ho⟩ := check_fine.1 h
 have o0 := ho 0 (by omega)
 have o1 := ho 1 (by omega)
 have o2 := ho 2 (by omega)
 have o3 := ho 3 (by omega)
 have o4 := ho 4 (by omega)
 have o5 := ho 5 (by omega)
 have o6 := ho 6 (by omega)
 have o7 := ho 7 (by omega)
 have o8 := ho 8 (by omega)
 clear ho h
 obtain ⟨k, a0, a1, a2, a3, a4, a5, a7, a6, a8⟩ := c
 have z0 : (fieldsV k).contains 0 = true ∨ a0 = 0 := o0.imp id zero_uid
 have z1 : (fieldsV k).contains 1 = true ∨ a1 = 0 := o1.imp id zero_rev
 have z2 : (fieldsV k).contains 2 = true ∨ a2 = Z0 := o2.imp id zero_spec
 have z3 : (fieldsV k).contains 3 = true ∨ a3 = 0 := o3.imp id zero_grace
 have z4 : (fieldsV k).contains 4 = true ∨ a4 = 0 := o4.imp id zero_ctr
 have z5 : (fieldsV k).contains 5 = true ∨ a5 = 0 := o5.imp id zero_id
 have z6 : (fieldsV k).contains 6 = true ∨ a6 = ⟨#[]⟩ := o6.imp id zero_data
 have z7 : (fieldsV k).contains 7 = true ∨ a7 = 0 := o7.imp id zero_most
 have z8 : (fieldsV k).contains 8 = true ∨ a8 = [] := o8.imp id zero_sel
 clear o0 o1 o2 o3 o4 o5 o6 o7 o8
 have hk' : 1 ≤ k ∧ k ≤ 12 := hk
 rcases kinds_of hk' with rfl | rfl | rfl | rfl | rfl | rfl | rfl | rfl | rfl | rfl | rfl | rfl
 all_goals
  simp [fieldsV] at z0 z1 z2 z3 z4 z5 z6 z7 z8
  simp [fieldsV, setFs, setF, zeroC, *]
theorem call_back {c : Cal} (h : (checkC c).1 = 0) (hr : c.rev < 18446744073709551616) (r : List UInt8) : rdC (putC c ++ r) = (c, 0, r) := by
 obtain ⟨hk, hf, _⟩ := check_fine.1 h
 have h1 : kindC.rd 0 (putC c ++ r) = (c.kind, 0, (fieldsV c.kind).flatMap (putF c) ++ r) := by
  unfold putC
  rw [List.append_assoc]
  exact kindC.back c.kind _ (int_ok (by omega) (by omega))
 unfold rdC
 rw [h1]
 have h2 := rdFs_back (fieldsV c.kind) (zeroC c.kind) c r (fun f hm => checkF_ok (hf f hm) hr)
 rw [set_all h] at h2
 exact h2
theorem zero_kind (k : Int) : (zeroC k).kind = k := rfl
theorem call_canon {l : List UInt8} {c : Cal} {e : Int} {r : List UInt8} (hq : rdC l = (c, e, r)) (h : e = 0) : l = putC c ++ r := by
 subst h
 unfold rdC at hq
 have hk : c.kind = (kindC.rd 0 l).1 := by
  have := rdFs_kind (fieldsV (kindC.rd 0 l).1) (zeroC (kindC.rd 0 l).1) (kindC.rd 0 l).2.1 (kindC.rd 0 l).2.2
  rw [hq] at this
  exact this
 by_cases h1 : (kindC.rd 0 l).2.1 = 0
 · have e1 := (kindC.canon l h1).2
   rw [h1] at hq
   have e2 := rdFs_canon (fieldsV (kindC.rd 0 l).1) (fields_nodup _) (zeroC (kindC.rd 0 l).1) (kindC.rd 0 l).2.2 (by rw [hq])
   rw [hq] at e2
   unfold putC
   rw [hk, List.append_assoc, ← e2]
   exact e1
 · have := rdFs_keeps (fieldsV (kindC.rd 0 l).1) (zeroC (kindC.rd 0 l).1) _ (kindC.rd 0 l).2.2 h1
   rw [hq] at this
   injection this with h2 _
   exact absurd h2.symm h1
def ofC (l : List UInt8) : Say :=
 if (kindC.rd 0 l).2.1 = 0 ∧ (kindC.rd 0 l).1 = 0 then (80, a_kind) else firstV [newV (endE (rdC l).2.1 (rdC l).2.2) t_wire, checkC (rdC l).1]
end Go.Proofs.YtakdhkhcndeiiaaGreatDoor.Ak

set_option linter.unusedVariables false
set_option linter.unusedSimpArgs false
namespace Go.Proofs.YtakdhkhcndeiiaaGreatDoor
open Go.ChangeShapes Go.WideShapes Go.ChangeAt Go.RowKit Go.Lib
open LebMath WirePure Sd Wire SpecOwn SpecRef Book Pk
namespace Ak

theorem box_cell {w : World} {g : Nat} {A : Array Value} {t : TypeId} (h : w.heap[g]? = some (.cells A t (0, 0))) (k : Nat) {v : Value} (hv : A[k]? = some v) : w.cell? ⟨g, k, none⟩ = some v := by
 simp [World.cell?, h, hv]
theorem box_free {w : World} {g : Nat} {A : Array Value} {t : TypeId} (h : w.heap[g]? = some (.cells A t (0, 0))) (k : Nat) : w.frozen? ⟨g, k, none⟩ = false := by
 simp [World.frozen?, h]
theorem box_set {w : World} {g : Nat} {A : Array Value} {t : TypeId} (h : w.heap[g]? = some (.cells A t (0, 0))) (k : Nat) (v : Value) {B : Array Value} (hB : A.setIfInBounds k v = B) : (w.setCell ⟨g, k, none⟩ v).heap[g]? = some (.cells B t (0, 0)) := by
 rw [← hB]; exact heap_setCell_same w g k _ _ v h
theorem aside_only {g : Nat} {a w v : World} (hk : Wire.Aside g a w) (h : Only g w v) : Wire.Aside g a v :=
 ⟨h.os.trans hk.os, h.tape.trans hk.tape, h.output.trans hk.output, Nat.le_trans hk.size h.size, fun i hi => (h.block i hi.2).trans (hk.block i hi)⟩
theorem below_aside {g : Nat} {w wr v : World} (hB : Below w.heap.size w wr) (hk : Wire.Aside g wr v) (hg : w.heap.size ≤ g) : Below w.heap.size w v :=
 { os := hk.os.trans hB.os, tape := hk.tape.trans hB.tape, output := hk.output.trans hB.output, size := Nat.le_trans hB.size hk.size, block := fun i hi => (hk.block i ⟨Nat.lt_of_lt_of_le hi hB.size, by omega⟩).trans (hB.block i hi) }
theorem own_cap {w : World} {base : Nat} {t : TypeId} {size n cap : Nat} {A : Option Addr} {xs : List Value} (h : w.ownsRow base t size (.slice A n cap) n xs) : n ≤ cap := by
 rcases h.2 with ⟨e1, e2⟩ | ⟨gg, cap', cur, e1, _, _, e4, _⟩
 · injection e1 with _ e5 e6; omega
 · injection e1 with _ e5 e6; omega
theorem heap_alloc_other (w : World) (o : Obj) (k : Nat) (h : k < w.heap.size) : (w.alloc o).heap[k]? = w.heap[k]? := ((Below.refl w.heap.size w).alloc (Nat.le_refl _) o).block k h

def nameT : Nat → ByteArray
 | 1 => ⟨#[114, 117, 110]⟩
 | 2 => ⟨#[117, 112, 100, 97, 116, 101]⟩
 | 3 => ⟨#[107, 105, 108, 108]⟩
 | 4 => ⟨#[111, 112, 101, 110]⟩
 | 5 => ⟨#[119, 114, 105, 116, 101]⟩
 | 6 => ⟨#[114, 101, 97, 100]⟩
 | 7 => ⟨#[99, 108, 111, 115, 101]⟩
 | 8 => ⟨#[115, 116, 97, 116, 115]⟩
 | 9 => ⟨#[108, 105, 115, 116]⟩
 | 10 => ⟨#[103, 101, 116]⟩
 | 11 => ⟨#[119, 97, 116, 99, 104]⟩
 | 12 => ⟨#[99, 97, 110, 99, 101, 108]⟩
 | _ => ⟨#[]⟩
def nameV (k : Int) : ByteArray := if k < 0 ∨ 13 ≤ k then ⟨#[]⟩ else nameT k.toNat
structure Laid (w : World) : Prop where
 spec : SLaid w
 names : ∀ k, k < 13 → w.cell? ⟨0, k, none⟩ = some (.string (nameT k))
theorem Laid.below {w w' : World} (h : Laid w) (hb : Below w.heap.size w w') : Laid w' :=
 ⟨h.spec.below hb, fun k hk => by have := h.names k hk; rw [hb.cell (World.block_lt_of_cell? _ _ this)]; exact this⟩
theorem name_nil (k : Int) : nameV k = ⟨#[]⟩ ↔ (k < 1 ∨ 12 < k) := by
 unfold nameV
 split
 · rename_i h
   exact ⟨fun _ => by omega, fun _ => rfl⟩
 · rename_i h
   obtain ⟨n, rfl⟩ := Int.eq_ofNat_of_zero_le (show 0 ≤ k by omega)
   have h13 : n < 13 := by omega
   have : ∀ m : Fin 13, (nameT m.val = ⟨#[]⟩ ↔ m.val = 0) := by decide
   have := this ⟨n, h13⟩
   simp only [Int.toNat_natCast]
   rw [this]
   show n = 0 ↔ _
   omega

structure Cal.In (c : Cal) (w : World) (LA : Option Addr) (lc : Nat) (IA : Option Addr) (ic : Nat) (MA : Option Addr) (mc : Nat) (SA : Option Addr) : Prop where
 spec : c.spec.In w LA lc IA ic MA mc
 sel : Lbls w SA c.sel
 ns : c.sel.length ≤ 9223372036854775807
 rev : c.rev < 18446744073709551616
theorem Cal.In.below {c : Cal} {w w' : World} {LA : Option Addr} {lc : Nat} {IA : Option Addr} {ic : Nat} {MA : Option Addr} {mc : Nat} {SA : Option Addr} (h : c.In w LA lc IA ic MA mc SA) (hb : Below w.heap.size w w') : c.In w' LA lc IA ic MA mc SA :=
 ⟨h.spec.below hb, h.sel.below hb, h.ns, h.rev⟩
structure LightC (c : Cal) : Prop where
 spec : Book.Light c.spec
 sel : c.sel.length ≤ 10 ∧ ∀ x ∈ c.sel, x.key.size ≤ 100 ∧ x.val.size ≤ 100
 data : c.data.size < 300
theorem z0_in (w : World) : Z0.In w none 0 none 0 none 0 :=
 ⟨fun k x hk => by simp [Z0] at hk, fun k x hk => by simp [Z0] at hk, fun k x hk => by simp [Z0] at hk, by simp [Z0], by simp [Z0], by simp [Z0], by unfold I64 Z0; decide, by unfold I64 Z0; decide, by unfold I64 Z0; decide⟩

theorem text_nil {z : ByteArray} (h : z.size = 0) : z.toList = [] := by
 rw [ByteArray.toList_eq]
 exact List.length_eq_zero_iff.1 (by rw [Array.length_toList]; exact h)
theorem text_some {z : ByteArray} (h : z.size ≠ 0) : z.toList.isEmpty = false := by
 rw [ByteArray.toList_eq]
 cases e : z.data.toList with
 | nil =>
  have := congrArg List.length e
  rw [Array.length_toList] at this
  exact absurd this h
 | cons x xs => rfl
theorem empty_of {z : ByteArray} (h : z.size = 0) : z = ⟨#[]⟩ := ByteArray.ext (Array.eq_empty_of_size_eq_zero h)
theorem nums_made (w : World) (l : List Int) (t : TypeId) (cs : Array Value) (hcs : cs = (l.map (Value.int .i64)).toArray) (hw : ∀ z ∈ l, (Lit.int IntKind.i64 z).wf = true) : Lists.Nums .i64 (w.alloc (.cells cs t)) (some ⟨w.heap.size, 0, none⟩) l := by
 subst hcs
 intro k z hz
 refine ⟨hw z (List.mem_of_getElem? hz), _, rfl, ?_, ?_⟩
 · show w.heap.size < (w.alloc _).heap.size
   simp
 · have hk : k < l.length := (List.getElem?_eq_some_iff.1 hz).1
   have e0 : (⟨w.heap.size, 0, none⟩ : Addr).add k = ⟨w.heap.size, k, none⟩ := by unfold Addr.add; split <;> simp_all
   rw [e0]
   have hb := heap_alloc_new w (.cells (l.map (Value.int .i64)).toArray t)
   rw [box_cell hb k (v := .int .i64 z)]
   simp [hz]
theorem says_a {y : Say} {w w1 w' : World} {E : Value} (h : Says (fun b => w1.heap.size ≤ b) w' E y) : Says (KB 0 w') w' E y := Says.keep h fun b _ _ => ⟨Nat.zero_le b, rfl⟩
theorem says_d {D : Nat → Prop} {y : Say} {w' : World} {E : Value} (h : Says D w' E y) : Says (KB 0 w') w' E y := Says.keep h fun b _ _ => ⟨Nat.zero_le b, rfl⟩
theorem says_b {y : Say} {w w' : World} {E : Value} (h : Says (KB 0 w) w E y) (hb : Below w.heap.size w w') : Says (KB 0 w') w' E y := Says.keep h fun b _ hl => ⟨Nat.zero_le b, hb.block b hl⟩

theorem labelsFrom_size (name : ByteArray) : ∀ (l : List Lbl) (i : Nat) (p : Option Lbl), i + l.length ≤ 1000 → (labelsFrom name i p l).2.size ≤ name.size + 60
 | [], _, _, _ => by show (⟨#[]⟩ : ByteArray).size ≤ _; exact Nat.zero_le _
 | x :: l, i, p, h => by
  simp only [List.length_cons] at h
  have ha := SpecRef.atB_size name i (by omega)
  have hk : (atB name i ++ t_key).size ≤ name.size + 60 := by rw [ByteArray.size_append]; have : t_key.size = 4 := rfl; omega
  have hv : (atB name i ++ t_val).size ≤ name.size + 60 := by rw [ByteArray.size_append]; have : t_val.size = 4 := rfl; omega
  rw [labelsFrom_cons]
  split
  · exact hk
  · split
    · exact hk
    · split
      · exact hv
      · exact labelsFrom_size name l (i + 1) (some x) (by omega)
theorem labelsV_size (name : ByteArray) (l : List Lbl) : (labelsV name l).2.size ≤ name.size + 60 := by
 unfold labelsV
 split
 · show name.size ≤ _
   omega
 · exact labelsFrom_size name l 0 none (by omega)
theorem ctrsFrom_size (name : ByteArray) (init : Bool) : ∀ (l : List Ctr) (i : Nat) (a : List Ctr), i + l.length ≤ 1000 → (∀ x ∈ l, x.ports.length ≤ 1000) → (ctrsFrom name init i a l).2.size ≤ name.size + 80
 | [], _, _, _, _ => by show (⟨#[]⟩ : ByteArray).size ≤ _; exact Nat.zero_le _
 | x :: l, i, a, h, hp => by
  simp only [List.length_cons] at h
  rw [ctrsFrom]
  split
  · have ha := SpecRef.atB_size name i (by omega)
    have ho := SpecRef.one_size x a init (hp x (.head _))
    show (atB name i ++ ⟨#[46]⟩ ++ (oneV x a init).2).size ≤ _
    rw [ByteArray.size_append, ByteArray.size_append]
    have : (⟨#[46]⟩ : ByteArray).size = 1 := rfl
    omega
  · exact ctrsFrom_size name init l (i + 1) _ (by omega) (fun y hy => hp y (.tail _ hy))
theorem check_size {S : Spc} (h : Book.Light S) : (checkV S).2.size ≤ 1000 := by
 obtain ⟨⟨h1, h2, h3, h4⟩, _, h5, h6⟩ := h
 have s1 : t_name.size = 4 := rfl
 have s2 := labelsV_size t_labels S.labels
 have s3 : t_labels.size = 6 := rfl
 have s4 : t_init.size = 4 := rfl
 have s5 : t_main.size = 4 := rfl
 have s6 := ctrsFrom_size t_init true S.init 0 [] (by omega) (fun x hx => by have := (h5 x hx).2.2; omega)
 have s7 := ctrsFrom_size t_main false S.main 0 S.init (by omega) (fun x hx => by have := (h6 x hx).2.2; omega)
 unfold checkV
 split
 · show t_name.size ≤ _; omega
 · split
   · omega
   · split
     · show t_init.size ≤ _; omega
     · split
       · omega
       · split
         · show t_main.size ≤ _; omega
         · split
           · omega
           · unfold tailV
             split
             · decide
             · split
               · decide
               · split
                 · decide
                 · decide
end Ak
end Go.Proofs.YtakdhkhcndeiiaaGreatDoor

set_option linter.unusedVariables false
set_option linter.unusedSimpArgs false
namespace Go.Proofs.YtakdhkhcndeiiaaGreatDoor
open Go.ChangeShapes Go.WideShapes Go.ChangeAt Go.RowKit Go.Lib
open LebMath WirePure Sd Wire SpecOwn SpecRef Book Pk
namespace Ak

set_option maxRecDepth 100000 in
set_option maxHeartbeats 2000000 in
theorem fields_any (k : Int) (w : World) :
 Calls Tryz.prog 63 #[.int .i64 k] w fun e w' => ∃ A cap, e = .returned (.slice A (fieldsV k).length cap) ∧ Lists.Nums .i64 w' A (fieldsV k) ∧ From w.heap.size A ∧ (fieldsV k).length ≤ cap ∧ Below w.heap.size w w' := by
 rcases fields_of k with ⟨rfl, h⟩ | ⟨rfl, h⟩ | ⟨rfl, h⟩ | ⟨rfl, h⟩ | ⟨rfl, h⟩ | ⟨rfl, h⟩ | ⟨rfl, h⟩ | ⟨rfl, h⟩ | ⟨rfl, h⟩ | ⟨rfl, h⟩ | ⟨rfl, h⟩ | ⟨rfl, h⟩ | ⟨hk, h⟩
 · rw [h]
   clear h
   go_enter Tryz.func63, Tryz.ntmps63
   go_wp2_with fail
   go_ret
   exact ⟨some ⟨w.heap.size, 0, none⟩, 1, rfl, nums_made w [2] _ _ rfl (by decide), fun a ha => by injection ha with ha; rw [← ha]; exact Nat.le_refl _, Nat.le_refl _, (Below.refl _ _).alloc (Nat.le_refl _) _⟩
 · rw [h]
   clear h
   go_enter Tryz.func63, Tryz.ntmps63
   go_wp2_with fail
   go_ret
   exact ⟨some ⟨w.heap.size, 0, none⟩, 3, rfl, nums_made w [0, 1, 2] _ _ rfl (by decide), fun a ha => by injection ha with ha; rw [← ha]; exact Nat.le_refl _, Nat.le_refl _, (Below.refl _ _).alloc (Nat.le_refl _) _⟩
 · rw [h]
   clear h
   go_enter Tryz.func63, Tryz.ntmps63
   go_wp2_with fail
   go_ret
   exact ⟨some ⟨w.heap.size, 0, none⟩, 2, rfl, nums_made w [0, 3] _ _ rfl (by decide), fun a ha => by injection ha with ha; rw [← ha]; exact Nat.le_refl _, Nat.le_refl _, (Below.refl _ _).alloc (Nat.le_refl _) _⟩
 · rw [h]
   clear h
   go_enter Tryz.func63, Tryz.ntmps63
   go_wp2_with fail
   go_ret
   exact ⟨some ⟨w.heap.size, 0, none⟩, 2, rfl, nums_made w [0, 4] _ _ rfl (by decide), fun a ha => by injection ha with ha; rw [← ha]; exact Nat.le_refl _, Nat.le_refl _, (Below.refl _ _).alloc (Nat.le_refl _) _⟩
 · rw [h]
   clear h
   go_enter Tryz.func63, Tryz.ntmps63
   go_wp2_with fail
   go_ret
   exact ⟨some ⟨w.heap.size, 0, none⟩, 2, rfl, nums_made w [5, 6] _ _ rfl (by decide), fun a ha => by injection ha with ha; rw [← ha]; exact Nat.le_refl _, Nat.le_refl _, (Below.refl _ _).alloc (Nat.le_refl _) _⟩
 · rw [h]
   clear h
   go_enter Tryz.func63, Tryz.ntmps63
   go_wp2_with fail
   go_ret
   exact ⟨some ⟨w.heap.size, 0, none⟩, 2, rfl, nums_made w [5, 7] _ _ rfl (by decide), fun a ha => by injection ha with ha; rw [← ha]; exact Nat.le_refl _, Nat.le_refl _, (Below.refl _ _).alloc (Nat.le_refl _) _⟩
 · rw [h]
   clear h
   go_enter Tryz.func63, Tryz.ntmps63
   go_wp2_with fail
   go_ret
   exact ⟨some ⟨w.heap.size, 0, none⟩, 1, rfl, nums_made w [5] _ _ rfl (by decide), fun a ha => by injection ha with ha; rw [← ha]; exact Nat.le_refl _, Nat.le_refl _, (Below.refl _ _).alloc (Nat.le_refl _) _⟩
 · rw [h]
   clear h
   go_enter Tryz.func63, Tryz.ntmps63
   go_wp2_with fail
   go_ret
   exact ⟨some ⟨w.heap.size, 0, none⟩, 1, rfl, nums_made w [5] _ _ rfl (by decide), fun a ha => by injection ha with ha; rw [← ha]; exact Nat.le_refl _, Nat.le_refl _, (Below.refl _ _).alloc (Nat.le_refl _) _⟩
 · rw [h]
   clear h
   go_enter Tryz.func63, Tryz.ntmps63
   go_wp2_with fail
   go_ret
   exact ⟨some ⟨w.heap.size, 0, none⟩, 1, rfl, nums_made w [0] _ _ rfl (by decide), fun a ha => by injection ha with ha; rw [← ha]; exact Nat.le_refl _, Nat.le_refl _, (Below.refl _ _).alloc (Nat.le_refl _) _⟩
 · rw [h]
   clear h
   go_enter Tryz.func63, Tryz.ntmps63
   go_wp2_with fail
   go_ret
   exact ⟨some ⟨w.heap.size, 0, none⟩, 1, rfl, nums_made w [0] _ _ rfl (by decide), fun a ha => by injection ha with ha; rw [← ha]; exact Nat.le_refl _, Nat.le_refl _, (Below.refl _ _).alloc (Nat.le_refl _) _⟩
 · rw [h]
   clear h
   go_enter Tryz.func63, Tryz.ntmps63
   go_wp2_with fail
   go_ret
   exact ⟨some ⟨w.heap.size, 0, none⟩, 1, rfl, nums_made w [8] _ _ rfl (by decide), fun a ha => by injection ha with ha; rw [← ha]; exact Nat.le_refl _, Nat.le_refl _, (Below.refl _ _).alloc (Nat.le_refl _) _⟩
 · rw [h]
   clear h
   go_enter Tryz.func63, Tryz.ntmps63
   go_wp2_with fail
   go_ret
   exact ⟨some ⟨w.heap.size, 0, none⟩, 2, rfl, nums_made w [1, 8] _ _ rfl (by decide), fun a ha => by injection ha with ha; rw [← ha]; exact Nat.le_refl _, Nat.le_refl _, (Below.refl _ _).alloc (Nat.le_refl _) _⟩
 · rw [h]
   clear h
   have n1 : (k == 1) = false := by simp; omega
   have n2 : (k == 2) = false := by simp; omega
   have n3 : (k == 3) = false := by simp; omega
   have n4 : (k == 4) = false := by simp; omega
   have n5 : (k == 5) = false := by simp; omega
   have n6 : (k == 6) = false := by simp; omega
   have n7 : (k == 7) = false := by simp; omega
   have n8 : (k == 8) = false := by simp; omega
   have n9 : (k == 9) = false := by simp; omega
   have n10 : (k == 10) = false := by simp; omega
   have n11 : (k == 11) = false := by simp; omega
   have n12 : (k == 12) = false := by simp; omega
   clear hk
   go_enter Tryz.func63, Tryz.ntmps63
   go_wp2_with fail
   go_ret
   exact ⟨none, 0, rfl, (fun k z hz => (by simp at hz)), (fun a ha => (by cases ha)), Nat.le_refl _, Below.refl _ _⟩

set_option maxRecDepth 100000 in
theorem within_any (n a b : Int) (s : ByteArray) (hs : s.size ≤ 100000) (w : World) :
 Calls Tryz.prog 126 #[.int .i64 n, .int .i64 a, .int .i64 b, .string s] w (TellsA (rangeV n a b s) w) := by
 by_cases h1 : n < a
 · have e1 : rangeV n a b s = newV 1 s := by unfold rangeV; rw [if_pos (.inl h1)]; rfl
   rw [e1]
   clear e1
   go_enter Tryz.func126, Tryz.ntmps126
   go_wp2_with fail
   refine (new_says 1 s w.heap.size 1 _ hs (box_cell (heap_alloc_new w _) 0 rfl)).mono ?_
   rintro e w2 ⟨E, rfl, hE, hb⟩
   have HE := Lib.hid (says_d hE)
   have HB := Lib.hid (((Below.refl w.heap.size w).alloc (Nat.le_refl _) (.cells #[.string s] 9)).trans (hb.mono (by simp)))
   clear hE hb
   go_wp2
   go_ret
   exact ⟨E, rfl, HE.out, HB.out⟩
 · by_cases h2 : b < n
   · have e1 : rangeV n a b s = newV 1 s := by unfold rangeV; rw [if_pos (.inr h2)]; rfl
     rw [e1]
     clear e1
     go_enter Tryz.func126, Tryz.ntmps126
     go_wp2_with fail
     refine (new_says 1 s w.heap.size 1 _ hs (box_cell (heap_alloc_new w _) 0 rfl)).mono ?_
     rintro e w2 ⟨E, rfl, hE, hb⟩
     have HE := Lib.hid (says_d hE)
     have HB := Lib.hid (((Below.refl w.heap.size w).alloc (Nat.le_refl _) (.cells #[.string s] 9)).trans (hb.mono (by simp)))
     clear hE hb
     go_wp2
     go_ret
     exact ⟨E, rfl, HE.out, HB.out⟩
   · have e1 : rangeV n a b s = fine := by unfold rangeV; rw [if_neg (by omega)]
     rw [e1]
     clear e1
     go_enter Tryz.func126, Tryz.ntmps126
     go_wp2_with fail
     go_ret
     exact ⟨_, rfl, .inl ⟨rfl, rfl⟩, Below.refl _ _⟩

set_option maxRecDepth 100000 in
theorem check_0 (c : Cal) (LA : Option Addr) (lc : Nat) (IA : Option Addr) (ic : Nat) (MA : Option Addr) (mc : Nat) (SA : Option Addr) (sc : Nat) (hLt : LightC c) (w : World) (hL : SLaid w) (h : c.In w LA lc IA ic MA mc SA) :
 Calls Tryz.prog 64 #[.agg #[.int .i64 c.kind, .int .i64 c.uid, .int .u64 c.rev, .string c.spec.name, .slice LA c.spec.labels.length lc, .slice IA c.spec.init.length ic, .slice MA c.spec.main.length mc, .int .i64 c.spec.restart, .int .i64 c.spec.grace, .int .i64 c.spec.prio, .int .i64 c.grace, .int .i64 c.ctr, .int .i64 c.id, .int .i64 c.most, .string c.data, .slice SA c.sel.length sc], .int .i64 0] w (TellsA (checkF c 0) w) := by
 have H := Lib.hid h
 have HL := Lib.hid hL
 have HLT := Lib.hid hLt
 obtain ⟨w1, hw1⟩ : ∃ v, w.alloc (.cells #[.int .i64 c.kind, .int .i64 c.uid, .int .u64 c.rev, .string c.spec.name, .slice LA c.spec.labels.length lc, .slice IA c.spec.init.length ic, .slice MA c.spec.main.length mc, .int .i64 c.spec.restart, .int .i64 c.spec.grace, .int .i64 c.spec.prio, .int .i64 c.grace, .int .i64 c.ctr, .int .i64 c.id, .int .i64 c.most, .string c.data, .slice SA c.sel.length sc] 41) = v := ⟨_, rfl⟩
 have B1 := Lib.hid (show Below w.heap.size w w1 by rw [← hw1]; exact (Below.refl _ _).alloc (Nat.le_refl _) _)
 have X := Lib.hid (show w1.heap[w.heap.size]? = some (.cells #[.int .i64 c.kind, .int .i64 c.uid, .int .u64 c.rev, .string c.spec.name, .slice LA c.spec.labels.length lc, .slice IA c.spec.init.length ic, .slice MA c.spec.main.length mc, .int .i64 c.spec.restart, .int .i64 c.spec.grace, .int .i64 c.spec.prio, .int .i64 c.grace, .int .i64 c.ctr, .int .i64 c.id, .int .i64 c.most, .string c.data, .slice SA c.sel.length sc] 41) by rw [← hw1]; exact heap_alloc_new w _)
 clear h hL hLt
 show Calls _ _ _ w (TellsA (rangeV c.uid 1 1073741824 a_uid) w)
 have c1 := box_cell X.out 1 rfl
 go_enter Tryz.func64, Tryz.ntmps64
 go_wp2_with fail
 refine (within_any c.uid 1 1073741824 a_uid (by decide) _).mono ?_
 rintro e w2 ⟨E, rfl, hE, hb⟩
 have HE := Lib.hid (says_d hE)
 have HB := Lib.hid (B1.out.trans (hb.mono B1.out.size))
 clear hE hb
 go_wp2
 go_ret
 exact ⟨E, rfl, HE.out, HB.out⟩

set_option maxRecDepth 100000 in
theorem check_1 (c : Cal) (LA : Option Addr) (lc : Nat) (IA : Option Addr) (ic : Nat) (MA : Option Addr) (mc : Nat) (SA : Option Addr) (sc : Nat) (hLt : LightC c) (w : World) (hL : SLaid w) (h : c.In w LA lc IA ic MA mc SA) :
 Calls Tryz.prog 64 #[.agg #[.int .i64 c.kind, .int .i64 c.uid, .int .u64 c.rev, .string c.spec.name, .slice LA c.spec.labels.length lc, .slice IA c.spec.init.length ic, .slice MA c.spec.main.length mc, .int .i64 c.spec.restart, .int .i64 c.spec.grace, .int .i64 c.spec.prio, .int .i64 c.grace, .int .i64 c.ctr, .int .i64 c.id, .int .i64 c.most, .string c.data, .slice SA c.sel.length sc], .int .i64 1] w (TellsA (checkF c 1) w) := by
 have H := Lib.hid h
 have HL := Lib.hid hL
 have HLT := Lib.hid hLt
 obtain ⟨w1, hw1⟩ : ∃ v, w.alloc (.cells #[.int .i64 c.kind, .int .i64 c.uid, .int .u64 c.rev, .string c.spec.name, .slice LA c.spec.labels.length lc, .slice IA c.spec.init.length ic, .slice MA c.spec.main.length mc, .int .i64 c.spec.restart, .int .i64 c.spec.grace, .int .i64 c.spec.prio, .int .i64 c.grace, .int .i64 c.ctr, .int .i64 c.id, .int .i64 c.most, .string c.data, .slice SA c.sel.length sc] 41) = v := ⟨_, rfl⟩
 have B1 := Lib.hid (show Below w.heap.size w w1 by rw [← hw1]; exact (Below.refl _ _).alloc (Nat.le_refl _) _)
 have X := Lib.hid (show w1.heap[w.heap.size]? = some (.cells #[.int .i64 c.kind, .int .i64 c.uid, .int .u64 c.rev, .string c.spec.name, .slice LA c.spec.labels.length lc, .slice IA c.spec.init.length ic, .slice MA c.spec.main.length mc, .int .i64 c.spec.restart, .int .i64 c.spec.grace, .int .i64 c.spec.prio, .int .i64 c.grace, .int .i64 c.ctr, .int .i64 c.id, .int .i64 c.most, .string c.data, .slice SA c.sel.length sc] 41) by rw [← hw1]; exact heap_alloc_new w _)
 clear h hL hLt
 show Calls _ _ _ w (TellsA fine w)
 go_enter Tryz.func64, Tryz.ntmps64
 go_wp2_with fail
 go_ret
 exact ⟨_, rfl, .inl ⟨rfl, rfl⟩, B1.out⟩

set_option maxRecDepth 100000 in
theorem check_2 (c : Cal) (LA : Option Addr) (lc : Nat) (IA : Option Addr) (ic : Nat) (MA : Option Addr) (mc : Nat) (SA : Option Addr) (sc : Nat) (hLt : LightC c) (w : World) (hL : SLaid w) (h : c.In w LA lc IA ic MA mc SA) :
 Calls Tryz.prog 64 #[.agg #[.int .i64 c.kind, .int .i64 c.uid, .int .u64 c.rev, .string c.spec.name, .slice LA c.spec.labels.length lc, .slice IA c.spec.init.length ic, .slice MA c.spec.main.length mc, .int .i64 c.spec.restart, .int .i64 c.spec.grace, .int .i64 c.spec.prio, .int .i64 c.grace, .int .i64 c.ctr, .int .i64 c.id, .int .i64 c.most, .string c.data, .slice SA c.sel.length sc], .int .i64 2] w (TellsA (checkF c 2) w) := by
 have H := Lib.hid h
 have HL := Lib.hid hL
 have HLT := Lib.hid hLt
 obtain ⟨w1, hw1⟩ : ∃ v, w.alloc (.cells #[.int .i64 c.kind, .int .i64 c.uid, .int .u64 c.rev, .string c.spec.name, .slice LA c.spec.labels.length lc, .slice IA c.spec.init.length ic, .slice MA c.spec.main.length mc, .int .i64 c.spec.restart, .int .i64 c.spec.grace, .int .i64 c.spec.prio, .int .i64 c.grace, .int .i64 c.ctr, .int .i64 c.id, .int .i64 c.most, .string c.data, .slice SA c.sel.length sc] 41) = v := ⟨_, rfl⟩
 have B1 := Lib.hid (show Below w.heap.size w w1 by rw [← hw1]; exact (Below.refl _ _).alloc (Nat.le_refl _) _)
 have X := Lib.hid (show w1.heap[w.heap.size]? = some (.cells #[.int .i64 c.kind, .int .i64 c.uid, .int .u64 c.rev, .string c.spec.name, .slice LA c.spec.labels.length lc, .slice IA c.spec.init.length ic, .slice MA c.spec.main.length mc, .int .i64 c.spec.restart, .int .i64 c.spec.grace, .int .i64 c.spec.prio, .int .i64 c.grace, .int .i64 c.ctr, .int .i64 c.id, .int .i64 c.most, .string c.data, .slice SA c.sel.length sc] 41) by rw [← hw1]; exact heap_alloc_new w _)
 clear h hL hLt
 show Calls _ _ _ w (TellsA (inV a_spec (checkV c.spec)) w)
 have c3 := box_cell X.out 3 rfl
 have c4 := box_cell X.out 4 rfl
 have c5 := box_cell X.out 5 rfl
 have c6 := box_cell X.out 6 rfl
 have c7 := box_cell X.out 7 rfl
 have c8 := box_cell X.out 8 rfl
 have c9 := box_cell X.out 9 rfl
 go_enter Tryz.func64, Tryz.ntmps64
 go_wp2_with fail
 refine (check_any c.spec LA lc IA ic MA mc HLT.out.spec w1 (HL.out.below B1.out) (H.out.spec.below B1.out)).mono ?_
 rintro e w2 ⟨E, rfl, hE, hb⟩
 have HE0 := Lib.hid hE
 have B2 := Lib.hid (B1.out.trans (hb.mono B1.out.size))
 clear hE hb
 go_wp2_with fail
 refine (in_says HE0.out a_spec (by have := check_size HLT.out.spec; have : a_spec.size = 4 := rfl; omega)).mono ?_
 rintro e w3 ⟨E', rfl, hE, hb⟩
 have HE := Lib.hid (says_d hE)
 have HB := Lib.hid (B2.out.trans (hb.mono B2.out.size))
 clear hE hb
 go_wp2
 go_ret
 exact ⟨E', rfl, HE.out, HB.out⟩

set_option maxRecDepth 100000 in
theorem check_3 (c : Cal) (LA : Option Addr) (lc : Nat) (IA : Option Addr) (ic : Nat) (MA : Option Addr) (mc : Nat) (SA : Option Addr) (sc : Nat) (hLt : LightC c) (w : World) (hL : SLaid w) (h : c.In w LA lc IA ic MA mc SA) :
 Calls Tryz.prog 64 #[.agg #[.int .i64 c.kind, .int .i64 c.uid, .int .u64 c.rev, .string c.spec.name, .slice LA c.spec.labels.length lc, .slice IA c.spec.init.length ic, .slice MA c.spec.main.length mc, .int .i64 c.spec.restart, .int .i64 c.spec.grace, .int .i64 c.spec.prio, .int .i64 c.grace, .int .i64 c.ctr, .int .i64 c.id, .int .i64 c.most, .string c.data, .slice SA c.sel.length sc], .int .i64 3] w (TellsA (checkF c 3) w) := by
 have H := Lib.hid h
 have HL := Lib.hid hL
 have HLT := Lib.hid hLt
 obtain ⟨w1, hw1⟩ : ∃ v, w.alloc (.cells #[.int .i64 c.kind, .int .i64 c.uid, .int .u64 c.rev, .string c.spec.name, .slice LA c.spec.labels.length lc, .slice IA c.spec.init.length ic, .slice MA c.spec.main.length mc, .int .i64 c.spec.restart, .int .i64 c.spec.grace, .int .i64 c.spec.prio, .int .i64 c.grace, .int .i64 c.ctr, .int .i64 c.id, .int .i64 c.most, .string c.data, .slice SA c.sel.length sc] 41) = v := ⟨_, rfl⟩
 have B1 := Lib.hid (show Below w.heap.size w w1 by rw [← hw1]; exact (Below.refl _ _).alloc (Nat.le_refl _) _)
 have X := Lib.hid (show w1.heap[w.heap.size]? = some (.cells #[.int .i64 c.kind, .int .i64 c.uid, .int .u64 c.rev, .string c.spec.name, .slice LA c.spec.labels.length lc, .slice IA c.spec.init.length ic, .slice MA c.spec.main.length mc, .int .i64 c.spec.restart, .int .i64 c.spec.grace, .int .i64 c.spec.prio, .int .i64 c.grace, .int .i64 c.ctr, .int .i64 c.id, .int .i64 c.most, .string c.data, .slice SA c.sel.length sc] 41) by rw [← hw1]; exact heap_alloc_new w _)
 clear h hL hLt
 show Calls _ _ _ w (TellsA (rangeV c.grace 0 1000 a_grace) w)
 have c10 := box_cell X.out 10 rfl
 go_enter Tryz.func64, Tryz.ntmps64
 go_wp2_with fail
 refine (within_any c.grace 0 1000 a_grace (by decide) _).mono ?_
 rintro e w2 ⟨E, rfl, hE, hb⟩
 have HE := Lib.hid (says_d hE)
 have HB := Lib.hid (B1.out.trans (hb.mono B1.out.size))
 clear hE hb
 go_wp2
 go_ret
 exact ⟨E, rfl, HE.out, HB.out⟩

set_option maxRecDepth 100000 in
theorem check_4 (c : Cal) (LA : Option Addr) (lc : Nat) (IA : Option Addr) (ic : Nat) (MA : Option Addr) (mc : Nat) (SA : Option Addr) (sc : Nat) (hLt : LightC c) (w : World) (hL : SLaid w) (h : c.In w LA lc IA ic MA mc SA) :
 Calls Tryz.prog 64 #[.agg #[.int .i64 c.kind, .int .i64 c.uid, .int .u64 c.rev, .string c.spec.name, .slice LA c.spec.labels.length lc, .slice IA c.spec.init.length ic, .slice MA c.spec.main.length mc, .int .i64 c.spec.restart, .int .i64 c.spec.grace, .int .i64 c.spec.prio, .int .i64 c.grace, .int .i64 c.ctr, .int .i64 c.id, .int .i64 c.most, .string c.data, .slice SA c.sel.length sc], .int .i64 4] w (TellsA (checkF c 4) w) := by
 have H := Lib.hid h
 have HL := Lib.hid hL
 have HLT := Lib.hid hLt
 obtain ⟨w1, hw1⟩ : ∃ v, w.alloc (.cells #[.int .i64 c.kind, .int .i64 c.uid, .int .u64 c.rev, .string c.spec.name, .slice LA c.spec.labels.length lc, .slice IA c.spec.init.length ic, .slice MA c.spec.main.length mc, .int .i64 c.spec.restart, .int .i64 c.spec.grace, .int .i64 c.spec.prio, .int .i64 c.grace, .int .i64 c.ctr, .int .i64 c.id, .int .i64 c.most, .string c.data, .slice SA c.sel.length sc] 41) = v := ⟨_, rfl⟩
 have B1 := Lib.hid (show Below w.heap.size w w1 by rw [← hw1]; exact (Below.refl _ _).alloc (Nat.le_refl _) _)
 have X := Lib.hid (show w1.heap[w.heap.size]? = some (.cells #[.int .i64 c.kind, .int .i64 c.uid, .int .u64 c.rev, .string c.spec.name, .slice LA c.spec.labels.length lc, .slice IA c.spec.init.length ic, .slice MA c.spec.main.length mc, .int .i64 c.spec.restart, .int .i64 c.spec.grace, .int .i64 c.spec.prio, .int .i64 c.grace, .int .i64 c.ctr, .int .i64 c.id, .int .i64 c.most, .string c.data, .slice SA c.sel.length sc] 41) by rw [← hw1]; exact heap_alloc_new w _)
 clear h hL hLt
 show Calls _ _ _ w (TellsA (rangeV c.ctr 0 3 a_ctr) w)
 have c11 := box_cell X.out 11 rfl
 go_enter Tryz.func64, Tryz.ntmps64
 go_wp2_with fail
 refine (within_any c.ctr 0 3 a_ctr (by decide) _).mono ?_
 rintro e w2 ⟨E, rfl, hE, hb⟩
 have HE := Lib.hid (says_d hE)
 have HB := Lib.hid (B1.out.trans (hb.mono B1.out.size))
 clear hE hb
 go_wp2
 go_ret
 exact ⟨E, rfl, HE.out, HB.out⟩

set_option maxRecDepth 100000 in
theorem check_5 (c : Cal) (LA : Option Addr) (lc : Nat) (IA : Option Addr) (ic : Nat) (MA : Option Addr) (mc : Nat) (SA : Option Addr) (sc : Nat) (hLt : LightC c) (w : World) (hL : SLaid w) (h : c.In w LA lc IA ic MA mc SA) :
 Calls Tryz.prog 64 #[.agg #[.int .i64 c.kind, .int .i64 c.uid, .int .u64 c.rev, .string c.spec.name, .slice LA c.spec.labels.length lc, .slice IA c.spec.init.length ic, .slice MA c.spec.main.length mc, .int .i64 c.spec.restart, .int .i64 c.spec.grace, .int .i64 c.spec.prio, .int .i64 c.grace, .int .i64 c.ctr, .int .i64 c.id, .int .i64 c.most, .string c.data, .slice SA c.sel.length sc], .int .i64 5] w (TellsA (checkF c 5) w) := by
 have H := Lib.hid h
 have HL := Lib.hid hL
 have HLT := Lib.hid hLt
 obtain ⟨w1, hw1⟩ : ∃ v, w.alloc (.cells #[.int .i64 c.kind, .int .i64 c.uid, .int .u64 c.rev, .string c.spec.name, .slice LA c.spec.labels.length lc, .slice IA c.spec.init.length ic, .slice MA c.spec.main.length mc, .int .i64 c.spec.restart, .int .i64 c.spec.grace, .int .i64 c.spec.prio, .int .i64 c.grace, .int .i64 c.ctr, .int .i64 c.id, .int .i64 c.most, .string c.data, .slice SA c.sel.length sc] 41) = v := ⟨_, rfl⟩
 have B1 := Lib.hid (show Below w.heap.size w w1 by rw [← hw1]; exact (Below.refl _ _).alloc (Nat.le_refl _) _)
 have X := Lib.hid (show w1.heap[w.heap.size]? = some (.cells #[.int .i64 c.kind, .int .i64 c.uid, .int .u64 c.rev, .string c.spec.name, .slice LA c.spec.labels.length lc, .slice IA c.spec.init.length ic, .slice MA c.spec.main.length mc, .int .i64 c.spec.restart, .int .i64 c.spec.grace, .int .i64 c.spec.prio, .int .i64 c.grace, .int .i64 c.ctr, .int .i64 c.id, .int .i64 c.most, .string c.data, .slice SA c.sel.length sc] 41) by rw [← hw1]; exact heap_alloc_new w _)
 clear h hL hLt
 show Calls _ _ _ w (TellsA (rangeV c.id 1 1073741824 a_id) w)
 have c12 := box_cell X.out 12 rfl
 go_enter Tryz.func64, Tryz.ntmps64
 go_wp2_with fail
 refine (within_any c.id 1 1073741824 a_id (by decide) _).mono ?_
 rintro e w2 ⟨E, rfl, hE, hb⟩
 have HE := Lib.hid (says_d hE)
 have HB := Lib.hid (B1.out.trans (hb.mono B1.out.size))
 clear hE hb
 go_wp2
 go_ret
 exact ⟨E, rfl, HE.out, HB.out⟩

set_option maxRecDepth 100000 in
theorem check_6 (c : Cal) (LA : Option Addr) (lc : Nat) (IA : Option Addr) (ic : Nat) (MA : Option Addr) (mc : Nat) (SA : Option Addr) (sc : Nat) (hLt : LightC c) (w : World) (hL : SLaid w) (h : c.In w LA lc IA ic MA mc SA) :
 Calls Tryz.prog 64 #[.agg #[.int .i64 c.kind, .int .i64 c.uid, .int .u64 c.rev, .string c.spec.name, .slice LA c.spec.labels.length lc, .slice IA c.spec.init.length ic, .slice MA c.spec.main.length mc, .int .i64 c.spec.restart, .int .i64 c.spec.grace, .int .i64 c.spec.prio, .int .i64 c.grace, .int .i64 c.ctr, .int .i64 c.id, .int .i64 c.most, .string c.data, .slice SA c.sel.length sc], .int .i64 6] w (TellsA (checkF c 6) w) := by
 have H := Lib.hid h
 have HL := Lib.hid hL
 have HLT := Lib.hid hLt
 obtain ⟨w1, hw1⟩ : ∃ v, w.alloc (.cells #[.int .i64 c.kind, .int .i64 c.uid, .int .u64 c.rev, .string c.spec.name, .slice LA c.spec.labels.length lc, .slice IA c.spec.init.length ic, .slice MA c.spec.main.length mc, .int .i64 c.spec.restart, .int .i64 c.spec.grace, .int .i64 c.spec.prio, .int .i64 c.grace, .int .i64 c.ctr, .int .i64 c.id, .int .i64 c.most, .string c.data, .slice SA c.sel.length sc] 41) = v := ⟨_, rfl⟩
 have B1 := Lib.hid (show Below w.heap.size w w1 by rw [← hw1]; exact (Below.refl _ _).alloc (Nat.le_refl _) _)
 have X := Lib.hid (show w1.heap[w.heap.size]? = some (.cells #[.int .i64 c.kind, .int .i64 c.uid, .int .u64 c.rev, .string c.spec.name, .slice LA c.spec.labels.length lc, .slice IA c.spec.init.length ic, .slice MA c.spec.main.length mc, .int .i64 c.spec.restart, .int .i64 c.spec.grace, .int .i64 c.spec.prio, .int .i64 c.grace, .int .i64 c.ctr, .int .i64 c.id, .int .i64 c.most, .string c.data, .slice SA c.sel.length sc] 41) by rw [← hw1]; exact heap_alloc_new w _)
 clear h hL hLt
 have c14 := box_cell X.out 14 rfl
 by_cases hd : 32 < c.data.size
 · have hd' : (32 : Int) < (c.data.size : Int) := by omega
   have e1 : checkF c 6 = newV 2 a_data := by show (if 32 < c.data.size then ((2, a_data) : Say) else fine) = _; rw [if_pos hd]; rfl
   rw [e1]
   clear e1
   go_enter Tryz.func64, Tryz.ntmps64
   go_wp2_with fail
   refine (new_says 2 a_data w1.heap.size 1 _ (by decide) (box_cell (heap_alloc_new w1 _) 0 rfl)).mono ?_
   rintro e w2 ⟨E, rfl, hE, hb⟩
   have HE := Lib.hid (says_d hE)
   have HB := Lib.hid ((B1.out.alloc B1.out.size (.cells #[.string a_data] 9)).trans (hb.mono (by have := B1.out.size; simp; omega)))
   clear hE hb
   go_wp2
   go_ret
   exact ⟨E, rfl, HE.out, HB.out⟩
 · have hd' : ¬ (32 : Int) < (c.data.size : Int) := by omega
   have e1 : checkF c 6 = fine := by show (if 32 < c.data.size then ((2, a_data) : Say) else fine) = _; rw [if_neg hd]
   rw [e1]
   clear e1
   go_enter Tryz.func64, Tryz.ntmps64
   go_wp2_with fail
   go_ret
   exact ⟨_, rfl, .inl ⟨rfl, rfl⟩, B1.out⟩

set_option maxRecDepth 100000 in
theorem check_7 (c : Cal) (LA : Option Addr) (lc : Nat) (IA : Option Addr) (ic : Nat) (MA : Option Addr) (mc : Nat) (SA : Option Addr) (sc : Nat) (hLt : LightC c) (w : World) (hL : SLaid w) (h : c.In w LA lc IA ic MA mc SA) :
 Calls Tryz.prog 64 #[.agg #[.int .i64 c.kind, .int .i64 c.uid, .int .u64 c.rev, .string c.spec.name, .slice LA c.spec.labels.length lc, .slice IA c.spec.init.length ic, .slice MA c.spec.main.length mc, .int .i64 c.spec.restart, .int .i64 c.spec.grace, .int .i64 c.spec.prio, .int .i64 c.grace, .int .i64 c.ctr, .int .i64 c.id, .int .i64 c.most, .string c.data, .slice SA c.sel.length sc], .int .i64 7] w (TellsA (checkF c 7) w) := by
 have H := Lib.hid h
 have HL := Lib.hid hL
 have HLT := Lib.hid hLt
 obtain ⟨w1, hw1⟩ : ∃ v, w.alloc (.cells #[.int .i64 c.kind, .int .i64 c.uid, .int .u64 c.rev, .string c.spec.name, .slice LA c.spec.labels.length lc, .slice IA c.spec.init.length ic, .slice MA c.spec.main.length mc, .int .i64 c.spec.restart, .int .i64 c.spec.grace, .int .i64 c.spec.prio, .int .i64 c.grace, .int .i64 c.ctr, .int .i64 c.id, .int .i64 c.most, .string c.data, .slice SA c.sel.length sc] 41) = v := ⟨_, rfl⟩
 have B1 := Lib.hid (show Below w.heap.size w w1 by rw [← hw1]; exact (Below.refl _ _).alloc (Nat.le_refl _) _)
 have X := Lib.hid (show w1.heap[w.heap.size]? = some (.cells #[.int .i64 c.kind, .int .i64 c.uid, .int .u64 c.rev, .string c.spec.name, .slice LA c.spec.labels.length lc, .slice IA c.spec.init.length ic, .slice MA c.spec.main.length mc, .int .i64 c.spec.restart, .int .i64 c.spec.grace, .int .i64 c.spec.prio, .int .i64 c.grace, .int .i64 c.ctr, .int .i64 c.id, .int .i64 c.most, .string c.data, .slice SA c.sel.length sc] 41) by rw [← hw1]; exact heap_alloc_new w _)
 clear h hL hLt
 show Calls _ _ _ w (TellsA (rangeV c.most 1 32 a_most) w)
 have c13 := box_cell X.out 13 rfl
 go_enter Tryz.func64, Tryz.ntmps64
 go_wp2_with fail
 refine (within_any c.most 1 32 a_most (by decide) _).mono ?_
 rintro e w2 ⟨E, rfl, hE, hb⟩
 have HE := Lib.hid (says_d hE)
 have HB := Lib.hid (B1.out.trans (hb.mono B1.out.size))
 clear hE hb
 go_wp2
 go_ret
 exact ⟨E, rfl, HE.out, HB.out⟩

set_option maxRecDepth 100000 in
theorem check_8 (c : Cal) (LA : Option Addr) (lc : Nat) (IA : Option Addr) (ic : Nat) (MA : Option Addr) (mc : Nat) (SA : Option Addr) (sc : Nat) (hLt : LightC c) (w : World) (hL : SLaid w) (h : c.In w LA lc IA ic MA mc SA) :
 Calls Tryz.prog 64 #[.agg #[.int .i64 c.kind, .int .i64 c.uid, .int .u64 c.rev, .string c.spec.name, .slice LA c.spec.labels.length lc, .slice IA c.spec.init.length ic, .slice MA c.spec.main.length mc, .int .i64 c.spec.restart, .int .i64 c.spec.grace, .int .i64 c.spec.prio, .int .i64 c.grace, .int .i64 c.ctr, .int .i64 c.id, .int .i64 c.most, .string c.data, .slice SA c.sel.length sc], .int .i64 8] w (TellsA (checkF c 8) w) := by
 have H := Lib.hid h
 have HL := Lib.hid hL
 have HLT := Lib.hid hLt
 obtain ⟨w1, hw1⟩ : ∃ v, w.alloc (.cells #[.int .i64 c.kind, .int .i64 c.uid, .int .u64 c.rev, .string c.spec.name, .slice LA c.spec.labels.length lc, .slice IA c.spec.init.length ic, .slice MA c.spec.main.length mc, .int .i64 c.spec.restart, .int .i64 c.spec.grace, .int .i64 c.spec.prio, .int .i64 c.grace, .int .i64 c.ctr, .int .i64 c.id, .int .i64 c.most, .string c.data, .slice SA c.sel.length sc] 41) = v := ⟨_, rfl⟩
 have B1 := Lib.hid (show Below w.heap.size w w1 by rw [← hw1]; exact (Below.refl _ _).alloc (Nat.le_refl _) _)
 have X := Lib.hid (show w1.heap[w.heap.size]? = some (.cells #[.int .i64 c.kind, .int .i64 c.uid, .int .u64 c.rev, .string c.spec.name, .slice LA c.spec.labels.length lc, .slice IA c.spec.init.length ic, .slice MA c.spec.main.length mc, .int .i64 c.spec.restart, .int .i64 c.spec.grace, .int .i64 c.spec.prio, .int .i64 c.grace, .int .i64 c.ctr, .int .i64 c.id, .int .i64 c.most, .string c.data, .slice SA c.sel.length sc] 41) by rw [← hw1]; exact heap_alloc_new w _)
 clear h hL hLt
 show Calls _ _ _ w (TellsA (labelsV a_sel c.sel) w)
 have c15 := box_cell X.out 15 rfl
 go_enter Tryz.func64, Tryz.ntmps64
 go_wp2_with fail
 refine (labels_any a_sel SA sc c.sel (by decide) H.out.ns HLT.out.sel.2 w1 (HL.out.below B1.out) (H.out.sel.below B1.out)).mono ?_
 rintro e w2 ⟨E, rfl, hE, hb⟩
 have HE := Lib.hid (says_d hE)
 have HB := Lib.hid (B1.out.trans (hb.mono B1.out.size))
 clear hE hb
 go_wp2
 go_ret
 exact ⟨E, rfl, HE.out, HB.out⟩

theorem check_f (c : Cal) (LA : Option Addr) (lc : Nat) (IA : Option Addr) (ic : Nat) (MA : Option Addr) (mc : Nat) (SA : Option Addr) (sc : Nat) (hLt : LightC c) (f : Int) (hf : 0 ≤ f ∧ f < 9) (w : World) (hL : SLaid w) (h : c.In w LA lc IA ic MA mc SA) :
 Calls Tryz.prog 64 #[.agg #[.int .i64 c.kind, .int .i64 c.uid, .int .u64 c.rev, .string c.spec.name, .slice LA c.spec.labels.length lc, .slice IA c.spec.init.length ic, .slice MA c.spec.main.length mc, .int .i64 c.spec.restart, .int .i64 c.spec.grace, .int .i64 c.spec.prio, .int .i64 c.grace, .int .i64 c.ctr, .int .i64 c.id, .int .i64 c.most, .string c.data, .slice SA c.sel.length sc], .int .i64 f] w (TellsA (checkF c f) w) := by
 rcases nine f with rfl | rfl | rfl | rfl | rfl | rfl | rfl | rfl | rfl | ⟨h0, h1, h2, h3, h4, h5, h6, h7, h8⟩
 · exact check_0 c LA lc IA ic MA mc SA sc hLt w hL h
 · exact check_1 c LA lc IA ic MA mc SA sc hLt w hL h
 · exact check_2 c LA lc IA ic MA mc SA sc hLt w hL h
 · exact check_3 c LA lc IA ic MA mc SA sc hLt w hL h
 · exact check_4 c LA lc IA ic MA mc SA sc hLt w hL h
 · exact check_5 c LA lc IA ic MA mc SA sc hLt w hL h
 · exact check_6 c LA lc IA ic MA mc SA sc hLt w hL h
 · exact check_7 c LA lc IA ic MA mc SA sc hLt w hL h
 · exact check_8 c LA lc IA ic MA mc SA sc hLt w hL h
 · omega

set_option maxRecDepth 100000 in
theorem zero_0 (c : Cal) (LA : Option Addr) (lc : Nat) (IA : Option Addr) (ic : Nat) (MA : Option Addr) (mc : Nat) (SA : Option Addr) (sc : Nat) (w : World) (h : c.In w LA lc IA ic MA mc SA) :
 Calls Tryz.prog 66 #[.agg #[.int .i64 c.kind, .int .i64 c.uid, .int .u64 c.rev, .string c.spec.name, .slice LA c.spec.labels.length lc, .slice IA c.spec.init.length ic, .slice MA c.spec.main.length mc, .int .i64 c.spec.restart, .int .i64 c.spec.grace, .int .i64 c.spec.prio, .int .i64 c.grace, .int .i64 c.ctr, .int .i64 c.id, .int .i64 c.most, .string c.data, .slice SA c.sel.length sc], .int .i64 0] w fun e w' => e = .returned (.bool (zeroF c 0)) ∧ Below w.heap.size w w' := by
 have H := Lib.hid h
 obtain ⟨w1, hw1⟩ : ∃ v, w.alloc (.cells #[.int .i64 c.kind, .int .i64 c.uid, .int .u64 c.rev, .string c.spec.name, .slice LA c.spec.labels.length lc, .slice IA c.spec.init.length ic, .slice MA c.spec.main.length mc, .int .i64 c.spec.restart, .int .i64 c.spec.grace, .int .i64 c.spec.prio, .int .i64 c.grace, .int .i64 c.ctr, .int .i64 c.id, .int .i64 c.most, .string c.data, .slice SA c.sel.length sc] 41) = v := ⟨_, rfl⟩
 have B1 := Lib.hid (show Below w.heap.size w w1 by rw [← hw1]; exact (Below.refl _ _).alloc (Nat.le_refl _) _)
 have X := Lib.hid (show w1.heap[w.heap.size]? = some (.cells #[.int .i64 c.kind, .int .i64 c.uid, .int .u64 c.rev, .string c.spec.name, .slice LA c.spec.labels.length lc, .slice IA c.spec.init.length ic, .slice MA c.spec.main.length mc, .int .i64 c.spec.restart, .int .i64 c.spec.grace, .int .i64 c.spec.prio, .int .i64 c.grace, .int .i64 c.ctr, .int .i64 c.id, .int .i64 c.most, .string c.data, .slice SA c.sel.length sc] 41) by rw [← hw1]; exact heap_alloc_new w _)
 clear h
 have c1 := box_cell X.out 1 rfl
 obtain ⟨z, hz⟩ : ∃ z, zeroF c 0 = z := ⟨_, rfl⟩
 rw [hz]
 have hz' : (c.uid == 0) = z := hz
 clear hz
 cases z
 all_goals
  go_enter Tryz.func66, Tryz.ntmps66
  go_wp2_with fail
  go_ret
  exact ⟨rfl, B1.out⟩

set_option maxRecDepth 100000 in
theorem zero_1 (c : Cal) (LA : Option Addr) (lc : Nat) (IA : Option Addr) (ic : Nat) (MA : Option Addr) (mc : Nat) (SA : Option Addr) (sc : Nat) (w : World) (h : c.In w LA lc IA ic MA mc SA) :
 Calls Tryz.prog 66 #[.agg #[.int .i64 c.kind, .int .i64 c.uid, .int .u64 c.rev, .string c.spec.name, .slice LA c.spec.labels.length lc, .slice IA c.spec.init.length ic, .slice MA c.spec.main.length mc, .int .i64 c.spec.restart, .int .i64 c.spec.grace, .int .i64 c.spec.prio, .int .i64 c.grace, .int .i64 c.ctr, .int .i64 c.id, .int .i64 c.most, .string c.data, .slice SA c.sel.length sc], .int .i64 1] w fun e w' => e = .returned (.bool (zeroF c 1)) ∧ Below w.heap.size w w' := by
 have H := Lib.hid h
 obtain ⟨w1, hw1⟩ : ∃ v, w.alloc (.cells #[.int .i64 c.kind, .int .i64 c.uid, .int .u64 c.rev, .string c.spec.name, .slice LA c.spec.labels.length lc, .slice IA c.spec.init.length ic, .slice MA c.spec.main.length mc, .int .i64 c.spec.restart, .int .i64 c.spec.grace, .int .i64 c.spec.prio, .int .i64 c.grace, .int .i64 c.ctr, .int .i64 c.id, .int .i64 c.most, .string c.data, .slice SA c.sel.length sc] 41) = v := ⟨_, rfl⟩
 have B1 := Lib.hid (show Below w.heap.size w w1 by rw [← hw1]; exact (Below.refl _ _).alloc (Nat.le_refl _) _)
 have X := Lib.hid (show w1.heap[w.heap.size]? = some (.cells #[.int .i64 c.kind, .int .i64 c.uid, .int .u64 c.rev, .string c.spec.name, .slice LA c.spec.labels.length lc, .slice IA c.spec.init.length ic, .slice MA c.spec.main.length mc, .int .i64 c.spec.restart, .int .i64 c.spec.grace, .int .i64 c.spec.prio, .int .i64 c.grace, .int .i64 c.ctr, .int .i64 c.id, .int .i64 c.most, .string c.data, .slice SA c.sel.length sc] 41) by rw [← hw1]; exact heap_alloc_new w _)
 clear h
 have c2 := box_cell X.out 2 rfl
 obtain ⟨z, hz⟩ : ∃ z, zeroF c 1 = z := ⟨_, rfl⟩
 rw [hz]
 have hz' : ((c.rev : Int) == 0) = z := (Bool.eq_iff_iff.2 (by simp) : ((c.rev : Int) == 0) = (c.rev == 0)).trans hz
 clear hz
 cases z
 all_goals
  go_enter Tryz.func66, Tryz.ntmps66
  go_wp2_with fail
  go_ret
  exact ⟨rfl, B1.out⟩

set_option maxRecDepth 100000 in
theorem zero_2 (c : Cal) (LA : Option Addr) (lc : Nat) (IA : Option Addr) (ic : Nat) (MA : Option Addr) (mc : Nat) (SA : Option Addr) (sc : Nat) (w : World) (h : c.In w LA lc IA ic MA mc SA) :
 Calls Tryz.prog 66 #[.agg #[.int .i64 c.kind, .int .i64 c.uid, .int .u64 c.rev, .string c.spec.name, .slice LA c.spec.labels.length lc, .slice IA c.spec.init.length ic, .slice MA c.spec.main.length mc, .int .i64 c.spec.restart, .int .i64 c.spec.grace, .int .i64 c.spec.prio, .int .i64 c.grace, .int .i64 c.ctr, .int .i64 c.id, .int .i64 c.most, .string c.data, .slice SA c.sel.length sc], .int .i64 2] w fun e w' => e = .returned (.bool (zeroF c 2)) ∧ Below w.heap.size w w' := by
 have H := Lib.hid h
 obtain ⟨w1, hw1⟩ : ∃ v, w.alloc (.cells #[.int .i64 c.kind, .int .i64 c.uid, .int .u64 c.rev, .string c.spec.name, .slice LA c.spec.labels.length lc, .slice IA c.spec.init.length ic, .slice MA c.spec.main.length mc, .int .i64 c.spec.restart, .int .i64 c.spec.grace, .int .i64 c.spec.prio, .int .i64 c.grace, .int .i64 c.ctr, .int .i64 c.id, .int .i64 c.most, .string c.data, .slice SA c.sel.length sc] 41) = v := ⟨_, rfl⟩
 have B1 := Lib.hid (show Below w.heap.size w w1 by rw [← hw1]; exact (Below.refl _ _).alloc (Nat.le_refl _) _)
 have X := Lib.hid (show w1.heap[w.heap.size]? = some (.cells #[.int .i64 c.kind, .int .i64 c.uid, .int .u64 c.rev, .string c.spec.name, .slice LA c.spec.labels.length lc, .slice IA c.spec.init.length ic, .slice MA c.spec.main.length mc, .int .i64 c.spec.restart, .int .i64 c.spec.grace, .int .i64 c.spec.prio, .int .i64 c.grace, .int .i64 c.ctr, .int .i64 c.id, .int .i64 c.most, .string c.data, .slice SA c.sel.length sc] 41) by rw [← hw1]; exact heap_alloc_new w _)
 clear h
 show Calls _ _ _ w fun e w' => e = .returned (.bool (sameS c.spec Z0)) ∧ Below w.heap.size w w'
 have c3 := box_cell X.out 3 rfl
 have c4 := box_cell X.out 4 rfl
 have c5 := box_cell X.out 5 rfl
 have c6 := box_cell X.out 6 rfl
 have c7 := box_cell X.out 7 rfl
 have c8 := box_cell X.out 8 rfl
 have c9 := box_cell X.out 9 rfl
 go_enter Tryz.func66, Tryz.ntmps66
 go_wp2_with fail
 refine (same_any c.spec LA lc IA ic MA mc Z0 none 0 none 0 none 0 w1 (H.out.spec.below B1.out) (z0_in w1)).mono ?_
 rintro e w2 ⟨rfl, hb⟩
 have HB := Lib.hid (B1.out.trans (hb.mono B1.out.size))
 clear hb
 go_wp2
 go_ret
 exact ⟨rfl, HB.out⟩

set_option maxRecDepth 100000 in
theorem zero_3 (c : Cal) (LA : Option Addr) (lc : Nat) (IA : Option Addr) (ic : Nat) (MA : Option Addr) (mc : Nat) (SA : Option Addr) (sc : Nat) (w : World) (h : c.In w LA lc IA ic MA mc SA) :
 Calls Tryz.prog 66 #[.agg #[.int .i64 c.kind, .int .i64 c.uid, .int .u64 c.rev, .string c.spec.name, .slice LA c.spec.labels.length lc, .slice IA c.spec.init.length ic, .slice MA c.spec.main.length mc, .int .i64 c.spec.restart, .int .i64 c.spec.grace, .int .i64 c.spec.prio, .int .i64 c.grace, .int .i64 c.ctr, .int .i64 c.id, .int .i64 c.most, .string c.data, .slice SA c.sel.length sc], .int .i64 3] w fun e w' => e = .returned (.bool (zeroF c 3)) ∧ Below w.heap.size w w' := by
 have H := Lib.hid h
 obtain ⟨w1, hw1⟩ : ∃ v, w.alloc (.cells #[.int .i64 c.kind, .int .i64 c.uid, .int .u64 c.rev, .string c.spec.name, .slice LA c.spec.labels.length lc, .slice IA c.spec.init.length ic, .slice MA c.spec.main.length mc, .int .i64 c.spec.restart, .int .i64 c.spec.grace, .int .i64 c.spec.prio, .int .i64 c.grace, .int .i64 c.ctr, .int .i64 c.id, .int .i64 c.most, .string c.data, .slice SA c.sel.length sc] 41) = v := ⟨_, rfl⟩
 have B1 := Lib.hid (show Below w.heap.size w w1 by rw [← hw1]; exact (Below.refl _ _).alloc (Nat.le_refl _) _)
 have X := Lib.hid (show w1.heap[w.heap.size]? = some (.cells #[.int .i64 c.kind, .int .i64 c.uid, .int .u64 c.rev, .string c.spec.name, .slice LA c.spec.labels.length lc, .slice IA c.spec.init.length ic, .slice MA c.spec.main.length mc, .int .i64 c.spec.restart, .int .i64 c.spec.grace, .int .i64 c.spec.prio, .int .i64 c.grace, .int .i64 c.ctr, .int .i64 c.id, .int .i64 c.most, .string c.data, .slice SA c.sel.length sc] 41) by rw [← hw1]; exact heap_alloc_new w _)
 clear h
 have c10 := box_cell X.out 10 rfl
 obtain ⟨z, hz⟩ : ∃ z, zeroF c 3 = z := ⟨_, rfl⟩
 rw [hz]
 have hz' : (c.grace == 0) = z := hz
 clear hz
 cases z
 all_goals
  go_enter Tryz.func66, Tryz.ntmps66
  go_wp2_with fail
  go_ret
  exact ⟨rfl, B1.out⟩

set_option maxRecDepth 100000 in
theorem zero_4 (c : Cal) (LA : Option Addr) (lc : Nat) (IA : Option Addr) (ic : Nat) (MA : Option Addr) (mc : Nat) (SA : Option Addr) (sc : Nat) (w : World) (h : c.In w LA lc IA ic MA mc SA) :
 Calls Tryz.prog 66 #[.agg #[.int .i64 c.kind, .int .i64 c.uid, .int .u64 c.rev, .string c.spec.name, .slice LA c.spec.labels.length lc, .slice IA c.spec.init.length ic, .slice MA c.spec.main.length mc, .int .i64 c.spec.restart, .int .i64 c.spec.grace, .int .i64 c.spec.prio, .int .i64 c.grace, .int .i64 c.ctr, .int .i64 c.id, .int .i64 c.most, .string c.data, .slice SA c.sel.length sc], .int .i64 4] w fun e w' => e = .returned (.bool (zeroF c 4)) ∧ Below w.heap.size w w' := by
 have H := Lib.hid h
 obtain ⟨w1, hw1⟩ : ∃ v, w.alloc (.cells #[.int .i64 c.kind, .int .i64 c.uid, .int .u64 c.rev, .string c.spec.name, .slice LA c.spec.labels.length lc, .slice IA c.spec.init.length ic, .slice MA c.spec.main.length mc, .int .i64 c.spec.restart, .int .i64 c.spec.grace, .int .i64 c.spec.prio, .int .i64 c.grace, .int .i64 c.ctr, .int .i64 c.id, .int .i64 c.most, .string c.data, .slice SA c.sel.length sc] 41) = v := ⟨_, rfl⟩
 have B1 := Lib.hid (show Below w.heap.size w w1 by rw [← hw1]; exact (Below.refl _ _).alloc (Nat.le_refl _) _)
 have X := Lib.hid (show w1.heap[w.heap.size]? = some (.cells #[.int .i64 c.kind, .int .i64 c.uid, .int .u64 c.rev, .string c.spec.name, .slice LA c.spec.labels.length lc, .slice IA c.spec.init.length ic, .slice MA c.spec.main.length mc, .int .i64 c.spec.restart, .int .i64 c.spec.grace, .int .i64 c.spec.prio, .int .i64 c.grace, .int .i64 c.ctr, .int .i64 c.id, .int .i64 c.most, .string c.data, .slice SA c.sel.length sc] 41) by rw [← hw1]; exact heap_alloc_new w _)
 clear h
 have c11 := box_cell X.out 11 rfl
 obtain ⟨z, hz⟩ : ∃ z, zeroF c 4 = z := ⟨_, rfl⟩
 rw [hz]
 have hz' : (c.ctr == 0) = z := hz
 clear hz
 cases z
 all_goals
  go_enter Tryz.func66, Tryz.ntmps66
  go_wp2_with fail
  go_ret
  exact ⟨rfl, B1.out⟩

set_option maxRecDepth 100000 in
theorem zero_5 (c : Cal) (LA : Option Addr) (lc : Nat) (IA : Option Addr) (ic : Nat) (MA : Option Addr) (mc : Nat) (SA : Option Addr) (sc : Nat) (w : World) (h : c.In w LA lc IA ic MA mc SA) :
 Calls Tryz.prog 66 #[.agg #[.int .i64 c.kind, .int .i64 c.uid, .int .u64 c.rev, .string c.spec.name, .slice LA c.spec.labels.length lc, .slice IA c.spec.init.length ic, .slice MA c.spec.main.length mc, .int .i64 c.spec.restart, .int .i64 c.spec.grace, .int .i64 c.spec.prio, .int .i64 c.grace, .int .i64 c.ctr, .int .i64 c.id, .int .i64 c.most, .string c.data, .slice SA c.sel.length sc], .int .i64 5] w fun e w' => e = .returned (.bool (zeroF c 5)) ∧ Below w.heap.size w w' := by
 have H := Lib.hid h
 obtain ⟨w1, hw1⟩ : ∃ v, w.alloc (.cells #[.int .i64 c.kind, .int .i64 c.uid, .int .u64 c.rev, .string c.spec.name, .slice LA c.spec.labels.length lc, .slice IA c.spec.init.length ic, .slice MA c.spec.main.length mc, .int .i64 c.spec.restart, .int .i64 c.spec.grace, .int .i64 c.spec.prio, .int .i64 c.grace, .int .i64 c.ctr, .int .i64 c.id, .int .i64 c.most, .string c.data, .slice SA c.sel.length sc] 41) = v := ⟨_, rfl⟩
 have B1 := Lib.hid (show Below w.heap.size w w1 by rw [← hw1]; exact (Below.refl _ _).alloc (Nat.le_refl _) _)
 have X := Lib.hid (show w1.heap[w.heap.size]? = some (.cells #[.int .i64 c.kind, .int .i64 c.uid, .int .u64 c.rev, .string c.spec.name, .slice LA c.spec.labels.length lc, .slice IA c.spec.init.length ic, .slice MA c.spec.main.length mc, .int .i64 c.spec.restart, .int .i64 c.spec.grace, .int .i64 c.spec.prio, .int .i64 c.grace, .int .i64 c.ctr, .int .i64 c.id, .int .i64 c.most, .string c.data, .slice SA c.sel.length sc] 41) by rw [← hw1]; exact heap_alloc_new w _)
 clear h
 have c12 := box_cell X.out 12 rfl
 obtain ⟨z, hz⟩ : ∃ z, zeroF c 5 = z := ⟨_, rfl⟩
 rw [hz]
 have hz' : (c.id == 0) = z := hz
 clear hz
 cases z
 all_goals
  go_enter Tryz.func66, Tryz.ntmps66
  go_wp2_with fail
  go_ret
  exact ⟨rfl, B1.out⟩

set_option maxRecDepth 100000 in
theorem zero_6 (c : Cal) (LA : Option Addr) (lc : Nat) (IA : Option Addr) (ic : Nat) (MA : Option Addr) (mc : Nat) (SA : Option Addr) (sc : Nat) (w : World) (h : c.In w LA lc IA ic MA mc SA) :
 Calls Tryz.prog 66 #[.agg #[.int .i64 c.kind, .int .i64 c.uid, .int .u64 c.rev, .string c.spec.name, .slice LA c.spec.labels.length lc, .slice IA c.spec.init.length ic, .slice MA c.spec.main.length mc, .int .i64 c.spec.restart, .int .i64 c.spec.grace, .int .i64 c.spec.prio, .int .i64 c.grace, .int .i64 c.ctr, .int .i64 c.id, .int .i64 c.most, .string c.data, .slice SA c.sel.length sc], .int .i64 6] w fun e w' => e = .returned (.bool (zeroF c 6)) ∧ Below w.heap.size w w' := by
 have H := Lib.hid h
 obtain ⟨w1, hw1⟩ : ∃ v, w.alloc (.cells #[.int .i64 c.kind, .int .i64 c.uid, .int .u64 c.rev, .string c.spec.name, .slice LA c.spec.labels.length lc, .slice IA c.spec.init.length ic, .slice MA c.spec.main.length mc, .int .i64 c.spec.restart, .int .i64 c.spec.grace, .int .i64 c.spec.prio, .int .i64 c.grace, .int .i64 c.ctr, .int .i64 c.id, .int .i64 c.most, .string c.data, .slice SA c.sel.length sc] 41) = v := ⟨_, rfl⟩
 have B1 := Lib.hid (show Below w.heap.size w w1 by rw [← hw1]; exact (Below.refl _ _).alloc (Nat.le_refl _) _)
 have X := Lib.hid (show w1.heap[w.heap.size]? = some (.cells #[.int .i64 c.kind, .int .i64 c.uid, .int .u64 c.rev, .string c.spec.name, .slice LA c.spec.labels.length lc, .slice IA c.spec.init.length ic, .slice MA c.spec.main.length mc, .int .i64 c.spec.restart, .int .i64 c.spec.grace, .int .i64 c.spec.prio, .int .i64 c.grace, .int .i64 c.ctr, .int .i64 c.id, .int .i64 c.most, .string c.data, .slice SA c.sel.length sc] 41) by rw [← hw1]; exact heap_alloc_new w _)
 clear h
 have c14 := box_cell X.out 14 rfl
 by_cases hd : c.data = ⟨#[]⟩
 · have e1 : zeroF c 6 = true := by show decide (c.data = ⟨#[]⟩) = true; exact decide_eq_true hd
   rw [e1]
   have hd' : c.data.toList = [] := text_nil (by rw [hd]; rfl)
   clear e1 hd
   go_enter Tryz.func66, Tryz.ntmps66
   go_wp2_with fail
   go_ret
   exact ⟨rfl, B1.out⟩
 · have e1 : zeroF c 6 = false := by show decide (c.data = ⟨#[]⟩) = false; exact decide_eq_false hd
   rw [e1]
   have hd' : c.data.toList.isEmpty = false := text_some (fun h0 => hd (empty_of h0))
   clear e1
   go_enter Tryz.func66, Tryz.ntmps66
   go_wp2_with fail
   go_ret
   exact ⟨rfl, B1.out⟩

set_option maxRecDepth 100000 in
theorem zero_7 (c : Cal) (LA : Option Addr) (lc : Nat) (IA : Option Addr) (ic : Nat) (MA : Option Addr) (mc : Nat) (SA : Option Addr) (sc : Nat) (w : World) (h : c.In w LA lc IA ic MA mc SA) :
 Calls Tryz.prog 66 #[.agg #[.int .i64 c.kind, .int .i64 c.uid, .int .u64 c.rev, .string c.spec.name, .slice LA c.spec.labels.length lc, .slice IA c.spec.init.length ic, .slice MA c.spec.main.length mc, .int .i64 c.spec.restart, .int .i64 c.spec.grace, .int .i64 c.spec.prio, .int .i64 c.grace, .int .i64 c.ctr, .int .i64 c.id, .int .i64 c.most, .string c.data, .slice SA c.sel.length sc], .int .i64 7] w fun e w' => e = .returned (.bool (zeroF c 7)) ∧ Below w.heap.size w w' := by
 have H := Lib.hid h
 obtain ⟨w1, hw1⟩ : ∃ v, w.alloc (.cells #[.int .i64 c.kind, .int .i64 c.uid, .int .u64 c.rev, .string c.spec.name, .slice LA c.spec.labels.length lc, .slice IA c.spec.init.length ic, .slice MA c.spec.main.length mc, .int .i64 c.spec.restart, .int .i64 c.spec.grace, .int .i64 c.spec.prio, .int .i64 c.grace, .int .i64 c.ctr, .int .i64 c.id, .int .i64 c.most, .string c.data, .slice SA c.sel.length sc] 41) = v := ⟨_, rfl⟩
 have B1 := Lib.hid (show Below w.heap.size w w1 by rw [← hw1]; exact (Below.refl _ _).alloc (Nat.le_refl _) _)
 have X := Lib.hid (show w1.heap[w.heap.size]? = some (.cells #[.int .i64 c.kind, .int .i64 c.uid, .int .u64 c.rev, .string c.spec.name, .slice LA c.spec.labels.length lc, .slice IA c.spec.init.length ic, .slice MA c.spec.main.length mc, .int .i64 c.spec.restart, .int .i64 c.spec.grace, .int .i64 c.spec.prio, .int .i64 c.grace, .int .i64 c.ctr, .int .i64 c.id, .int .i64 c.most, .string c.data, .slice SA c.sel.length sc] 41) by rw [← hw1]; exact heap_alloc_new w _)
 clear h
 have c13 := box_cell X.out 13 rfl
 obtain ⟨z, hz⟩ : ∃ z, zeroF c 7 = z := ⟨_, rfl⟩
 rw [hz]
 have hz' : (c.most == 0) = z := hz
 clear hz
 cases z
 all_goals
  go_enter Tryz.func66, Tryz.ntmps66
  go_wp2_with fail
  go_ret
  exact ⟨rfl, B1.out⟩

set_option maxRecDepth 100000 in
theorem zero_8 (c : Cal) (LA : Option Addr) (lc : Nat) (IA : Option Addr) (ic : Nat) (MA : Option Addr) (mc : Nat) (SA : Option Addr) (sc : Nat) (w : World) (h : c.In w LA lc IA ic MA mc SA) :
 Calls Tryz.prog 66 #[.agg #[.int .i64 c.kind, .int .i64 c.uid, .int .u64 c.rev, .string c.spec.name, .slice LA c.spec.labels.length lc, .slice IA c.spec.init.length ic, .slice MA c.spec.main.length mc, .int .i64 c.spec.restart, .int .i64 c.spec.grace, .int .i64 c.spec.prio, .int .i64 c.grace, .int .i64 c.ctr, .int .i64 c.id, .int .i64 c.most, .string c.data, .slice SA c.sel.length sc], .int .i64 8] w fun e w' => e = .returned (.bool (zeroF c 8)) ∧ Below w.heap.size w w' := by
 have H := Lib.hid h
 obtain ⟨w1, hw1⟩ : ∃ v, w.alloc (.cells #[.int .i64 c.kind, .int .i64 c.uid, .int .u64 c.rev, .string c.spec.name, .slice LA c.spec.labels.length lc, .slice IA c.spec.init.length ic, .slice MA c.spec.main.length mc, .int .i64 c.spec.restart, .int .i64 c.spec.grace, .int .i64 c.spec.prio, .int .i64 c.grace, .int .i64 c.ctr, .int .i64 c.id, .int .i64 c.most, .string c.data, .slice SA c.sel.length sc] 41) = v := ⟨_, rfl⟩
 have B1 := Lib.hid (show Below w.heap.size w w1 by rw [← hw1]; exact (Below.refl _ _).alloc (Nat.le_refl _) _)
 have X := Lib.hid (show w1.heap[w.heap.size]? = some (.cells #[.int .i64 c.kind, .int .i64 c.uid, .int .u64 c.rev, .string c.spec.name, .slice LA c.spec.labels.length lc, .slice IA c.spec.init.length ic, .slice MA c.spec.main.length mc, .int .i64 c.spec.restart, .int .i64 c.spec.grace, .int .i64 c.spec.prio, .int .i64 c.grace, .int .i64 c.ctr, .int .i64 c.id, .int .i64 c.most, .string c.data, .slice SA c.sel.length sc] 41) by rw [← hw1]; exact heap_alloc_new w _)
 clear h
 have c15 := box_cell X.out 15 rfl
 by_cases hd : c.sel.length = 0
 · have e1 : zeroF c 8 = true := by show decide (c.sel.length = 0) = true; exact decide_eq_true hd
   rw [e1]
   have hd' : ((c.sel.length : Int) == 0) = true := by rw [beq_iff_eq]; omega
   clear e1 hd
   go_enter Tryz.func66, Tryz.ntmps66
   go_wp2_with fail
   go_ret
   exact ⟨rfl, B1.out⟩
 · have e1 : zeroF c 8 = false := by show decide (c.sel.length = 0) = false; exact decide_eq_false hd
   rw [e1]
   have hd' : ((c.sel.length : Int) == 0) = false := by rw [beq_eq_false_iff_ne]; omega
   clear e1
   go_enter Tryz.func66, Tryz.ntmps66
   go_wp2_with fail
   go_ret
   exact ⟨rfl, B1.out⟩

theorem zero_f (c : Cal) (LA : Option Addr) (lc : Nat) (IA : Option Addr) (ic : Nat) (MA : Option Addr) (mc : Nat) (SA : Option Addr) (sc : Nat) (f : Int) (hf : 0 ≤ f ∧ f < 9) (w : World) (h : c.In w LA lc IA ic MA mc SA) :
 Calls Tryz.prog 66 #[.agg #[.int .i64 c.kind, .int .i64 c.uid, .int .u64 c.rev, .string c.spec.name, .slice LA c.spec.labels.length lc, .slice IA c.spec.init.length ic, .slice MA c.spec.main.length mc, .int .i64 c.spec.restart, .int .i64 c.spec.grace, .int .i64 c.spec.prio, .int .i64 c.grace, .int .i64 c.ctr, .int .i64 c.id, .int .i64 c.most, .string c.data, .slice SA c.sel.length sc], .int .i64 f] w fun e w' => e = .returned (.bool (zeroF c f)) ∧ Below w.heap.size w w' := by
 rcases nine f with rfl | rfl | rfl | rfl | rfl | rfl | rfl | rfl | rfl | ⟨h0, h1, h2, h3, h4, h5, h6, h7, h8⟩
 · exact zero_0 c LA lc IA ic MA mc SA sc w h
 · exact zero_1 c LA lc IA ic MA mc SA sc w h
 · exact zero_2 c LA lc IA ic MA mc SA sc w h
 · exact zero_3 c LA lc IA ic MA mc SA sc w h
 · exact zero_4 c LA lc IA ic MA mc SA sc w h
 · exact zero_5 c LA lc IA ic MA mc SA sc w h
 · exact zero_6 c LA lc IA ic MA mc SA sc w h
 · exact zero_7 c LA lc IA ic MA mc SA sc w h
 · exact zero_8 c LA lc IA ic MA mc SA sc w h
 · omega

theorem index_fields (z : Int) (A : Option Addr) (c : Nat) (P : List Int) (hn : P.length ≤ 9223372036854775807) (w : World) (h : ∀ (k : Nat) (x : Int), P[k]? = some x → ∃ a, A = some a ∧ w.cell? (a.add k) = some (.int .i64 x)) :
 Calls Tryz.prog 128 #[.slice A P.length c, .int .i64 z] w fun e w' => e = .returned (.int .i64 (idxN (fun y => z == y) 0 P)) ∧ w = w' := by
 have H := Lib.hid h
 clear h
 have hn' : (P.length : Int) ≤ 9223372036854775807 := by omega
 obtain ⟨R, hR⟩ : ∃ R, idxN (fun y => z == y) 0 P = R := ⟨_, rfl⟩
 rw [hR]
 have HR := Lib.hid hR
 clear hR
 go_enter Tryz.func128, Tryz.ntmps128
 go_wp2
 go_loop [8] (fun i => ∃ k : Nat, k ≤ P.length ∧ i = .int .i64 k ∧ Hid (R = idxN (fun y => z == y) k (P.drop k))) (fun i => P.length - (RowKit.intOf i).toNat)
 case atStart => exact ⟨0, Nat.zero_le _, rfl, by unfold Hid; rw [← HR.out, List.drop_zero]⟩
 case round =>
  obtain ⟨k, hk, rfl, HK⟩ := hrel
  by_cases hlt : k < P.length
  · obtain ⟨a, rfl, hc⟩ := H.out k P[k] (List.getElem?_eq_getElem hlt)
    have HD := Lib.hid (List.drop_eq_getElem_cons hlt)
    obtain ⟨x, hx⟩ : ∃ x, P[k] = x := ⟨_, rfl⟩
    rw [hx] at hc
    have HX := Lib.hid hx
    have hkn : (k : Int) < (P.length : Int) := by omega
    clear hx
    cases hq : (z == x) with
    | true =>
     have HE := Lib.hid (show R = (k : Int) by rw [HK.out, HD.out, HX.out, idxN, if_pos hq])
     go_wp2
     go_ret
     exact ⟨by rw [HE.out]; rfl, rfl⟩
    | false =>
     have HE := Lib.hid (show R = idxN (fun y => z == y) (k + 1) (P.drop (k + 1)) by rw [HK.out, HD.out, HX.out, idxN, if_neg (by rw [hq]; simp)])
     go_wp2
     go_round
     case rel => exact ⟨k + 1, by omega, by go_num, HE.out⟩
     case measure => simp [RowKit.intOf]; omega
  · have HE := Lib.hid (show R = -1 by rw [HK.out, List.drop_eq_nil_of_le (by omega)]; rfl)
    go_wp2
    go_ret
    exact ⟨by rw [HE.out]; rfl, rfl⟩

theorem contains_fields (z : Int) (A : Option Addr) (c : Nat) (P : List Int) (hn : P.length ≤ 9223372036854775807) (w : World) (h : ∀ (k : Nat) (x : Int), P[k]? = some x → ∃ a, A = some a ∧ w.cell? (a.add k) = some (.int .i64 x)) :
 Calls Tryz.prog 65 #[.slice A P.length c, .int .i64 z] w fun e w' => e = .returned (.bool (P.contains z)) ∧ w = w' := by
 have hcm : P.contains z = P.any fun y => z == y := by
  rw [List.contains_eq_any_beq]
 rw [hcm]
 have H := Lib.hid h
 clear h hcm
 obtain ⟨b, hb⟩ : ∃ b, (P.any fun y => z == y) = b := ⟨_, rfl⟩
 rw [hb]
 obtain ⟨y, hy⟩ : ∃ y, idxN (fun y => z == y) 0 P = y := ⟨_, rfl⟩
 have HZ := Lib.hid hy
 cases b with
 | true =>
  have h0 : 0 ≤ y := hy ▸ idxN_some _ P 0 hb
  clear hb hy
  go_enter Tryz.func65, Tryz.ntmps65
  go_wp2_with fail
  refine (index_fields z A c P hn _ H.out).mono ?_
  rw [HZ.out]
  rintro e w1 ⟨rfl, rfl⟩
  go_wp2
  go_ret
  exact ⟨rfl, rfl⟩
 | false =>
  obtain rfl : -1 = y := hy ▸ (idxN_none _ P 0 hb).symm
  clear hb hy
  go_enter Tryz.func65, Tryz.ntmps65
  go_wp2_with fail
  refine (index_fields z A c P hn _ H.out).mono ?_
  rw [HZ.out]
  rintro e w1 ⟨rfl, rfl⟩
  go_wp2
  go_ret
  exact ⟨rfl, rfl⟩
set_option maxRecDepth 100000 in
theorem name_any (k : Int) (w : World) (hL : Laid w) :
 Calls Tryz.prog 61 #[.int .i64 k] w fun e w' => e = .returned (.string (nameV k)) ∧ w = w' := by
 by_cases h0 : k < 0
 · have e1 : nameV k = ⟨#[]⟩ := by unfold nameV; rw [if_pos (.inl h0)]
   rw [e1]
   go_enter Tryz.func61, Tryz.ntmps61
   go_wp2_with fail
   go_ret
   exact ⟨rfl, rfl⟩
 · by_cases h1 : 13 ≤ k
   · have e1 : nameV k = ⟨#[]⟩ := by unfold nameV; rw [if_pos (.inr h1)]
     rw [e1]
     go_enter Tryz.func61, Tryz.ntmps61
     go_wp2_with fail
     go_ret
     exact ⟨rfl, rfl⟩
   · have e1 : nameV k = nameT k.toNat := by unfold nameV; rw [if_neg (by omega)]
     rw [e1]
     obtain ⟨n, rfl⟩ := Int.eq_ofNat_of_zero_le (show 0 ≤ k by omega)
     have hn : (n : Int) < 13 := by omega
     have hc := hL.names n (by omega)
     simp only [Int.toNat_natCast]
     clear e1 h0 h1
     go_enter Tryz.func61, Tryz.ntmps61
     go_wp2_with fail
     go_ret
     exact ⟨rfl, rfl⟩

set_option maxRecDepth 100000 in
set_option maxHeartbeats 2000000 in
theorem checkC_any (c : Cal) (LA : Option Addr) (lc : Nat) (IA : Option Addr) (ic : Nat) (MA : Option Addr) (mc : Nat) (SA : Option Addr) (sc : Nat) (hLt : LightC c) (w : World) (hL : Laid w) (h : c.In w LA lc IA ic MA mc SA) :
 Calls Tryz.prog 21 #[.agg #[.int .i64 c.kind, .int .i64 c.uid, .int .u64 c.rev, .string c.spec.name, .slice LA c.spec.labels.length lc, .slice IA c.spec.init.length ic, .slice MA c.spec.main.length mc, .int .i64 c.spec.restart, .int .i64 c.spec.grace, .int .i64 c.spec.prio, .int .i64 c.grace, .int .i64 c.ctr, .int .i64 c.id, .int .i64 c.most, .string c.data, .slice SA c.sel.length sc]] w (TellsA (checkC c) w) := by
 have H := Lib.hid h
 have HL := Lib.hid hL
 have HLT := Lib.hid hLt
 obtain ⟨w1, hw1⟩ : ∃ v, w.alloc (.cells #[.int .i64 c.kind, .int .i64 c.uid, .int .u64 c.rev, .string c.spec.name, .slice LA c.spec.labels.length lc, .slice IA c.spec.init.length ic, .slice MA c.spec.main.length mc, .int .i64 c.spec.restart, .int .i64 c.spec.grace, .int .i64 c.spec.prio, .int .i64 c.grace, .int .i64 c.ctr, .int .i64 c.id, .int .i64 c.most, .string c.data, .slice SA c.sel.length sc] 41) = v := ⟨_, rfl⟩
 have B1 := Lib.hid (show Below w.heap.size w w1 by rw [← hw1]; exact (Below.refl _ _).alloc (Nat.le_refl _) _)
 have X := Lib.hid (show w1.heap[w.heap.size]? = some (.cells #[.int .i64 c.kind, .int .i64 c.uid, .int .u64 c.rev, .string c.spec.name, .slice LA c.spec.labels.length lc, .slice IA c.spec.init.length ic, .slice MA c.spec.main.length mc, .int .i64 c.spec.restart, .int .i64 c.spec.grace, .int .i64 c.spec.prio, .int .i64 c.grace, .int .i64 c.ctr, .int .i64 c.id, .int .i64 c.most, .string c.data, .slice SA c.sel.length sc] 41) by rw [← hw1]; exact heap_alloc_new w _)
 clear h hL hLt
 have c0 := box_cell X.out 0 rfl
 go_enter Tryz.func21, Tryz.ntmps21
 go_wp2_with fail
 refine (name_any c.kind w1 (HL.out.below B1.out)).mono ?_
 rintro e w2 ⟨rfl, rfl⟩
 by_cases hk : c.kind < 1 ∨ 12 < c.kind
 · have hn := (name_nil c.kind).2 hk
   have e1 : checkC c = newV 80 a_kind := by unfold checkC; rw [if_pos hk]; rfl
   have HCE := Lib.hid e1
   rw [hn]
   clear e1 hn
   go_wp2_with fail
   refine (new_says 80 a_kind w1.heap.size 1 _ (by decide) (box_cell (heap_alloc_new w1 _) 0 rfl)).mono ?_
   rintro e w2 ⟨E, rfl, hE, hb⟩
   have HE := Lib.hid (says_d hE)
   have HB := Lib.hid ((B1.out.alloc B1.out.size (.cells #[.string a_kind] 9)).trans (hb.mono (by have := B1.out.size; simp; omega)))
   clear hE hb
   go_wp2
   go_ret
   exact ⟨E, rfl, by rw [HCE.out]; exact HE.out, HB.out⟩
 · have hne : nameV c.kind ≠ ⟨#[]⟩ := fun h => hk ((name_nil c.kind).1 h)
   obtain ⟨nm, hnm⟩ : ∃ s, nameV c.kind = s := ⟨_, rfl⟩
   rw [hnm] at hne ⊢
   have hne' : nm.toList.isEmpty = false := text_some (fun h0 => hne (empty_of h0))
   have HK := Lib.hid hk
   clear hne hnm hk
   go_wp2_with fail
   refine (fields_any c.kind w1).mono ?_
   rintro e w2 ⟨OA, oc, rfl, hon, hof, hoc, hb2⟩
   have ON := Lib.hid hon
   have B2 := Lib.hid (B1.out.trans (hb2.mono B1.out.size))
   have X2 := Lib.hid ((hb2.block w.heap.size (lt_of_block X.out)).trans X.out)
   have HFL := Lib.hid (fields_lt c.kind)
   have hlen3 := fields_len c.kind
   obtain ⟨fl, hfl⟩ : ∃ l, fieldsV c.kind = l := ⟨_, rfl⟩
   have HFV := Lib.hid hfl
   rw [hfl] at ON HFL hlen3 ⊢
   clear hon hof hoc hb2 X hfl c0
   have hlen3' : (fl.length : Int) ≤ 3 := by omega
   go_wp2_with fail
   go_loopw [19] (fun i wi => ∃ j : Nat, j ≤ fl.length ∧ i = .int .i64 j ∧ Hid (fieldsFrom c fl = fieldsFrom c (fl.drop j)) ∧ Hid (Below w.heap.size w wi) ∧ Hid (wi.heap[w.heap.size]? = some (.cells #[.int .i64 c.kind, .int .i64 c.uid, .int .u64 c.rev, .string c.spec.name, .slice LA c.spec.labels.length lc, .slice IA c.spec.init.length ic, .slice MA c.spec.main.length mc, .int .i64 c.spec.restart, .int .i64 c.spec.grace, .int .i64 c.spec.prio, .int .i64 c.grace, .int .i64 c.ctr, .int .i64 c.id, .int .i64 c.most, .string c.data, .slice SA c.sel.length sc] 41 (0, 0))) ∧ Hid (Lists.Nums .i64 wi OA fl)) (fun i _ => fl.length - (RowKit.intOf i).toNat)
   case atStart => exact ⟨0, Nat.zero_le _, rfl, rfl, B2.out, X2.out, ON.out⟩
   case round =>
    clear B2 X2 ON
    obtain ⟨j, hj, rfl, HF, B, X, ON⟩ := hrel
    by_cases hlt : j < fl.length
    · have hlt' : (j : Int) < (fl.length : Int) := by omega
      obtain ⟨f, hf⟩ : ∃ f, fl[j] = f := ⟨_, rfl⟩
      have hfj : fl[j]? = some f := by rw [List.getElem?_eq_getElem hlt, hf]
      obtain ⟨hwf, oa, hoa, hol, hocell⟩ := ON.out j f hfj
      subst hoa
      have HDR := Lib.hid (show fl.drop j = f :: fl.drop (j + 1) by rw [List.drop_eq_getElem_cons hlt, hf])
      have hf9 := HFL.out f (List.mem_of_getElem? hfj)
      have c0 := box_cell X.out 0 rfl
      have c1 := box_cell X.out 1 rfl
      have c2 := box_cell X.out 2 rfl
      have c3 := box_cell X.out 3 rfl
      have c4 := box_cell X.out 4 rfl
      have c5 := box_cell X.out 5 rfl
      have c6 := box_cell X.out 6 rfl
      have c7 := box_cell X.out 7 rfl
      have c8 := box_cell X.out 8 rfl
      have c9 := box_cell X.out 9 rfl
      have c10 := box_cell X.out 10 rfl
      have c11 := box_cell X.out 11 rfl
      have c12 := box_cell X.out 12 rfl
      have c13 := box_cell X.out 13 rfl
      have c14 := box_cell X.out 14 rfl
      have c15 := box_cell X.out 15 rfl
      clear hf hfj hwf
      go_wp2_with fail
      refine (check_f c LA lc IA ic MA mc SA sc HLT.out f hf9 wr (HL.out.spec.below B.out) (H.out.below B.out)).mono ?_
      rintro e w3 ⟨E, rfl, hE, hb⟩
      have HE := Lib.hid hE
      have B3 := Lib.hid (B.out.trans (hb.mono B.out.size))
      have X3 := Lib.hid ((hb.block w.heap.size (lt_of_block X.out)).trans X.out)
      have ON3 := Lib.hid (Sd.Nums.below ON.out hb)
      clear hE hb hocell hol c0 c1 c2 c3 c4 c5 c6 c7 c8 c9 c10 c11 c12 c13 c14 c15
      rcases HE.out.form with rfl | ⟨eu, ex, rfl⟩
      · have HZ := Lib.hid (HE.out.nil_iff.1 rfl)
        go_wp2
        go_roundw
        case rel => exact ⟨j + 1, by omega, by go_num, by unfold Hid; rw [HF.out, HDR.out, fieldsFrom, if_neg (by simpa using HZ.out)], B3.out, X3.out, ON3.out⟩
        case measure => simp [RowKit.intOf]; omega
      · have HNZ := Lib.hid (show (checkF c f).1 ≠ 0 from fun h0 => by have := HE.out.nil_iff.2 h0; cases this)
        have HCE := Lib.hid (show checkC c = checkF c f by
         have hff : fieldsFrom c (fieldsV c.kind) = checkF c f := by rw [HFV.out, HF.out, HDR.out, fieldsFrom, if_pos HNZ.out]
         unfold checkC
         rw [if_neg HK.out, hff, if_pos HNZ.out])
        go_wp2
        go_ret
        exact ⟨_, rfl, by rw [HCE.out]; exact HE.out, B3.out⟩
    · obtain rfl : j = fl.length := by omega
      have hlt' : ¬ (fl.length : Int) < (fl.length : Int) := by omega
      have HF0 := Lib.hid (show fieldsFrom c (fieldsV c.kind) = fine by rw [HFV.out, HF.out, List.drop_length]; rfl)
      clear HF
      go_wp2_with fail
      go_loopw [30] (fun i wi => ∃ m : Nat, m ≤ 9 ∧ i = .int .i64 m ∧ Hid (othersFrom c 0 9 = othersFrom c m (9 - m)) ∧ Hid (Below w.heap.size w wi) ∧ Hid (wi.heap[w.heap.size]? = some (.cells #[.int .i64 c.kind, .int .i64 c.uid, .int .u64 c.rev, .string c.spec.name, .slice LA c.spec.labels.length lc, .slice IA c.spec.init.length ic, .slice MA c.spec.main.length mc, .int .i64 c.spec.restart, .int .i64 c.spec.grace, .int .i64 c.spec.prio, .int .i64 c.grace, .int .i64 c.ctr, .int .i64 c.id, .int .i64 c.most, .string c.data, .slice SA c.sel.length sc] 41 (0, 0))) ∧ Hid (Lists.Nums .i64 wi OA fl)) (fun i _ => 9 - (RowKit.intOf i).toNat)
      case atStart => exact ⟨0, Nat.zero_le _, rfl, rfl, B.out, X.out, ON.out⟩
      case round =>
       clear B X ON
       obtain ⟨m, hm, rfl, HO, B, X, ON⟩ := hrel
       have hm9 : (m : Int) ≤ 9 := by omega
       by_cases hlt2 : m < 9
       · have hlt2' : (m : Int) < 9 := by omega
         have HST := Lib.hid (show othersFrom c m (9 - m) = if (!(fieldsV c.kind).contains (m : Int) && !zeroF c m) = true then false else othersFrom c (m + 1) (9 - (m + 1)) by
          rw [show 9 - m = (9 - (m + 1)) + 1 by omega, othersFrom])
         rw [HFV.out] at HST
         go_wp2_with fail
         refine (contains_fields (m : Int) OA oc fl (by omega) wr (fun k x hk => by obtain ⟨_, a, ha, _, hc⟩ := ON.out k x hk; exact ⟨a, ha, hc⟩)).mono ?_
         rintro e w3 ⟨rfl, rfl⟩
         obtain ⟨bb, hbb⟩ : ∃ z, fl.contains (m : Int) = z := ⟨_, rfl⟩
         rw [hbb] at HST ⊢
         clear hbb
         cases bb with
         | true =>
          go_wp2
          go_roundw
          case rel => exact ⟨m + 1, by omega, by go_num, by unfold Hid; rw [HO.out, HST.out, if_neg (by simp)], B.out, X.out, ON.out⟩
          case measure => simp [RowKit.intOf]; omega
         | false =>
          have c0 := box_cell X.out 0 rfl
          have c1 := box_cell X.out 1 rfl
          have c2 := box_cell X.out 2 rfl
          have c3 := box_cell X.out 3 rfl
          have c4 := box_cell X.out 4 rfl
          have c5 := box_cell X.out 5 rfl
          have c6 := box_cell X.out 6 rfl
          have c7 := box_cell X.out 7 rfl
          have c8 := box_cell X.out 8 rfl
          have c9 := box_cell X.out 9 rfl
          have c10 := box_cell X.out 10 rfl
          have c11 := box_cell X.out 11 rfl
          have c12 := box_cell X.out 12 rfl
          have c13 := box_cell X.out 13 rfl
          have c14 := box_cell X.out 14 rfl
          have c15 := box_cell X.out 15 rfl
          go_wp2_with fail
          refine (zero_f c LA lc IA ic MA mc SA sc (m : Int) (by omega) wr (H.out.below B.out)).mono ?_
          rintro e w4 ⟨rfl, hb⟩
          have B4 := Lib.hid (B.out.trans (hb.mono B.out.size))
          have X4 := Lib.hid ((hb.block w.heap.size (lt_of_block X.out)).trans X.out)
          have ON4 := Lib.hid (Sd.Nums.below ON.out hb)
          clear hb c0 c1 c2 c3 c4 c5 c6 c7 c8 c9 c10 c11 c12 c13 c14 c15
          obtain ⟨zz, hzz⟩ : ∃ z, zeroF c (m : Int) = z := ⟨_, rfl⟩
          rw [hzz] at HST ⊢
          clear hzz
          cases zz with
          | true =>
           go_wp2
           go_roundw
           case rel => exact ⟨m + 1, by omega, by go_num, by unfold Hid; rw [HO.out, HST.out, if_neg (by simp)], B4.out, X4.out, ON4.out⟩
           case measure => simp [RowKit.intOf]; omega
          | false =>
           have HCE := Lib.hid (show checkC c = newV 4 a_call by
            unfold checkC
            rw [if_neg HK.out, HF0.out, if_neg (by simp [fine]), HO.out, HST.out, if_pos (by simp)]; rfl)
           go_wp2_with fail
           refine (new_says 4 a_call w4.heap.size 1 _ (by decide) (box_cell (heap_alloc_new w4 _) 0 rfl)).mono ?_
           rintro e w5 ⟨E, rfl, hE, hb⟩
           have HE := Lib.hid (says_d hE)
           have HB := Lib.hid ((B4.out.alloc B4.out.size (.cells #[.string a_call] 9)).trans (hb.mono (by have := B4.out.size; simp; omega)))
           clear hE hb
           go_wp2
           go_ret
           exact ⟨E, rfl, by rw [HCE.out]; exact HE.out, HB.out⟩
       · obtain rfl : m = 9 := by omega
         have HCE := Lib.hid (show checkC c = fine by
          unfold checkC
          rw [if_neg HK.out, HF0.out, if_neg (by simp [fine]), HO.out, if_neg (by simp [othersFrom])])
         go_wp2
         go_ret
         exact ⟨_, rfl, by rw [HCE.out]; exact .inl ⟨rfl, rfl⟩, B.out⟩
end Ak
end Go.Proofs.YtakdhkhcndeiiaaGreatDoor

set_option linter.unusedVariables false
set_option linter.unusedSimpArgs false
namespace Go.Proofs.YtakdhkhcndeiiaaGreatDoor
open Go.ChangeShapes Go.WideShapes Go.ChangeAt Go.RowKit Go.Lib
open LebMath WirePure Sd Wire SpecOwn SpecRef Book Pk
namespace Ak

def CallAt (b B : Nat) (c : Cal) (w : World) : Prop := ∃ (LA : Option Addr) (lc : Nat) (IA : Option Addr) (ic : Nat) (MA : Option Addr) (mc : Nat) (SA : Option Addr) (sc : Nat), w.heap[b]? = some (.cells #[.int .i64 c.kind, .int .i64 c.uid, .int .u64 c.rev, .string c.spec.name, .slice LA c.spec.labels.length lc, .slice IA c.spec.init.length ic, .slice MA c.spec.main.length mc, .int .i64 c.spec.restart, .int .i64 c.spec.grace, .int .i64 c.spec.prio, .int .i64 c.grace, .int .i64 c.ctr, .int .i64 c.id, .int .i64 c.most, .string c.data, .slice SA c.sel.length sc] 41 (0, 0)) ∧ SpcUp B c.spec w LA IA MA ∧ Lbls w SA c.sel ∧ From B SA ∧ c.rev < 18446744073709551616 ∧ LightC c
structure Two (g b : Nat) (w v : World) : Prop where
 os : v.os = w.os
 tape : v.tape = w.tape
 output : v.output = w.output
 size : w.heap.size ≤ v.heap.size
 block : ∀ i, i < w.heap.size → i ≠ g → i ≠ b → v.heap[i]? = w.heap[i]?
theorem Two.refl (g b : Nat) (w : World) : Two g b w w := ⟨rfl, rfl, rfl, Nat.le_refl _, fun _ _ _ _ => rfl⟩
theorem Two.trans {g b : Nat} {u w v : World} (h : Two g b u w) (k : Two g b w v) : Two g b u v :=
 ⟨k.os.trans h.os, k.tape.trans h.tape, k.output.trans h.output, Nat.le_trans h.size k.size, fun i h1 h2 h3 => (k.block i (Nat.lt_of_lt_of_le h1 h.size) h2 h3).trans (h.block i h1 h2 h3)⟩
theorem Two.of_aside {g b : Nat} {w v : World} (h : Wire.Aside g w v) : Two g b w v := ⟨h.os, h.tape, h.output, h.size, fun i h1 h2 _ => h.block i ⟨h1, h2⟩⟩
theorem Two.of_only {g b : Nat} {w v : World} (h : Only b w v) : Two g b w v := ⟨h.os, h.tape, h.output, h.size, fun i _ _ h3 => h.block i h3⟩
theorem Two.of_below {g b : Nat} {w v : World} (h : Below w.heap.size w v) : Two g b w v := ⟨h.os, h.tape, h.output, h.size, fun i h1 _ _ => h.block i h1⟩
theorem Two.below {g b B : Nat} {w0 w v : World} (h : Two g b w v) (h0 : Below B w0 w) (hB : B ≤ w.heap.size) (hg : B ≤ g) (hb : B ≤ b) : Below B w0 v :=
 { os := h.os.trans h0.os, tape := h.tape.trans h0.tape, output := h.output.trans h0.output, size := Nat.le_trans h0.size h.size, block := fun i hi => (h.block i (by omega) (by omega) (by omega)).trans (h0.block i hi) }
theorem spc_less {B B' : Nat} {S : Spc} {w : World} {LA IA MA : Option Addr} (h : SpcUp B S w LA IA MA) (hB : B' ≤ B) : SpcUp B' S w LA IA MA :=
 ⟨h.labels, fun a ha => Nat.le_trans hB (h.lfrom a ha), h.init.less hB, h.main.less hB, h.nums⟩
theorem CallAt.below {b B : Nat} {c : Cal} {w v : World} (h : CallAt b B c w) (hb : Below w.heap.size w v) : CallAt b B c v := by
 obtain ⟨LA, lc, IA, ic, MA, mc, SA, sc, h1, h2, h3, h4, h5⟩ := h
 exact ⟨LA, lc, IA, ic, MA, mc, SA, sc, (hb.block b (lt_of_block h1)).trans h1, h2.below hb, h3.below hb, h4, h5⟩
theorem CallAt.aside {b B g : Nat} {c : Cal} {w v : World} (h : CallAt b B c w) (hk : Wire.Aside g w v) (hg : g < B) (hne : g ≠ b) : CallAt b B c v := by
 obtain ⟨LA, lc, IA, ic, MA, mc, SA, sc, h1, h2, h3, h4, h5⟩ := h
 exact ⟨LA, lc, IA, ic, MA, mc, SA, sc, (hk.block b ⟨lt_of_block h1, fun e => hne e.symm⟩).trans h1, h2.aside hg hk, lbls_aside h3 h4 hg hk, h4, h5⟩
theorem light_spec {c : Cal} (h : LightC c) {S : Spc} (hS : specC.ok S) : LightC { c with spec := S } := ⟨spec_light hS, h.sel, h.data⟩
theorem light_sel {c : Cal} (h : LightC c) {l : List Lbl} (hl : labelsC.ok l) : LightC { c with sel := l } := by
 obtain ⟨h1, h2⟩ := (show l.length ≤ 4 ∧ ∀ x ∈ l, labelC.ok x from hl)
 exact ⟨h.spec, ⟨by show l.length ≤ 10; omega, fun x hx => by
  obtain ⟨⟨p1, p2⟩, _⟩ := h2 x hx
  have q1 : x.key.size ≤ 33 := p1
  have q2 : x.val.size ≤ 16 := p2
  omega⟩, h.data⟩
theorem light_data {c : Cal} (h : LightC c) {s : ByteArray} (hs : dataC.ok s) : LightC { c with data := s } :=
 ⟨h.spec, h.sel, by have : s.size ≤ 32 := hs; show s.size < 300; omega⟩

set_option maxRecDepth 100000 in
theorem take_0 (g b B : Nat) (hgb : g ≠ b) (hgB : g < B) (hbB : b < B) (e : Int) (l : List UInt8) (hl : Few l) (c : Cal) (w : World) (hBw : B ≤ w.heap.size) (h : Rd w g e l) (hc : CallAt b B c w) :
 Calls Tryz.prog 83 #[.pointer (some ⟨g, 0, none⟩), .pointer (some ⟨b, 0, none⟩), .int .i64 0] w (fun r w' => r = .returned (.tuple #[]) ∧ Rd w' g (rdF 0 c e l).2.1 (rdF 0 c e l).2.2 ∧ CallAt b B (rdF 0 c e l).1 w' ∧ Two g b w w') := by
 obtain ⟨LA, lc, IA, ic, MA, mc, SA, sc, hX, hU, hS, hF, hR, hLt⟩ := hc
 obtain ⟨⟨x, e1, l1⟩, hq⟩ : ∃ t, uidC.rd e l = t := ⟨_, rfl⟩
 have hok := uidC.okay e l
 rw [hq] at hok
 have HOK := Lib.hid hok
 have HQ := Lib.hid hq
 have HFL := Lib.hid hl
 have H := Lib.hid h
 have X := Lib.hid hX
 have U := Lib.hid hU
 have SL := Lib.hid hS
 have SF := Lib.hid hF
 have HR := Lib.hid hR
 have HLT := Lib.hid hLt
 have HBW := Lib.hid hBw
 clear hq hok hl h hX hU hS hF hR hLt hBw
 go_enter Tryz.func83, Tryz.ntmps83
 go_wp2_with fail
 refine (num_rd g 1073741824 1073741824 (by decide) (by decide) (by decide) e l HFL.out x e1 l1 HQ.out w H.out).mono ?_
 rintro r w2 ⟨rfl, h2, k2⟩
 have H2 := Lib.hid h2
 have K2 := Lib.hid k2
 have X2 := Lib.hid ((k2.block b ⟨lt_of_block X.out, fun e => hgb e.symm⟩).trans X.out)
 have U2 := Lib.hid (U.out.aside hgB k2)
 have SL2 := Lib.hid (lbls_aside SL.out SF.out hgB k2)
 clear h2 k2
 have sc0 := box_cell X2.out 1 rfl
 have sf0 := box_free X2.out 1
 have Z0 := Lib.hid (box_set X2.out 1 (.int .i64 x) (B := #[.int .i64 c.kind, .int .i64 x, .int .u64 c.rev, .string c.spec.name, .slice LA c.spec.labels.length lc, .slice IA c.spec.init.length ic, .slice MA c.spec.main.length mc, .int .i64 c.spec.restart, .int .i64 c.spec.grace, .int .i64 c.spec.prio, .int .i64 c.grace, .int .i64 c.ctr, .int .i64 c.id, .int .i64 c.most, .string c.data, .slice SA c.sel.length sc]) rfl)
 obtain ⟨v0, hv0⟩ : ∃ v, w2.setCell ⟨b, 1, none⟩ (.int .i64 x) = v := ⟨_, rfl⟩
 rw [hv0] at Z0
 have on0 : Only b w2 v0 := by rw [← hv0]; exact (Only.refl b w2).set 1 _
 have ON := Lib.hid on0
 clear on0
 go_wp2
 first
 | go_end0
 | refine bodyPost_ret (results_none rfl _ _ _) rfl ?_
 have hrd : rdF 0 c e l = (({ c with uid := x } : Cal), e1, l1) := by
  show (({ c with uid := (uidC.rd e l).1 } : Cal), (uidC.rd e l).2) = _
  rw [HQ.out]
 rw [hrd]
 refine ⟨rfl, ON.out.rd H2.out hgb, ?_, (Two.of_aside K2.out).trans (Two.of_only ON.out)⟩
 exact ⟨LA, lc, IA, ic, MA, mc, SA, sc, Z0.out, ⟨ON.out.lbls U2.out.labels (fun a ha => by have := U2.out.lfrom a ha; omega), U2.out.lfrom, ON.out.up U2.out.init hbB, ON.out.up U2.out.main hbB, U2.out.nums⟩, ON.out.lbls SL2.out (fun a ha => by have := SF.out a ha; omega), SF.out, HR.out, ⟨HLT.out.spec, HLT.out.sel, HLT.out.data⟩⟩

set_option maxRecDepth 100000 in
theorem take_1 (g b B : Nat) (hgb : g ≠ b) (hgB : g < B) (hbB : b < B) (e : Int) (l : List UInt8) (hl : Few l) (c : Cal) (w : World) (hBw : B ≤ w.heap.size) (h : Rd w g e l) (hc : CallAt b B c w) :
 Calls Tryz.prog 83 #[.pointer (some ⟨g, 0, none⟩), .pointer (some ⟨b, 0, none⟩), .int .i64 1] w (fun r w' => r = .returned (.tuple #[]) ∧ Rd w' g (rdF 1 c e l).2.1 (rdF 1 c e l).2.2 ∧ CallAt b B (rdF 1 c e l).1 w' ∧ Two g b w w') := by
 obtain ⟨LA, lc, IA, ic, MA, mc, SA, sc, hX, hU, hS, hF, hR, hLt⟩ := hc
 obtain ⟨⟨x, e1, l1⟩, hq⟩ : ∃ t, revC.rd e l = t := ⟨_, rfl⟩
 have hok := revC.okay e l
 rw [hq] at hok
 have HOK := Lib.hid hok
 have HQ := Lib.hid hq
 have HFL := Lib.hid hl
 have H := Lib.hid h
 have X := Lib.hid hX
 have U := Lib.hid hU
 have SL := Lib.hid hS
 have SF := Lib.hid hF
 have HR := Lib.hid hR
 have HLT := Lib.hid hLt
 have HBW := Lib.hid hBw
 clear hq hok hl h hX hU hS hF hR hLt hBw
 go_enter Tryz.func83, Tryz.ntmps83
 go_wp2_with fail
 refine (rbig_any g e l (by have := HFL.out; unfold Few at this; unfold maxLen; omega) w H.out).mono ?_
 rintro r w2 ⟨rfl, h2, k2⟩
 have hq3 : (numV 18446744073709551615 e l, numE 18446744073709551615 e l, numL 18446744073709551615 e l) = (x, e1, l1) := HQ.out
 injection hq3 with hq4 hq5
 injection hq5 with hq5 hq6
 rw [hq5, hq6] at h2
 rw [hq4]
 clear hq4 hq5 hq6
 have H2 := Lib.hid h2
 have K2 := Lib.hid k2
 have X2 := Lib.hid ((k2.block b ⟨lt_of_block X.out, fun e => hgb e.symm⟩).trans X.out)
 have U2 := Lib.hid (U.out.aside hgB k2)
 have SL2 := Lib.hid (lbls_aside SL.out SF.out hgB k2)
 clear h2 k2
 have sc0 := box_cell X2.out 2 rfl
 have sf0 := box_free X2.out 2
 have Z0 := Lib.hid (box_set X2.out 2 (.int .u64 x) (B := #[.int .i64 c.kind, .int .i64 c.uid, .int .u64 x, .string c.spec.name, .slice LA c.spec.labels.length lc, .slice IA c.spec.init.length ic, .slice MA c.spec.main.length mc, .int .i64 c.spec.restart, .int .i64 c.spec.grace, .int .i64 c.spec.prio, .int .i64 c.grace, .int .i64 c.ctr, .int .i64 c.id, .int .i64 c.most, .string c.data, .slice SA c.sel.length sc]) rfl)
 obtain ⟨v0, hv0⟩ : ∃ v, w2.setCell ⟨b, 2, none⟩ (.int .u64 x) = v := ⟨_, rfl⟩
 rw [hv0] at Z0
 have on0 : Only b w2 v0 := by rw [← hv0]; exact (Only.refl b w2).set 2 _
 have ON := Lib.hid on0
 clear on0
 go_wp2
 first
 | go_end0
 | refine bodyPost_ret (results_none rfl _ _ _) rfl ?_
 have hrd : rdF 1 c e l = (({ c with rev := x } : Cal), e1, l1) := by
  show (({ c with rev := (revC.rd e l).1 } : Cal), (revC.rd e l).2) = _
  rw [HQ.out]
 rw [hrd]
 refine ⟨rfl, ON.out.rd H2.out hgb, ?_, (Two.of_aside K2.out).trans (Two.of_only ON.out)⟩
 exact ⟨LA, lc, IA, ic, MA, mc, SA, sc, Z0.out, ⟨ON.out.lbls U2.out.labels (fun a ha => by have := U2.out.lfrom a ha; omega), U2.out.lfrom, ON.out.up U2.out.init hbB, ON.out.up U2.out.main hbB, U2.out.nums⟩, ON.out.lbls SL2.out (fun a ha => by have := SF.out a ha; omega), SF.out, by have : x ≤ 18446744073709551615 := HOK.out; show x < _; omega, ⟨HLT.out.spec, HLT.out.sel, HLT.out.data⟩⟩

set_option maxRecDepth 100000 in
theorem take_2 (g b B : Nat) (hgb : g ≠ b) (hgB : g < B) (hbB : b < B) (e : Int) (l : List UInt8) (hl : Few l) (c : Cal) (w : World) (hBw : B ≤ w.heap.size) (h : Rd w g e l) (hc : CallAt b B c w) :
 Calls Tryz.prog 83 #[.pointer (some ⟨g, 0, none⟩), .pointer (some ⟨b, 0, none⟩), .int .i64 2] w (fun r w' => r = .returned (.tuple #[]) ∧ Rd w' g (rdF 2 c e l).2.1 (rdF 2 c e l).2.2 ∧ CallAt b B (rdF 2 c e l).1 w' ∧ Two g b w w') := by
 obtain ⟨LA, lc, IA, ic, MA, mc, SA, sc, hX, hU, hS, hF, hR, hLt⟩ := hc
 obtain ⟨⟨x, e1, l1⟩, hq⟩ : ∃ t, specC.rd e l = t := ⟨_, rfl⟩
 have hok := specC.okay e l
 rw [hq] at hok
 have HOK := Lib.hid hok
 have HQ := Lib.hid hq
 have HFL := Lib.hid hl
 have H := Lib.hid h
 have X := Lib.hid hX
 have U := Lib.hid hU
 have SL := Lib.hid hS
 have SF := Lib.hid hF
 have HR := Lib.hid hR
 have HLT := Lib.hid hLt
 have HBW := Lib.hid hBw
 clear hq hok hl h hX hU hS hF hR hLt hBw
 go_enter Tryz.func83, Tryz.ntmps83
 go_wp2_with fail
 refine (raw_rd g e l HFL.out x e1 l1 HQ.out w H.out).mono ?_
 rintro r w2 ⟨LB, ld, IB, ie, MB, md, rfl, hup, h2, k2⟩
 have UP := Lib.hid (spc_less hup HBW.out)
 clear hup
 have H2 := Lib.hid h2
 have K2 := Lib.hid k2
 have X2 := Lib.hid ((k2.block b ⟨lt_of_block X.out, fun e => hgb e.symm⟩).trans X.out)
 have U2 := Lib.hid (U.out.aside hgB k2)
 have SL2 := Lib.hid (lbls_aside SL.out SF.out hgB k2)
 clear h2 k2
 have sc0 := box_cell X2.out 3 rfl
 have sf0 := box_free X2.out 3
 have Z0 := Lib.hid (box_set X2.out 3 (.string x.name) (B := #[.int .i64 c.kind, .int .i64 c.uid, .int .u64 c.rev, .string x.name, .slice LA c.spec.labels.length lc, .slice IA c.spec.init.length ic, .slice MA c.spec.main.length mc, .int .i64 c.spec.restart, .int .i64 c.spec.grace, .int .i64 c.spec.prio, .int .i64 c.grace, .int .i64 c.ctr, .int .i64 c.id, .int .i64 c.most, .string c.data, .slice SA c.sel.length sc]) rfl)
 obtain ⟨v0, hv0⟩ : ∃ v, w2.setCell ⟨b, 3, none⟩ (.string x.name) = v := ⟨_, rfl⟩
 rw [hv0] at Z0
 have on0 : Only b w2 v0 := by rw [← hv0]; exact (Only.refl b w2).set 3 _
 have sc1 := box_cell Z0.out 4 rfl
 have sf1 := box_free Z0.out 4
 have Z1 := Lib.hid (box_set Z0.out 4 (.slice LB x.labels.length ld) (B := #[.int .i64 c.kind, .int .i64 c.uid, .int .u64 c.rev, .string x.name, .slice LB x.labels.length ld, .slice IA c.spec.init.length ic, .slice MA c.spec.main.length mc, .int .i64 c.spec.restart, .int .i64 c.spec.grace, .int .i64 c.spec.prio, .int .i64 c.grace, .int .i64 c.ctr, .int .i64 c.id, .int .i64 c.most, .string c.data, .slice SA c.sel.length sc]) rfl)
 obtain ⟨v1, hv1⟩ : ∃ v, v0.setCell ⟨b, 4, none⟩ (.slice LB x.labels.length ld) = v := ⟨_, rfl⟩
 rw [hv1] at Z1
 have on1 : Only b w2 v1 := by rw [← hv1]; exact on0.set 4 _
 have sc2 := box_cell Z1.out 5 rfl
 have sf2 := box_free Z1.out 5
 have Z2 := Lib.hid (box_set Z1.out 5 (.slice IB x.init.length ie) (B := #[.int .i64 c.kind, .int .i64 c.uid, .int .u64 c.rev, .string x.name, .slice LB x.labels.length ld, .slice IB x.init.length ie, .slice MA c.spec.main.length mc, .int .i64 c.spec.restart, .int .i64 c.spec.grace, .int .i64 c.spec.prio, .int .i64 c.grace, .int .i64 c.ctr, .int .i64 c.id, .int .i64 c.most, .string c.data, .slice SA c.sel.length sc]) rfl)
 obtain ⟨v2, hv2⟩ : ∃ v, v1.setCell ⟨b, 5, none⟩ (.slice IB x.init.length ie) = v := ⟨_, rfl⟩
 rw [hv2] at Z2
 have on2 : Only b w2 v2 := by rw [← hv2]; exact on1.set 5 _
 have sc3 := box_cell Z2.out 6 rfl
 have sf3 := box_free Z2.out 6
 have Z3 := Lib.hid (box_set Z2.out 6 (.slice MB x.main.length md) (B := #[.int .i64 c.kind, .int .i64 c.uid, .int .u64 c.rev, .string x.name, .slice LB x.labels.length ld, .slice IB x.init.length ie, .slice MB x.main.length md, .int .i64 c.spec.restart, .int .i64 c.spec.grace, .int .i64 c.spec.prio, .int .i64 c.grace, .int .i64 c.ctr, .int .i64 c.id, .int .i64 c.most, .string c.data, .slice SA c.sel.length sc]) rfl)
 obtain ⟨v3, hv3⟩ : ∃ v, v2.setCell ⟨b, 6, none⟩ (.slice MB x.main.length md) = v := ⟨_, rfl⟩
 rw [hv3] at Z3
 have on3 : Only b w2 v3 := by rw [← hv3]; exact on2.set 6 _
 have sc4 := box_cell Z3.out 7 rfl
 have sf4 := box_free Z3.out 7
 have Z4 := Lib.hid (box_set Z3.out 7 (.int .i64 x.restart) (B := #[.int .i64 c.kind, .int .i64 c.uid, .int .u64 c.rev, .string x.name, .slice LB x.labels.length ld, .slice IB x.init.length ie, .slice MB x.main.length md, .int .i64 x.restart, .int .i64 c.spec.grace, .int .i64 c.spec.prio, .int .i64 c.grace, .int .i64 c.ctr, .int .i64 c.id, .int .i64 c.most, .string c.data, .slice SA c.sel.length sc]) rfl)
 obtain ⟨v4, hv4⟩ : ∃ v, v3.setCell ⟨b, 7, none⟩ (.int .i64 x.restart) = v := ⟨_, rfl⟩
 rw [hv4] at Z4
 have on4 : Only b w2 v4 := by rw [← hv4]; exact on3.set 7 _
 have sc5 := box_cell Z4.out 8 rfl
 have sf5 := box_free Z4.out 8
 have Z5 := Lib.hid (box_set Z4.out 8 (.int .i64 x.grace) (B := #[.int .i64 c.kind, .int .i64 c.uid, .int .u64 c.rev, .string x.name, .slice LB x.labels.length ld, .slice IB x.init.length ie, .slice MB x.main.length md, .int .i64 x.restart, .int .i64 x.grace, .int .i64 c.spec.prio, .int .i64 c.grace, .int .i64 c.ctr, .int .i64 c.id, .int .i64 c.most, .string c.data, .slice SA c.sel.length sc]) rfl)
 obtain ⟨v5, hv5⟩ : ∃ v, v4.setCell ⟨b, 8, none⟩ (.int .i64 x.grace) = v := ⟨_, rfl⟩
 rw [hv5] at Z5
 have on5 : Only b w2 v5 := by rw [← hv5]; exact on4.set 8 _
 have sc6 := box_cell Z5.out 9 rfl
 have sf6 := box_free Z5.out 9
 have Z6 := Lib.hid (box_set Z5.out 9 (.int .i64 x.prio) (B := #[.int .i64 c.kind, .int .i64 c.uid, .int .u64 c.rev, .string x.name, .slice LB x.labels.length ld, .slice IB x.init.length ie, .slice MB x.main.length md, .int .i64 x.restart, .int .i64 x.grace, .int .i64 x.prio, .int .i64 c.grace, .int .i64 c.ctr, .int .i64 c.id, .int .i64 c.most, .string c.data, .slice SA c.sel.length sc]) rfl)
 obtain ⟨v6, hv6⟩ : ∃ v, v5.setCell ⟨b, 9, none⟩ (.int .i64 x.prio) = v := ⟨_, rfl⟩
 rw [hv6] at Z6
 have on6 : Only b w2 v6 := by rw [← hv6]; exact on5.set 9 _
 have ON := Lib.hid on6
 clear on0 on1 on2 on3 on4 on5 on6
 go_wp2
 first
 | go_end0
 | refine bodyPost_ret (results_none rfl _ _ _) rfl ?_
 have hrd : rdF 2 c e l = (({ c with spec := x } : Cal), e1, l1) := by
  show (({ c with spec := (specC.rd e l).1 } : Cal), (specC.rd e l).2) = _
  rw [HQ.out]
 rw [hrd]
 refine ⟨rfl, ON.out.rd H2.out hgb, ?_, (Two.of_aside K2.out).trans (Two.of_only ON.out)⟩
 exact ⟨LB, ld, IB, ie, MB, md, SA, sc, Z6.out, ⟨ON.out.lbls UP.out.labels (fun a ha => by have := UP.out.lfrom a ha; omega), UP.out.lfrom, ON.out.up UP.out.init hbB, ON.out.up UP.out.main hbB, UP.out.nums⟩, ON.out.lbls SL2.out (fun a ha => by have := SF.out a ha; omega), SF.out, HR.out, light_spec HLT.out HOK.out⟩

set_option maxRecDepth 100000 in
theorem take_3 (g b B : Nat) (hgb : g ≠ b) (hgB : g < B) (hbB : b < B) (e : Int) (l : List UInt8) (hl : Few l) (c : Cal) (w : World) (hBw : B ≤ w.heap.size) (h : Rd w g e l) (hc : CallAt b B c w) :
 Calls Tryz.prog 83 #[.pointer (some ⟨g, 0, none⟩), .pointer (some ⟨b, 0, none⟩), .int .i64 3] w (fun r w' => r = .returned (.tuple #[]) ∧ Rd w' g (rdF 3 c e l).2.1 (rdF 3 c e l).2.2 ∧ CallAt b B (rdF 3 c e l).1 w' ∧ Two g b w w') := by
 obtain ⟨LA, lc, IA, ic, MA, mc, SA, sc, hX, hU, hS, hF, hR, hLt⟩ := hc
 obtain ⟨⟨x, e1, l1⟩, hq⟩ : ∃ t, graceC.rd e l = t := ⟨_, rfl⟩
 have hok := graceC.okay e l
 rw [hq] at hok
 have HOK := Lib.hid hok
 have HQ := Lib.hid hq
 have HFL := Lib.hid hl
 have H := Lib.hid h
 have X := Lib.hid hX
 have U := Lib.hid hU
 have SL := Lib.hid hS
 have SF := Lib.hid hF
 have HR := Lib.hid hR
 have HLT := Lib.hid hLt
 have HBW := Lib.hid hBw
 clear hq hok hl h hX hU hS hF hR hLt hBw
 go_enter Tryz.func83, Tryz.ntmps83
 go_wp2_with fail
 refine (num_rd g 1000 1000 (by decide) (by decide) (by decide) e l HFL.out x e1 l1 HQ.out w H.out).mono ?_
 rintro r w2 ⟨rfl, h2, k2⟩
 have H2 := Lib.hid h2
 have K2 := Lib.hid k2
 have X2 := Lib.hid ((k2.block b ⟨lt_of_block X.out, fun e => hgb e.symm⟩).trans X.out)
 have U2 := Lib.hid (U.out.aside hgB k2)
 have SL2 := Lib.hid (lbls_aside SL.out SF.out hgB k2)
 clear h2 k2
 have sc0 := box_cell X2.out 10 rfl
 have sf0 := box_free X2.out 10
 have Z0 := Lib.hid (box_set X2.out 10 (.int .i64 x) (B := #[.int .i64 c.kind, .int .i64 c.uid, .int .u64 c.rev, .string c.spec.name, .slice LA c.spec.labels.length lc, .slice IA c.spec.init.length ic, .slice MA c.spec.main.length mc, .int .i64 c.spec.restart, .int .i64 c.spec.grace, .int .i64 c.spec.prio, .int .i64 x, .int .i64 c.ctr, .int .i64 c.id, .int .i64 c.most, .string c.data, .slice SA c.sel.length sc]) rfl)
 obtain ⟨v0, hv0⟩ : ∃ v, w2.setCell ⟨b, 10, none⟩ (.int .i64 x) = v := ⟨_, rfl⟩
 rw [hv0] at Z0
 have on0 : Only b w2 v0 := by rw [← hv0]; exact (Only.refl b w2).set 10 _
 have ON := Lib.hid on0
 clear on0
 go_wp2
 first
 | go_end0
 | refine bodyPost_ret (results_none rfl _ _ _) rfl ?_
 have hrd : rdF 3 c e l = (({ c with grace := x } : Cal), e1, l1) := by
  show (({ c with grace := (graceC.rd e l).1 } : Cal), (graceC.rd e l).2) = _
  rw [HQ.out]
 rw [hrd]
 refine ⟨rfl, ON.out.rd H2.out hgb, ?_, (Two.of_aside K2.out).trans (Two.of_only ON.out)⟩
 exact ⟨LA, lc, IA, ic, MA, mc, SA, sc, Z0.out, ⟨ON.out.lbls U2.out.labels (fun a ha => by have := U2.out.lfrom a ha; omega), U2.out.lfrom, ON.out.up U2.out.init hbB, ON.out.up U2.out.main hbB, U2.out.nums⟩, ON.out.lbls SL2.out (fun a ha => by have := SF.out a ha; omega), SF.out, HR.out, ⟨HLT.out.spec, HLT.out.sel, HLT.out.data⟩⟩

set_option maxRecDepth 100000 in
theorem take_4 (g b B : Nat) (hgb : g ≠ b) (hgB : g < B) (hbB : b < B) (e : Int) (l : List UInt8) (hl : Few l) (c : Cal) (w : World) (hBw : B ≤ w.heap.size) (h : Rd w g e l) (hc : CallAt b B c w) :
 Calls Tryz.prog 83 #[.pointer (some ⟨g, 0, none⟩), .pointer (some ⟨b, 0, none⟩), .int .i64 4] w (fun r w' => r = .returned (.tuple #[]) ∧ Rd w' g (rdF 4 c e l).2.1 (rdF 4 c e l).2.2 ∧ CallAt b B (rdF 4 c e l).1 w' ∧ Two g b w w') := by
 obtain ⟨LA, lc, IA, ic, MA, mc, SA, sc, hX, hU, hS, hF, hR, hLt⟩ := hc
 obtain ⟨⟨x, e1, l1⟩, hq⟩ : ∃ t, ctrNC.rd e l = t := ⟨_, rfl⟩
 have hok := ctrNC.okay e l
 rw [hq] at hok
 have HOK := Lib.hid hok
 have HQ := Lib.hid hq
 have HFL := Lib.hid hl
 have H := Lib.hid h
 have X := Lib.hid hX
 have U := Lib.hid hU
 have SL := Lib.hid hS
 have SF := Lib.hid hF
 have HR := Lib.hid hR
 have HLT := Lib.hid hLt
 have HBW := Lib.hid hBw
 clear hq hok hl h hX hU hS hF hR hLt hBw
 go_enter Tryz.func83, Tryz.ntmps83
 go_wp2_with fail
 refine (num_rd g 3 3 (by decide) (by decide) (by decide) e l HFL.out x e1 l1 HQ.out w H.out).mono ?_
 rintro r w2 ⟨rfl, h2, k2⟩
 have H2 := Lib.hid h2
 have K2 := Lib.hid k2
 have X2 := Lib.hid ((k2.block b ⟨lt_of_block X.out, fun e => hgb e.symm⟩).trans X.out)
 have U2 := Lib.hid (U.out.aside hgB k2)
 have SL2 := Lib.hid (lbls_aside SL.out SF.out hgB k2)
 clear h2 k2
 have sc0 := box_cell X2.out 11 rfl
 have sf0 := box_free X2.out 11
 have Z0 := Lib.hid (box_set X2.out 11 (.int .i64 x) (B := #[.int .i64 c.kind, .int .i64 c.uid, .int .u64 c.rev, .string c.spec.name, .slice LA c.spec.labels.length lc, .slice IA c.spec.init.length ic, .slice MA c.spec.main.length mc, .int .i64 c.spec.restart, .int .i64 c.spec.grace, .int .i64 c.spec.prio, .int .i64 c.grace, .int .i64 x, .int .i64 c.id, .int .i64 c.most, .string c.data, .slice SA c.sel.length sc]) rfl)
 obtain ⟨v0, hv0⟩ : ∃ v, w2.setCell ⟨b, 11, none⟩ (.int .i64 x) = v := ⟨_, rfl⟩
 rw [hv0] at Z0
 have on0 : Only b w2 v0 := by rw [← hv0]; exact (Only.refl b w2).set 11 _
 have ON := Lib.hid on0
 clear on0
 go_wp2
 first
 | go_end0
 | refine bodyPost_ret (results_none rfl _ _ _) rfl ?_
 have hrd : rdF 4 c e l = (({ c with ctr := x } : Cal), e1, l1) := by
  show (({ c with ctr := (ctrNC.rd e l).1 } : Cal), (ctrNC.rd e l).2) = _
  rw [HQ.out]
 rw [hrd]
 refine ⟨rfl, ON.out.rd H2.out hgb, ?_, (Two.of_aside K2.out).trans (Two.of_only ON.out)⟩
 exact ⟨LA, lc, IA, ic, MA, mc, SA, sc, Z0.out, ⟨ON.out.lbls U2.out.labels (fun a ha => by have := U2.out.lfrom a ha; omega), U2.out.lfrom, ON.out.up U2.out.init hbB, ON.out.up U2.out.main hbB, U2.out.nums⟩, ON.out.lbls SL2.out (fun a ha => by have := SF.out a ha; omega), SF.out, HR.out, ⟨HLT.out.spec, HLT.out.sel, HLT.out.data⟩⟩

set_option maxRecDepth 100000 in
theorem take_5 (g b B : Nat) (hgb : g ≠ b) (hgB : g < B) (hbB : b < B) (e : Int) (l : List UInt8) (hl : Few l) (c : Cal) (w : World) (hBw : B ≤ w.heap.size) (h : Rd w g e l) (hc : CallAt b B c w) :
 Calls Tryz.prog 83 #[.pointer (some ⟨g, 0, none⟩), .pointer (some ⟨b, 0, none⟩), .int .i64 5] w (fun r w' => r = .returned (.tuple #[]) ∧ Rd w' g (rdF 5 c e l).2.1 (rdF 5 c e l).2.2 ∧ CallAt b B (rdF 5 c e l).1 w' ∧ Two g b w w') := by
 obtain ⟨LA, lc, IA, ic, MA, mc, SA, sc, hX, hU, hS, hF, hR, hLt⟩ := hc
 obtain ⟨⟨x, e1, l1⟩, hq⟩ : ∃ t, uidC.rd e l = t := ⟨_, rfl⟩
 have hok := uidC.okay e l
 rw [hq] at hok
 have HOK := Lib.hid hok
 have HQ := Lib.hid hq
 have HFL := Lib.hid hl
 have H := Lib.hid h
 have X := Lib.hid hX
 have U := Lib.hid hU
 have SL := Lib.hid hS
 have SF := Lib.hid hF
 have HR := Lib.hid hR
 have HLT := Lib.hid hLt
 have HBW := Lib.hid hBw
 clear hq hok hl h hX hU hS hF hR hLt hBw
 go_enter Tryz.func83, Tryz.ntmps83
 go_wp2_with fail
 refine (num_rd g 1073741824 1073741824 (by decide) (by decide) (by decide) e l HFL.out x e1 l1 HQ.out w H.out).mono ?_
 rintro r w2 ⟨rfl, h2, k2⟩
 have H2 := Lib.hid h2
 have K2 := Lib.hid k2
 have X2 := Lib.hid ((k2.block b ⟨lt_of_block X.out, fun e => hgb e.symm⟩).trans X.out)
 have U2 := Lib.hid (U.out.aside hgB k2)
 have SL2 := Lib.hid (lbls_aside SL.out SF.out hgB k2)
 clear h2 k2
 have sc0 := box_cell X2.out 12 rfl
 have sf0 := box_free X2.out 12
 have Z0 := Lib.hid (box_set X2.out 12 (.int .i64 x) (B := #[.int .i64 c.kind, .int .i64 c.uid, .int .u64 c.rev, .string c.spec.name, .slice LA c.spec.labels.length lc, .slice IA c.spec.init.length ic, .slice MA c.spec.main.length mc, .int .i64 c.spec.restart, .int .i64 c.spec.grace, .int .i64 c.spec.prio, .int .i64 c.grace, .int .i64 c.ctr, .int .i64 x, .int .i64 c.most, .string c.data, .slice SA c.sel.length sc]) rfl)
 obtain ⟨v0, hv0⟩ : ∃ v, w2.setCell ⟨b, 12, none⟩ (.int .i64 x) = v := ⟨_, rfl⟩
 rw [hv0] at Z0
 have on0 : Only b w2 v0 := by rw [← hv0]; exact (Only.refl b w2).set 12 _
 have ON := Lib.hid on0
 clear on0
 go_wp2
 first
 | go_end0
 | refine bodyPost_ret (results_none rfl _ _ _) rfl ?_
 have hrd : rdF 5 c e l = (({ c with id := x } : Cal), e1, l1) := by
  show (({ c with id := (uidC.rd e l).1 } : Cal), (uidC.rd e l).2) = _
  rw [HQ.out]
 rw [hrd]
 refine ⟨rfl, ON.out.rd H2.out hgb, ?_, (Two.of_aside K2.out).trans (Two.of_only ON.out)⟩
 exact ⟨LA, lc, IA, ic, MA, mc, SA, sc, Z0.out, ⟨ON.out.lbls U2.out.labels (fun a ha => by have := U2.out.lfrom a ha; omega), U2.out.lfrom, ON.out.up U2.out.init hbB, ON.out.up U2.out.main hbB, U2.out.nums⟩, ON.out.lbls SL2.out (fun a ha => by have := SF.out a ha; omega), SF.out, HR.out, ⟨HLT.out.spec, HLT.out.sel, HLT.out.data⟩⟩

set_option maxRecDepth 100000 in
theorem take_6 (g b B : Nat) (hgb : g ≠ b) (hgB : g < B) (hbB : b < B) (e : Int) (l : List UInt8) (hl : Few l) (c : Cal) (w : World) (hBw : B ≤ w.heap.size) (h : Rd w g e l) (hc : CallAt b B c w) :
 Calls Tryz.prog 83 #[.pointer (some ⟨g, 0, none⟩), .pointer (some ⟨b, 0, none⟩), .int .i64 6] w (fun r w' => r = .returned (.tuple #[]) ∧ Rd w' g (rdF 6 c e l).2.1 (rdF 6 c e l).2.2 ∧ CallAt b B (rdF 6 c e l).1 w' ∧ Two g b w w') := by
 obtain ⟨LA, lc, IA, ic, MA, mc, SA, sc, hX, hU, hS, hF, hR, hLt⟩ := hc
 obtain ⟨⟨x, e1, l1⟩, hq⟩ : ∃ t, dataC.rd e l = t := ⟨_, rfl⟩
 have hok := dataC.okay e l
 rw [hq] at hok
 have HOK := Lib.hid hok
 have HQ := Lib.hid hq
 have HFL := Lib.hid hl
 have H := Lib.hid h
 have X := Lib.hid hX
 have U := Lib.hid hU
 have SL := Lib.hid hS
 have SF := Lib.hid hF
 have HR := Lib.hid hR
 have HLT := Lib.hid hLt
 have HBW := Lib.hid hBw
 clear hq hok hl h hX hU hS hF hR hLt hBw
 go_enter Tryz.func83, Tryz.ntmps83
 go_wp2_with fail
 refine (text_rd g 32 32 (by decide) (by decide) (by decide) e l HFL.out x e1 l1 HQ.out w H.out).mono ?_
 rintro r w2 ⟨rfl, h2, k2⟩
 have H2 := Lib.hid h2
 have K2 := Lib.hid k2
 have X2 := Lib.hid ((k2.block b ⟨lt_of_block X.out, fun e => hgb e.symm⟩).trans X.out)
 have U2 := Lib.hid (U.out.aside hgB k2)
 have SL2 := Lib.hid (lbls_aside SL.out SF.out hgB k2)
 clear h2 k2
 have sc0 := box_cell X2.out 14 rfl
 have sf0 := box_free X2.out 14
 have Z0 := Lib.hid (box_set X2.out 14 (.string x) (B := #[.int .i64 c.kind, .int .i64 c.uid, .int .u64 c.rev, .string c.spec.name, .slice LA c.spec.labels.length lc, .slice IA c.spec.init.length ic, .slice MA c.spec.main.length mc, .int .i64 c.spec.restart, .int .i64 c.spec.grace, .int .i64 c.spec.prio, .int .i64 c.grace, .int .i64 c.ctr, .int .i64 c.id, .int .i64 c.most, .string x, .slice SA c.sel.length sc]) rfl)
 obtain ⟨v0, hv0⟩ : ∃ v, w2.setCell ⟨b, 14, none⟩ (.string x) = v := ⟨_, rfl⟩
 rw [hv0] at Z0
 have on0 : Only b w2 v0 := by rw [← hv0]; exact (Only.refl b w2).set 14 _
 have ON := Lib.hid on0
 clear on0
 go_wp2
 first
 | go_end0
 | refine bodyPost_ret (results_none rfl _ _ _) rfl ?_
 have hrd : rdF 6 c e l = (({ c with data := x } : Cal), e1, l1) := by
  show (({ c with data := (dataC.rd e l).1 } : Cal), (dataC.rd e l).2) = _
  rw [HQ.out]
 rw [hrd]
 refine ⟨rfl, ON.out.rd H2.out hgb, ?_, (Two.of_aside K2.out).trans (Two.of_only ON.out)⟩
 exact ⟨LA, lc, IA, ic, MA, mc, SA, sc, Z0.out, ⟨ON.out.lbls U2.out.labels (fun a ha => by have := U2.out.lfrom a ha; omega), U2.out.lfrom, ON.out.up U2.out.init hbB, ON.out.up U2.out.main hbB, U2.out.nums⟩, ON.out.lbls SL2.out (fun a ha => by have := SF.out a ha; omega), SF.out, HR.out, light_data HLT.out HOK.out⟩

set_option maxRecDepth 100000 in
theorem take_7 (g b B : Nat) (hgb : g ≠ b) (hgB : g < B) (hbB : b < B) (e : Int) (l : List UInt8) (hl : Few l) (c : Cal) (w : World) (hBw : B ≤ w.heap.size) (h : Rd w g e l) (hc : CallAt b B c w) :
 Calls Tryz.prog 83 #[.pointer (some ⟨g, 0, none⟩), .pointer (some ⟨b, 0, none⟩), .int .i64 7] w (fun r w' => r = .returned (.tuple #[]) ∧ Rd w' g (rdF 7 c e l).2.1 (rdF 7 c e l).2.2 ∧ CallAt b B (rdF 7 c e l).1 w' ∧ Two g b w w') := by
 obtain ⟨LA, lc, IA, ic, MA, mc, SA, sc, hX, hU, hS, hF, hR, hLt⟩ := hc
 obtain ⟨⟨x, e1, l1⟩, hq⟩ : ∃ t, mostC.rd e l = t := ⟨_, rfl⟩
 have hok := mostC.okay e l
 rw [hq] at hok
 have HOK := Lib.hid hok
 have HQ := Lib.hid hq
 have HFL := Lib.hid hl
 have H := Lib.hid h
 have X := Lib.hid hX
 have U := Lib.hid hU
 have SL := Lib.hid hS
 have SF := Lib.hid hF
 have HR := Lib.hid hR
 have HLT := Lib.hid hLt
 have HBW := Lib.hid hBw
 clear hq hok hl h hX hU hS hF hR hLt hBw
 go_enter Tryz.func83, Tryz.ntmps83
 go_wp2_with fail
 refine (num_rd g 32 32 (by decide) (by decide) (by decide) e l HFL.out x e1 l1 HQ.out w H.out).mono ?_
 rintro r w2 ⟨rfl, h2, k2⟩
 have H2 := Lib.hid h2
 have K2 := Lib.hid k2
 have X2 := Lib.hid ((k2.block b ⟨lt_of_block X.out, fun e => hgb e.symm⟩).trans X.out)
 have U2 := Lib.hid (U.out.aside hgB k2)
 have SL2 := Lib.hid (lbls_aside SL.out SF.out hgB k2)
 clear h2 k2
 have sc0 := box_cell X2.out 13 rfl
 have sf0 := box_free X2.out 13
 have Z0 := Lib.hid (box_set X2.out 13 (.int .i64 x) (B := #[.int .i64 c.kind, .int .i64 c.uid, .int .u64 c.rev, .string c.spec.name, .slice LA c.spec.labels.length lc, .slice IA c.spec.init.length ic, .slice MA c.spec.main.length mc, .int .i64 c.spec.restart, .int .i64 c.spec.grace, .int .i64 c.spec.prio, .int .i64 c.grace, .int .i64 c.ctr, .int .i64 c.id, .int .i64 x, .string c.data, .slice SA c.sel.length sc]) rfl)
 obtain ⟨v0, hv0⟩ : ∃ v, w2.setCell ⟨b, 13, none⟩ (.int .i64 x) = v := ⟨_, rfl⟩
 rw [hv0] at Z0
 have on0 : Only b w2 v0 := by rw [← hv0]; exact (Only.refl b w2).set 13 _
 have ON := Lib.hid on0
 clear on0
 go_wp2
 first
 | go_end0
 | refine bodyPost_ret (results_none rfl _ _ _) rfl ?_
 have hrd : rdF 7 c e l = (({ c with most := x } : Cal), e1, l1) := by
  show (({ c with most := (mostC.rd e l).1 } : Cal), (mostC.rd e l).2) = _
  rw [HQ.out]
 rw [hrd]
 refine ⟨rfl, ON.out.rd H2.out hgb, ?_, (Two.of_aside K2.out).trans (Two.of_only ON.out)⟩
 exact ⟨LA, lc, IA, ic, MA, mc, SA, sc, Z0.out, ⟨ON.out.lbls U2.out.labels (fun a ha => by have := U2.out.lfrom a ha; omega), U2.out.lfrom, ON.out.up U2.out.init hbB, ON.out.up U2.out.main hbB, U2.out.nums⟩, ON.out.lbls SL2.out (fun a ha => by have := SF.out a ha; omega), SF.out, HR.out, ⟨HLT.out.spec, HLT.out.sel, HLT.out.data⟩⟩

set_option maxRecDepth 100000 in
theorem take_8 (g b B : Nat) (hgb : g ≠ b) (hgB : g < B) (hbB : b < B) (e : Int) (l : List UInt8) (hl : Few l) (c : Cal) (w : World) (hBw : B ≤ w.heap.size) (h : Rd w g e l) (hc : CallAt b B c w) :
 Calls Tryz.prog 83 #[.pointer (some ⟨g, 0, none⟩), .pointer (some ⟨b, 0, none⟩), .int .i64 8] w (fun r w' => r = .returned (.tuple #[]) ∧ Rd w' g (rdF 8 c e l).2.1 (rdF 8 c e l).2.2 ∧ CallAt b B (rdF 8 c e l).1 w' ∧ Two g b w w') := by
 obtain ⟨LA, lc, IA, ic, MA, mc, SA, sc, hX, hU, hS, hF, hR, hLt⟩ := hc
 obtain ⟨⟨x, e1, l1⟩, hq⟩ : ∃ t, labelsC.rd e l = t := ⟨_, rfl⟩
 have hok := labelsC.okay e l
 rw [hq] at hok
 have HOK := Lib.hid hok
 have HQ := Lib.hid hq
 have HFL := Lib.hid hl
 have H := Lib.hid h
 have X := Lib.hid hX
 have U := Lib.hid hU
 have SL := Lib.hid hS
 have SF := Lib.hid hF
 have HR := Lib.hid hR
 have HLT := Lib.hid hLt
 have HBW := Lib.hid hBw
 clear hq hok hl h hX hU hS hF hR hLt hBw
 go_enter Tryz.func83, Tryz.ntmps83
 go_wp2_with fail
 refine (takeLabels_rd g e l HFL.out x e1 l1 HQ.out w H.out).mono ?_
 rintro r w2 ⟨SB, sd, rfl, hsb, hsf, hsd, h2, k2⟩
 have SBL := Lib.hid hsb
 have SBF := Lib.hid (show From B SB from fun a ha => Nat.le_trans HBW.out (hsf a ha))
 clear hsb hsf
 have H2 := Lib.hid h2
 have K2 := Lib.hid k2
 have X2 := Lib.hid ((k2.block b ⟨lt_of_block X.out, fun e => hgb e.symm⟩).trans X.out)
 have U2 := Lib.hid (U.out.aside hgB k2)
 have SL2 := Lib.hid (lbls_aside SL.out SF.out hgB k2)
 clear h2 k2
 have sc0 := box_cell X2.out 15 rfl
 have sf0 := box_free X2.out 15
 have Z0 := Lib.hid (box_set X2.out 15 (.slice SB x.length sd) (B := #[.int .i64 c.kind, .int .i64 c.uid, .int .u64 c.rev, .string c.spec.name, .slice LA c.spec.labels.length lc, .slice IA c.spec.init.length ic, .slice MA c.spec.main.length mc, .int .i64 c.spec.restart, .int .i64 c.spec.grace, .int .i64 c.spec.prio, .int .i64 c.grace, .int .i64 c.ctr, .int .i64 c.id, .int .i64 c.most, .string c.data, .slice SB x.length sd]) rfl)
 obtain ⟨v0, hv0⟩ : ∃ v, w2.setCell ⟨b, 15, none⟩ (.slice SB x.length sd) = v := ⟨_, rfl⟩
 rw [hv0] at Z0
 have on0 : Only b w2 v0 := by rw [← hv0]; exact (Only.refl b w2).set 15 _
 have ON := Lib.hid on0
 clear on0
 go_wp2
 first
 | go_end0
 | refine bodyPost_ret (results_none rfl _ _ _) rfl ?_
 have hrd : rdF 8 c e l = (({ c with sel := x } : Cal), e1, l1) := by
  show (({ c with sel := (labelsC.rd e l).1 } : Cal), (labelsC.rd e l).2) = _
  rw [HQ.out]
 rw [hrd]
 refine ⟨rfl, ON.out.rd H2.out hgb, ?_, (Two.of_aside K2.out).trans (Two.of_only ON.out)⟩
 exact ⟨LA, lc, IA, ic, MA, mc, SB, sd, Z0.out, ⟨ON.out.lbls U2.out.labels (fun a ha => by have := U2.out.lfrom a ha; omega), U2.out.lfrom, ON.out.up U2.out.init hbB, ON.out.up U2.out.main hbB, U2.out.nums⟩, ON.out.lbls SBL.out (fun a ha => by have := SBF.out a ha; omega), SBF.out, HR.out, light_sel HLT.out HOK.out⟩

theorem take_f (g b B : Nat) (hgb : g ≠ b) (hgB : g < B) (hbB : b < B) (e : Int) (l : List UInt8) (hl : Few l) (c : Cal) (w : World) (hBw : B ≤ w.heap.size) (h : Rd w g e l) (hc : CallAt b B c w) (f : Int) (hf : 0 ≤ f ∧ f < 9) :
 Calls Tryz.prog 83 #[.pointer (some ⟨g, 0, none⟩), .pointer (some ⟨b, 0, none⟩), .int .i64 f] w (fun r w' => r = .returned (.tuple #[]) ∧ Rd w' g (rdF f c e l).2.1 (rdF f c e l).2.2 ∧ CallAt b B (rdF f c e l).1 w' ∧ Two g b w w') := by
 rcases nine f with rfl | rfl | rfl | rfl | rfl | rfl | rfl | rfl | rfl | ⟨h0, h1, h2, h3, h4, h5, h6, h7, h8⟩
 · exact take_0 g b B hgb hgB hbB e l hl c w hBw h hc
 · exact take_1 g b B hgb hgB hbB e l hl c w hBw h hc
 · exact take_2 g b B hgb hgB hbB e l hl c w hBw h hc
 · exact take_3 g b B hgb hgB hbB e l hl c w hBw h hc
 · exact take_4 g b B hgb hgB hbB e l hl c w hBw h hc
 · exact take_5 g b B hgb hgB hbB e l hl c w hBw h hc
 · exact take_6 g b B hgb hgB hbB e l hl c w hBw h hc
 · exact take_7 g b B hgb hgB hbB e l hl c w hBw h hc
 · exact take_8 g b B hgb hgB hbB e l hl c w hBw h hc
 · omega
end Ak
end Go.Proofs.YtakdhkhcndeiiaaGreatDoor
