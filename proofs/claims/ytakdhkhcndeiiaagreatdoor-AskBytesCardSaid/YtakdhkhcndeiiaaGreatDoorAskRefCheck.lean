/-
 The contract of the document's Check of chapter 8 (provostref08.Check): the code and the path of the first thing that may not be. All that was there is left as it was. Condition: the call is not too much.
-/
import Derived.Test.YtakdhkhcndeiiaaGreatDoorAskRef
import Derived.Test.YtakdhkhcndeiiaaGreatDoorAskLoad
import Derived.Test.YtakdhkhcndeiiaaGreatDoorSpecCheck
import Derived.Test.YtakdhkhcndeiiaaGreatDoorRegionAll
import Derived.Deep.DeepCutAuto
import Derived.Laws.Concat
set_option linter.unusedVariables false
set_option linter.unusedSimpArgs false
namespace Go.Proofs.YtakdhkhcndeiiaaGreatDoor
open Go.ChangeShapes Go.WideShapes Go.ChangeAt Go.RowKit Go.Lib
open LebMath WirePure Sd Wire SpecOwn SpecRef Book Pk
namespace Ak

def gt (b : Bool) (v : Value) : Value := bif b then undef else v
def acc (p n : Nat → Bool) : Nat → Bool
 | 0 => !p 0 && n 0
 | i + 1 => acc p n i || (!p (i + 1) && n (i + 1))
def fo : Nat → Int
 | 0 => 0
 | 1 => 1
 | 2 => 2
 | 3 => 3
 | 4 => 4
 | 5 => 5
 | 6 => 7
 | 7 => 6
 | _ => 8
theorem acc_t {p n : Nat → Bool} {j : Nat} (h : acc p n j = true) : acc p n (j + 1) = true := by rw [acc, h]; rfl
theorem acc_f {p n : Nat → Bool} {j : Nat} (h : acc p n j = false) : acc p n (j + 1) = (!p (j + 1) && n (j + 1)) := by rw [acc, h]; rfl
theorem acc_f1 {p n : Nat → Bool} {j : Nat} (h : acc p n j = false) (h1 : p (j + 1) = true) : acc p n (j + 1) = false := by rw [acc, h, h1]; rfl
theorem acc_f2 {p n : Nat → Bool} {j : Nat} {b : Bool} (h : acc p n j = false) (h1 : p (j + 1) = false) (h2 : n (j + 1) = b) : acc p n (j + 1) = b := by rw [acc, h, h1, h2]; simp
theorem zero_len {c : Cal} (h : zeroF c 8 = true) : c.sel.length = 0 := by rw [zero_sel h]; rfl
theorem zero_two {q : Prop} (z : Bool) (h1 : z = true → q) (h2 : q → z = true) : ((!z) = true → ¬ q) ∧ ((!z) = false → q) := by
 cases z with
 | false => exact ⟨fun _ h => (by have := h2 h; cases this), fun h => (by cases h)⟩
 | true => exact ⟨fun h => (by cases h), fun _ => h1 rfl⟩
theorem acc_iff (p n : Nat → Bool) : ∀ k, acc p n k = true ↔ ∃ j, j ≤ k ∧ p j = false ∧ n j = true
 | 0 => by
  simp only [acc, Bool.and_eq_true, Bool.not_eq_true']
  constructor
  · exact fun h => ⟨0, Nat.le_refl _, h⟩
  · rintro ⟨j, hj, h⟩
    have e : j = 0 := by omega
    subst e
    exact h
 | k + 1 => by
  simp only [acc, Bool.or_eq_true, Bool.and_eq_true, Bool.not_eq_true', acc_iff p n k]
  constructor
  · rintro (⟨j, hj, h⟩ | h)
    · exact ⟨j, by omega, h⟩
    · exact ⟨k + 1, Nat.le_refl _, h⟩
  · rintro ⟨j, hj, h⟩
    by_cases e : j = k + 1
    · subst e; exact .inr h
    · exact .inl ⟨j, by omega, h⟩
theorem fo_all (i : Nat) (hi : i < 9) : ∃ j, j ≤ 8 ∧ fo j = (i : Int) := by
 rcases (by omega : i = 0 ∨ i = 1 ∨ i = 2 ∨ i = 3 ∨ i = 4 ∨ i = 5 ∨ i = 6 ∨ i = 7 ∨ i = 8) with rfl | rfl | rfl | rfl | rfl | rfl | rfl | rfl | rfl
 · exact ⟨0, by decide, rfl⟩
 · exact ⟨1, by decide, rfl⟩
 · exact ⟨2, by decide, rfl⟩
 · exact ⟨3, by decide, rfl⟩
 · exact ⟨4, by decide, rfl⟩
 · exact ⟨5, by decide, rfl⟩
 · exact ⟨7, by decide, rfl⟩
 · exact ⟨6, by decide, rfl⟩
 · exact ⟨8, by decide, rfl⟩
theorem fo_nat (j : Nat) : ∃ i : Nat, i < 9 ∧ fo j = (i : Int) := by
 unfold fo
 split <;> first | exact ⟨0, by decide, rfl⟩ | exact ⟨1, by decide, rfl⟩ | exact ⟨2, by decide, rfl⟩ | exact ⟨3, by decide, rfl⟩ | exact ⟨4, by decide, rfl⟩ | exact ⟨5, by decide, rfl⟩ | exact ⟨6, by decide, rfl⟩ | exact ⟨7, by decide, rfl⟩ | exact ⟨8, by decide, rfl⟩
theorem acc_others (c : Cal) {l : List Int} (hl : fieldsV c.kind = l) : acc (fun j => l.contains (fo j)) (fun j => !zeroF c (fo j)) 8 = true ↔ othersFrom c 0 9 = false := by
 rw [acc_iff]
 constructor
 · rintro ⟨j, hj, h1, h2⟩
   obtain ⟨i, hi, he⟩ := fo_nat j
   rw [Bool.eq_false_iff]
   intro h
   have h3 := othersFrom_ok.1 h i (Nat.zero_le _) (by omega)
   rw [hl, ← he] at h3
   rcases h3 with h3 | h3
   · rw [h3] at h1; cases h1
   · simp [h3] at h2
 · intro h
   apply Classical.byContradiction
   intro hno
   have : othersFrom c 0 9 = true := othersFrom_ok.2 fun i _ hi => by
    obtain ⟨j, hj, he⟩ := fo_all i (by omega)
    rw [hl, ← he]
    cases ha : l.contains (fo j) with
    | true => exact .inl rfl
    | false =>
     cases hz : zeroF c (fo j) with
     | true => exact .inr rfl
     | false => exact absurd ⟨j, hj, ha, by simp [hz]⟩ hno
   rw [h] at this
   cases this
theorem spec_zero {S : Spc} (h0 : S.name.size = 0) (h1 : S.labels.length = 0) (h2 : S.init.length = 0) (h3 : S.main.length = 0) (h4 : S.restart = 0) (h5 : S.grace = 0) (h6 : S.prio = 0) : S = Z0 := by
 obtain ⟨a0, a1, a2, a3, a4, a5, a6⟩ := S
 simp only at h0 h1 h2 h3 h4 h5 h6
 obtain rfl := empty_of h0
 obtain rfl := List.length_eq_zero_iff.1 h1
 obtain rfl := List.length_eq_zero_iff.1 h2
 obtain rfl := List.length_eq_zero_iff.1 h3
 subst h4 h5 h6
 rfl
theorem check_first (c : Cal) (hk : ¬ (c.kind < 1 ∨ 12 < c.kind)) {y : Say} (h : fieldsFrom c (fieldsV c.kind) = y) (hy : y.1 ≠ 0) : checkC c = y := by
 unfold checkC
 rw [if_neg hk, h, if_pos hy]
theorem check_last (c : Cal) (hk : ¬ (c.kind < 1 ∨ 12 < c.kind)) (h : fieldsFrom c (fieldsV c.kind) = fine) : checkC c = if othersFrom c 0 9 = false then (4, a_call) else fine := by
 unfold checkC
 rw [if_neg hk, h, if_neg (by decide)]
theorem fields_step (c : Cal) (l : List Int) (k : Nat) (hk : k < l.length) : fieldsFrom c (l.drop k) = if (checkF c l[k]).1 ≠ 0 then checkF c l[k] else fieldsFrom c (l.drop (k + 1)) := by
 rw [List.drop_eq_getElem_cons hk]; rfl
def FC (c : Cal) (A : Option Addr) (m cap b : Nat) (LA : Option Addr) (lc : Nat) (IA : Option Addr) (ic : Nat) (MA : Option Addr) (mc : Nat) (SA : Option Addr) (sc : Nat) (p n : Nat → Bool) : Nat → Value → World → Prop
 | 0 => fun v _ => v = .slice A m cap
 | 1 => fun v _ => v = .bool (p 0)
 | 2 => fun v _ => v = .bool (!p 0)
 | 3 => fun v _ => v = .bool (!p 0)
 | 4 => fun v _ => v = gt (p 0) (.pointer (some ⟨b, 1, none⟩))
 | 5 => fun v _ => v = gt (p 0) (.int .i64 c.uid)
 | 6 => fun v _ => v = gt (p 0) (.bool (n 0))
 | 7 => fun v _ => v = .bool (!p 0 && n 0)
 | 8 => fun v _ => v = .bool (acc p n 0)
 | 9 => fun v _ => v = gt (acc p n 0) (.slice A m cap)
 | 10 => fun v _ => v = gt (acc p n 0) (.bool (p 1))
 | 11 => fun v _ => v = gt (acc p n 0) (.bool (!p 1))
 | 12 => fun v _ => v = gt (acc p n 0) (.bool (!p 1))
 | 13 => fun v _ => v = gt (acc p n 0 || p 1) (.pointer (some ⟨b, 2, none⟩))
 | 14 => fun v _ => v = gt (acc p n 0 || p 1) (.int .u64 c.rev)
 | 15 => fun v _ => v = gt (acc p n 0 || p 1) (.bool (n 1))
 | 16 => fun v _ => v = gt (acc p n 0) (.bool (!p 1 && n 1))
 | 17 => fun v _ => v = .bool (acc p n 1)
 | 18 => fun v _ => v = .bool (acc p n 1)
 | 19 => fun v _ => v = gt (acc p n 1) (.slice A m cap)
 | 20 => fun v _ => v = gt (acc p n 1) (.bool (p 2))
 | 21 => fun v _ => v = gt (acc p n 1) (.bool (!p 2))
 | 22 => fun v _ => v = gt (acc p n 1) (.bool (!p 2))
 | 23 => fun v _ => v = gt (acc p n 1 || p 2) (.bool (!n 2))
 | 24 => fun v _ => v = gt (acc p n 1 || p 2) (.bool (n 2))
 | 25 => fun v _ => v = gt (acc p n 1) (.bool (!p 2 && n 2))
 | 26 => fun v _ => v = .bool (acc p n 2)
 | 27 => fun v _ => v = .bool (acc p n 2)
 | 28 => fun v _ => v = gt (acc p n 2) (.slice A m cap)
 | 29 => fun v _ => v = gt (acc p n 2) (.bool (p 3))
 | 30 => fun v _ => v = gt (acc p n 2) (.bool (!p 3))
 | 31 => fun v _ => v = gt (acc p n 2) (.bool (!p 3))
 | 32 => fun v _ => v = gt (acc p n 2 || p 3) (.pointer (some ⟨b, 10, none⟩))
 | 33 => fun v _ => v = gt (acc p n 2 || p 3) (.int .i64 c.grace)
 | 34 => fun v _ => v = gt (acc p n 2 || p 3) (.bool (n 3))
 | 35 => fun v _ => v = gt (acc p n 2) (.bool (!p 3 && n 3))
 | 36 => fun v _ => v = .bool (acc p n 3)
 | 37 => fun v _ => v = .bool (acc p n 3)
 | 38 => fun v _ => v = gt (acc p n 3) (.slice A m cap)
 | 39 => fun v _ => v = gt (acc p n 3) (.bool (p 4))
 | 40 => fun v _ => v = gt (acc p n 3) (.bool (!p 4))
 | 41 => fun v _ => v = gt (acc p n 3) (.bool (!p 4))
 | 42 => fun v _ => v = gt (acc p n 3 || p 4) (.pointer (some ⟨b, 11, none⟩))
 | 43 => fun v _ => v = gt (acc p n 3 || p 4) (.int .i64 c.ctr)
 | 44 => fun v _ => v = gt (acc p n 3 || p 4) (.bool (n 4))
 | 45 => fun v _ => v = gt (acc p n 3) (.bool (!p 4 && n 4))
 | 46 => fun v _ => v = .bool (acc p n 4)
 | 47 => fun v _ => v = .bool (acc p n 4)
 | 48 => fun v _ => v = gt (acc p n 4) (.slice A m cap)
 | 49 => fun v _ => v = gt (acc p n 4) (.bool (p 5))
 | 50 => fun v _ => v = gt (acc p n 4) (.bool (!p 5))
 | 51 => fun v _ => v = gt (acc p n 4) (.bool (!p 5))
 | 52 => fun v _ => v = gt (acc p n 4 || p 5) (.pointer (some ⟨b, 12, none⟩))
 | 53 => fun v _ => v = gt (acc p n 4 || p 5) (.int .i64 c.id)
 | 54 => fun v _ => v = gt (acc p n 4 || p 5) (.bool (n 5))
 | 55 => fun v _ => v = gt (acc p n 4) (.bool (!p 5 && n 5))
 | 56 => fun v _ => v = .bool (acc p n 5)
 | 57 => fun v _ => v = .bool (acc p n 5)
 | 58 => fun v _ => v = gt (acc p n 5) (.slice A m cap)
 | 59 => fun v _ => v = gt (acc p n 5) (.bool (p 6))
 | 60 => fun v _ => v = gt (acc p n 5) (.bool (!p 6))
 | 61 => fun v _ => v = gt (acc p n 5) (.bool (!p 6))
 | 62 => fun v _ => v = gt (acc p n 5 || p 6) (.pointer (some ⟨b, 13, none⟩))
 | 63 => fun v _ => v = gt (acc p n 5 || p 6) (.int .i64 c.most)
 | 64 => fun v _ => v = gt (acc p n 5 || p 6) (.bool (n 6))
 | 65 => fun v _ => v = gt (acc p n 5) (.bool (!p 6 && n 6))
 | 66 => fun v _ => v = .bool (acc p n 6)
 | 67 => fun v _ => v = .bool (acc p n 6)
 | 68 => fun v _ => v = gt (acc p n 6) (.slice A m cap)
 | 69 => fun v _ => v = gt (acc p n 6) (.bool (p 7))
 | 70 => fun v _ => v = gt (acc p n 6) (.bool (!p 7))
 | 71 => fun v _ => v = gt (acc p n 6) (.bool (!p 7))
 | 72 => fun v _ => v = gt (acc p n 6 || p 7) (.pointer (some ⟨b, 14, none⟩))
 | 73 => fun v _ => v = gt (acc p n 6 || p 7) (.string c.data)
 | 74 => fun v _ => v = gt (acc p n 6 || p 7) (.bool (n 7))
 | 75 => fun v _ => v = gt (acc p n 6) (.bool (!p 7 && n 7))
 | 76 => fun v _ => v = .bool (acc p n 7)
 | 77 => fun v _ => v = .bool (acc p n 7)
 | 78 => fun v _ => v = gt (acc p n 7) (.slice A m cap)
 | 79 => fun v _ => v = gt (acc p n 7) (.bool (p 8))
 | 80 => fun v _ => v = gt (acc p n 7) (.bool (!p 8))
 | 81 => fun v _ => v = gt (acc p n 7) (.bool (!p 8))
 | 82 => fun v _ => v = gt (acc p n 7 || p 8) (.pointer (some ⟨b, 15, none⟩))
 | 83 => fun v _ => v = gt (acc p n 7 || p 8) (.slice SA c.sel.length sc)
 | 84 => fun v _ => v = gt (acc p n 7 || p 8) (.int .i64 c.sel.length)
 | 85 => fun v _ => v = gt (acc p n 7 || p 8) (.bool (n 8))
 | 86 => fun v _ => v = gt (acc p n 7) (.bool (!p 8 && n 8))
 | _ => fun v _ => v = .bool (acc p n 8)
theorem FC_keep (c : Cal) (A : Option Addr) (m cap b : Nat) (LA : Option Addr) (lc : Nat) (IA : Option Addr) (ic : Nat) (MA : Option Addr) (mc : Nat) (SA : Option Addr) (sc : Nat) (p n : Nat → Bool) (i_ : Nat) (v_ : Value) (w_ w2_ : World) (h_ : FC c A m cap b LA lc IA ic MA mc SA sc p n i_ v_ w_) (hb_ : Below w_.heap.size w_ w2_) : FC c A m cap b LA lc IA ic MA mc SA sc p n i_ v_ w2_ := by
 unfold FC at h_ ⊢
 split at h_ <;> exact h_

set_option maxRecDepth 100000 in
set_option maxHeartbeats 8000000 in
theorem checkR_any (c : Cal) (LA : Option Addr) (lc : Nat) (IA : Option Addr) (ic : Nat) (MA : Option Addr) (mc : Nat) (SA : Option Addr) (sc : Nat) (hLt : LightC c) (w : World) (h : c.In w LA lc IA ic MA mc SA) :
 Calls Tryz.prog 22 #[.agg #[.int .i64 c.kind, .int .i64 c.uid, .int .u64 c.rev, .string c.spec.name, .slice LA c.spec.labels.length lc, .slice IA c.spec.init.length ic, .slice MA c.spec.main.length mc, .int .i64 c.spec.restart, .int .i64 c.spec.grace, .int .i64 c.spec.prio, .int .i64 c.grace, .int .i64 c.ctr, .int .i64 c.id, .int .i64 c.most, .string c.data, .slice SA c.sel.length sc]] w fun e w' => e = .returned (.tuple #[.int .i64 (checkC c).1, .string (checkC c).2]) ∧ Below w.heap.size w w' := by
 have HLT := Lib.hid hLt
 have H := Lib.hid h
 obtain ⟨w1, hw1⟩ : ∃ v, w.alloc (.cells #[.int .i64 c.kind, .int .i64 c.uid, .int .u64 c.rev, .string c.spec.name, .slice LA c.spec.labels.length lc, .slice IA c.spec.init.length ic, .slice MA c.spec.main.length mc, .int .i64 c.spec.restart, .int .i64 c.spec.grace, .int .i64 c.spec.prio, .int .i64 c.grace, .int .i64 c.ctr, .int .i64 c.id, .int .i64 c.most, .string c.data, .slice SA c.sel.length sc] 41) = v := ⟨_, rfl⟩
 have B1 := Lib.hid (show Below w.heap.size w w1 by rw [← hw1]; exact (Below.refl _ _).alloc (Nat.le_refl _) _)
 have X1 := Lib.hid (show w1.heap[w.heap.size]? = some (.cells #[.int .i64 c.kind, .int .i64 c.uid, .int .u64 c.rev, .string c.spec.name, .slice LA c.spec.labels.length lc, .slice IA c.spec.init.length ic, .slice MA c.spec.main.length mc, .int .i64 c.spec.restart, .int .i64 c.spec.grace, .int .i64 c.spec.prio, .int .i64 c.grace, .int .i64 c.ctr, .int .i64 c.id, .int .i64 c.most, .string c.data, .slice SA c.sel.length sc] 41) by rw [← hw1]; exact heap_alloc_new w _)
 have c0 := box_cell X1.out 0 rfl
 clear h hLt
 go_enter Tryz.func22, Tryz.ntmps22
 by_cases hk1 : c.kind < 1
 · have HD := Lib.hid (show checkC c = (80, a_kind) from if_pos (.inl hk1))
   go_wp2
   go_ret2
   exact ⟨ret_two HD.out rfl rfl, B1.out⟩
 by_cases hk2 : 12 < c.kind
 · have HD := Lib.hid (show checkC c = (80, a_kind) from if_pos (.inr hk2))
   go_wp2
   go_ret2
   exact ⟨ret_two HD.out rfl rfl, B1.out⟩
 have HKR := Lib.hid (show ¬ (c.kind < 1 ∨ 12 < c.kind) by omega)
 go_wp2_with fail
 refine (names_fields c.kind w1).mono ?_
 rintro e w2 ⟨A, cap, rfl, hT, hb2⟩
 obtain ⟨b, hb⟩ : ∃ b, w.heap.size = b := ⟨_, rfl⟩
 have HBB := Lib.hid hb
 have B2 := Lib.hid (B1.out.trans (hb2.mono B1.out.size))
 have X2 := Lib.hid ((hb2.block w.heap.size (lt_of_block X1.out)).trans X1.out)
 rw [hb] at X2 ⊢
 clear hb2 X1 hw1 c0 hk1 hk2 hb
 have TX0 := Lib.hid hT
 have HFE := Lib.hid (has_field c.kind)
 have HLE := Lib.hid (fields_len c.kind)
 have HRG := Lib.hid (fields_lt c.kind)
 have HCK := Lib.hid (show ∀ y : Say, fieldsFrom c (fieldsV c.kind) = y → y.1 ≠ 0 → checkC c = y from fun y h1 h2 => check_first c HKR.out h1 h2)
 obtain ⟨l, hl⟩ : ∃ l, fieldsV c.kind = l := ⟨_, rfl⟩
 obtain ⟨xs, hxs⟩ : ∃ xs, namesV c.kind = xs := ⟨_, rfl⟩
 have HXS := Lib.hid (show xs = l.map nameF by rw [← hxs, ← hl]; rfl)
 rw [hl] at HFE HLE HRG HCK
 rw [hl]
 rw [hxs] at TX0 HFE
 have HLV := Lib.hid hl
 clear hT hl hxs
 have hn3 : (l.length : Int) ≤ 3 := by have := HLE.out; omega
 go_wp2_with fail
 go_loopw [5] (fun i wr => ∃ k : Nat, k ≤ l.length ∧ i = .int .i64 k ∧ Hid (Below w.heap.size w wr) ∧ Hid (Below w2.heap.size w2 wr) ∧ Hid (fieldsFrom c l = fieldsFrom c (l.drop k))) (fun i _ => l.length - (RowKit.intOf i).toNat)
 case atStart => exact ⟨0, Nat.zero_le _, rfl, B2.out, Below.refl _ _, rfl⟩
 case round =>
  obtain ⟨k, hk, rfl, BW, CW, HF⟩ := hrel
  have XW := Lib.hid ((CW.out.block b (lt_of_block X2.out)).trans X2.out)
  by_cases hlt : k < l.length
  · have hx : k < xs.length := by rw [HXS.out, List.length_map]; exact hlt
    obtain ⟨a, rfl, ha, hc⟩ := (texts_below TX0.out CW.out).at hx
    have hka : (k : Int) < (l.length : Int) := by omega
    have hrg := HRG.out l[k] (List.getElem_mem hlt)
    have hnm : xs[k] = nameF l[k] := by simp only [HXS.out, List.getElem_map]
    have hs := fields_step c l k hlt
    rw [hnm] at hc
    obtain ⟨f, hf⟩ : ∃ f, l[k] = f := ⟨_, rfl⟩
    rw [hf] at hc hs hrg
    have HS := Lib.hid (show fieldsFrom c (l.drop k) = if (checkF c f).1 ≠ 0 then checkF c f else fieldsFrom c (l.drop (k + 1)) from hs)
    have HCK := Lib.hid (show fieldsFrom c (l.drop k) = (if (checkF c f).1 ≠ 0 then checkF c f else fieldsFrom c (l.drop (k + 1))) → ∀ g : Int, g = f → (checkF c g).1 ≠ 0 → checkC c = checkF c g from fun h1 g hg h2 => by subst hg; exact HCK.out _ (HF.out.trans (h1.trans (if_pos h2))) h2)
    clear hs hf hnm ha hx
    rcases (by omega : f = 0 ∨ f = 1 ∨ f = 2 ∨ f = 3 ∨ f = 4 ∨ f = 5 ∨ f = 6 ∨ f = 7 ∨ f = 8) with rfl | rfl | rfl | rfl | rfl | rfl | rfl | rfl | rfl
    all_goals clear hrg
    · rw [show nameF 0 = ⟨#[117, 105, 100]⟩ from rfl] at hc
      as_aux_lemma =>
       have ld := Lib.hid (range_call XW.out)
       go_wp2_with (refine wpList_load_mid rfl _ _ rfl _ _ rfl _ _ ld.out Tryz.underlying41 rfl (by kernel_rfl) ?_)
       refine (bounds_0 c LA lc IA ic MA mc SA sc wr).mono ?_
       rintro e w5 ⟨rfl, hb5⟩
       have B5 := Lib.hid (BW.out.trans (hb5.mono BW.out.size))
       have C5 := Lib.hid (CW.out.trans (hb5.mono CW.out.size))
       have X5 := Lib.hid ((hb5.block b (lt_of_block XW.out)).trans XW.out)
       clear hb5 XW ld hc
       as_aux_lemma =>
        by_cases h1 : c.uid < 1
        · have HE := Lib.hid ((show checkF c 0 = rangeV c.uid 1 1073741824 a_uid from rfl).trans (if_pos (.inl h1)))
          have HD := Lib.hid (show checkC c = (1, a_uid) from (HCK.out HS.out 0 rfl (by show (checkF c 0).1 ≠ 0; rw [HE.out]; first | decide | exact HCZ.out)).trans HE.out)
          go_wp2
          go_ret2
          exact ⟨ret_two HD.out rfl rfl, HBB.out ▸ B5.out⟩
        by_cases h2 : 1073741824 < c.uid
        · have HE := Lib.hid ((show checkF c 0 = rangeV c.uid 1 1073741824 a_uid from rfl).trans (if_pos (.inr h2)))
          have HD := Lib.hid (show checkC c = (1, a_uid) from (HCK.out HS.out 0 rfl (by show (checkF c 0).1 ≠ 0; rw [HE.out]; first | decide | exact HCZ.out)).trans HE.out)
          go_wp2
          go_ret2
          exact ⟨ret_two HD.out rfl rfl, HBB.out ▸ B5.out⟩
        have HOK := Lib.hid ((show checkF c 0 = rangeV c.uid 1 1073741824 a_uid from rfl).trans (if_neg (by omega)))
        have HN := Lib.hid (HS.out.trans (if_neg (show ¬ (checkF c 0).1 ≠ 0 from by rw [HOK.out]; decide)))
        go_wp2
        go_roundw
        case rel => exact ⟨k + 1, by omega, by go_num, B5.out, C5.out, Lib.hid (HF.out.trans HN.out)⟩
        case measure => simp [RowKit.intOf]; omega
    · rw [show nameF 1 = ⟨#[114, 101, 118]⟩ from rfl] at hc
      as_aux_lemma =>
       have ld := Lib.hid (range_call XW.out)
       go_wp2_with (refine wpList_load_mid rfl _ _ rfl _ _ rfl _ _ ld.out Tryz.underlying41 rfl (by kernel_rfl) ?_)
       refine (bounds_1 c LA lc IA ic MA mc SA sc wr).mono ?_
       rintro e w5 ⟨rfl, hb5⟩
       have B5 := Lib.hid (BW.out.trans (hb5.mono BW.out.size))
       have C5 := Lib.hid (CW.out.trans (hb5.mono CW.out.size))
       have X5 := Lib.hid ((hb5.block b (lt_of_block XW.out)).trans XW.out)
       clear hb5 XW ld hc
       as_aux_lemma =>
        have HOK := Lib.hid (show checkF c 1 = fine from rfl)
        have HN := Lib.hid (HS.out.trans (if_neg (show ¬ (checkF c 1).1 ≠ 0 from by rw [HOK.out]; decide)))
        go_wp2
        go_roundw
        case rel => exact ⟨k + 1, by omega, by go_num, B5.out, C5.out, Lib.hid (HF.out.trans HN.out)⟩
        case measure => simp [RowKit.intOf]; omega
    · rw [show nameF 2 = ⟨#[115, 112, 101, 99]⟩ from rfl] at hc
      as_aux_lemma =>
       have ld := Lib.hid (range_call XW.out)
       go_wp2_with (refine wpList_load_mid rfl _ _ rfl _ _ rfl _ _ ld.out Tryz.underlying41 rfl (by kernel_rfl) ?_)
       refine (bounds_2 c LA lc IA ic MA mc SA sc wr).mono ?_
       rintro e w5 ⟨rfl, hb5⟩
       have B5 := Lib.hid (BW.out.trans (hb5.mono BW.out.size))
       have C5 := Lib.hid (CW.out.trans (hb5.mono CW.out.size))
       have X5 := Lib.hid ((hb5.block b (lt_of_block XW.out)).trans XW.out)
       clear hb5 XW ld hc
       as_aux_lemma =>
        have c3 := box_cell X5.out 3 rfl
        have c4 := box_cell X5.out 4 rfl
        have c5 := box_cell X5.out 5 rfl
        have c6 := box_cell X5.out 6 rfl
        have c7 := box_cell X5.out 7 rfl
        have c8 := box_cell X5.out 8 rfl
        have c9 := box_cell X5.out 9 rfl
        go_wp2_with fail
        refine (check_ref c.spec LA lc IA ic MA mc HLT.out.spec w5 (H.out.spec.below B5.out)).mono ?_
        rintro e w6 ⟨rfl, hb6⟩
        have B6 := Lib.hid (B5.out.trans (hb6.mono B5.out.size))
        have C6 := Lib.hid (C5.out.trans (hb6.mono C5.out.size))
        clear hb6 X5
        obtain ⟨Y, hY⟩ : ∃ Y, checkV c.spec = Y := ⟨_, rfl⟩
        rw [hY]
        have HY := Lib.hid hY
        have HPS := Lib.hid (check_size HLT.out.spec)
        clear hY
        obtain ⟨cc, pp⟩ := Y
        have HPP := Lib.hid (show pp.size ≤ 1000 by have := HPS.out; rw [HY.out] at this; exact this)
        clear HPS
        by_cases hz : cc = 0
        rotate_left
        · have hz' : (cc == 0) = false := by simpa using hz
          have HCZ := Lib.hid (show cc ≠ 0 from hz)
          have hadd : ∀ v, (Op.stringOp .add ⟨#[115, 112, 101, 99, 46]⟩ pp).run Tryz.prog v = .ok (.string ((⟨#[115, 112, 101, 99, 46]⟩ : ByteArray) ++ pp)) v := fun v => run_string_add_sum v _ _ (by show 5 + pp.size ≤ _; have := HPP.out; omega)
          have HE := Lib.hid (show checkF c 2 = (cc, a_spec ++ ⟨#[46]⟩ ++ pp) by show inV a_spec (checkV c.spec) = _; rw [HY.out]; exact if_neg hz)
          have HD := Lib.hid (show checkC c = (cc, (⟨#[115, 112, 101, 99, 46]⟩ : ByteArray) ++ pp) from (HCK.out HS.out 2 rfl (by show (checkF c 2).1 ≠ 0; rw [HE.out]; exact hz)).trans (HE.out.trans (by rw [show a_spec ++ (⟨#[46]⟩ : ByteArray) = ⟨#[115, 112, 101, 99, 46]⟩ from rfl])))
          clear hz
          go_wp2
          go_ret2
          exact ⟨ret_two HD.out rfl rfl, HBB.out ▸ B6.out⟩
        subst hz
        have HOK := Lib.hid (show checkF c 2 = fine by show inV a_spec (checkV c.spec) = _; rw [HY.out]; exact if_pos rfl)
        have HN := Lib.hid (HS.out.trans (if_neg (show ¬ (checkF c 2).1 ≠ 0 from by rw [HOK.out]; decide)))
        go_wp2
        go_roundw
        case rel => exact ⟨k + 1, by omega, by go_num, B6.out, C6.out, Lib.hid (HF.out.trans HN.out)⟩
        case measure => simp [RowKit.intOf]; omega
    · rw [show nameF 3 = ⟨#[103, 114, 97, 99, 101]⟩ from rfl] at hc
      as_aux_lemma =>
       have ld := Lib.hid (range_call XW.out)
       go_wp2_with (refine wpList_load_mid rfl _ _ rfl _ _ rfl _ _ ld.out Tryz.underlying41 rfl (by kernel_rfl) ?_)
       refine (bounds_3 c LA lc IA ic MA mc SA sc wr).mono ?_
       rintro e w5 ⟨rfl, hb5⟩
       have B5 := Lib.hid (BW.out.trans (hb5.mono BW.out.size))
       have C5 := Lib.hid (CW.out.trans (hb5.mono CW.out.size))
       have X5 := Lib.hid ((hb5.block b (lt_of_block XW.out)).trans XW.out)
       clear hb5 XW ld hc
       as_aux_lemma =>
        by_cases h1 : c.grace < 0
        · have HE := Lib.hid ((show checkF c 3 = rangeV c.grace 0 1000 a_grace from rfl).trans (if_pos (.inl h1)))
          have HD := Lib.hid (show checkC c = (1, a_grace) from (HCK.out HS.out 3 rfl (by show (checkF c 3).1 ≠ 0; rw [HE.out]; first | decide | exact HCZ.out)).trans HE.out)
          go_wp2
          go_ret2
          exact ⟨ret_two HD.out rfl rfl, HBB.out ▸ B5.out⟩
        by_cases h2 : 1000 < c.grace
        · have HE := Lib.hid ((show checkF c 3 = rangeV c.grace 0 1000 a_grace from rfl).trans (if_pos (.inr h2)))
          have HD := Lib.hid (show checkC c = (1, a_grace) from (HCK.out HS.out 3 rfl (by show (checkF c 3).1 ≠ 0; rw [HE.out]; first | decide | exact HCZ.out)).trans HE.out)
          go_wp2
          go_ret2
          exact ⟨ret_two HD.out rfl rfl, HBB.out ▸ B5.out⟩
        have HOK := Lib.hid ((show checkF c 3 = rangeV c.grace 0 1000 a_grace from rfl).trans (if_neg (by omega)))
        have HN := Lib.hid (HS.out.trans (if_neg (show ¬ (checkF c 3).1 ≠ 0 from by rw [HOK.out]; decide)))
        go_wp2
        go_roundw
        case rel => exact ⟨k + 1, by omega, by go_num, B5.out, C5.out, Lib.hid (HF.out.trans HN.out)⟩
        case measure => simp [RowKit.intOf]; omega
    · rw [show nameF 4 = ⟨#[99, 116, 114]⟩ from rfl] at hc
      as_aux_lemma =>
       have ld := Lib.hid (range_call XW.out)
       go_wp2_with (refine wpList_load_mid rfl _ _ rfl _ _ rfl _ _ ld.out Tryz.underlying41 rfl (by kernel_rfl) ?_)
       refine (bounds_4 c LA lc IA ic MA mc SA sc wr).mono ?_
       rintro e w5 ⟨rfl, hb5⟩
       have B5 := Lib.hid (BW.out.trans (hb5.mono BW.out.size))
       have C5 := Lib.hid (CW.out.trans (hb5.mono CW.out.size))
       have X5 := Lib.hid ((hb5.block b (lt_of_block XW.out)).trans XW.out)
       clear hb5 XW ld hc
       as_aux_lemma =>
        by_cases h1 : c.ctr < 0
        · have HE := Lib.hid ((show checkF c 4 = rangeV c.ctr 0 3 a_ctr from rfl).trans (if_pos (.inl h1)))
          have HD := Lib.hid (show checkC c = (1, a_ctr) from (HCK.out HS.out 4 rfl (by show (checkF c 4).1 ≠ 0; rw [HE.out]; first | decide | exact HCZ.out)).trans HE.out)
          go_wp2
          go_ret2
          exact ⟨ret_two HD.out rfl rfl, HBB.out ▸ B5.out⟩
        by_cases h2 : 3 < c.ctr
        · have HE := Lib.hid ((show checkF c 4 = rangeV c.ctr 0 3 a_ctr from rfl).trans (if_pos (.inr h2)))
          have HD := Lib.hid (show checkC c = (1, a_ctr) from (HCK.out HS.out 4 rfl (by show (checkF c 4).1 ≠ 0; rw [HE.out]; first | decide | exact HCZ.out)).trans HE.out)
          go_wp2
          go_ret2
          exact ⟨ret_two HD.out rfl rfl, HBB.out ▸ B5.out⟩
        have HOK := Lib.hid ((show checkF c 4 = rangeV c.ctr 0 3 a_ctr from rfl).trans (if_neg (by omega)))
        have HN := Lib.hid (HS.out.trans (if_neg (show ¬ (checkF c 4).1 ≠ 0 from by rw [HOK.out]; decide)))
        go_wp2
        go_roundw
        case rel => exact ⟨k + 1, by omega, by go_num, B5.out, C5.out, Lib.hid (HF.out.trans HN.out)⟩
        case measure => simp [RowKit.intOf]; omega
    · rw [show nameF 5 = ⟨#[105, 100]⟩ from rfl] at hc
      as_aux_lemma =>
       have ld := Lib.hid (range_call XW.out)
       go_wp2_with (refine wpList_load_mid rfl _ _ rfl _ _ rfl _ _ ld.out Tryz.underlying41 rfl (by kernel_rfl) ?_)
       refine (bounds_5 c LA lc IA ic MA mc SA sc wr).mono ?_
       rintro e w5 ⟨rfl, hb5⟩
       have B5 := Lib.hid (BW.out.trans (hb5.mono BW.out.size))
       have C5 := Lib.hid (CW.out.trans (hb5.mono CW.out.size))
       have X5 := Lib.hid ((hb5.block b (lt_of_block XW.out)).trans XW.out)
       clear hb5 XW ld hc
       as_aux_lemma =>
        by_cases h1 : c.id < 1
        · have HE := Lib.hid ((show checkF c 5 = rangeV c.id 1 1073741824 a_id from rfl).trans (if_pos (.inl h1)))
          have HD := Lib.hid (show checkC c = (1, a_id) from (HCK.out HS.out 5 rfl (by show (checkF c 5).1 ≠ 0; rw [HE.out]; first | decide | exact HCZ.out)).trans HE.out)
          go_wp2
          go_ret2
          exact ⟨ret_two HD.out rfl rfl, HBB.out ▸ B5.out⟩
        by_cases h2 : 1073741824 < c.id
        · have HE := Lib.hid ((show checkF c 5 = rangeV c.id 1 1073741824 a_id from rfl).trans (if_pos (.inr h2)))
          have HD := Lib.hid (show checkC c = (1, a_id) from (HCK.out HS.out 5 rfl (by show (checkF c 5).1 ≠ 0; rw [HE.out]; first | decide | exact HCZ.out)).trans HE.out)
          go_wp2
          go_ret2
          exact ⟨ret_two HD.out rfl rfl, HBB.out ▸ B5.out⟩
        have HOK := Lib.hid ((show checkF c 5 = rangeV c.id 1 1073741824 a_id from rfl).trans (if_neg (by omega)))
        have HN := Lib.hid (HS.out.trans (if_neg (show ¬ (checkF c 5).1 ≠ 0 from by rw [HOK.out]; decide)))
        go_wp2
        go_roundw
        case rel => exact ⟨k + 1, by omega, by go_num, B5.out, C5.out, Lib.hid (HF.out.trans HN.out)⟩
        case measure => simp [RowKit.intOf]; omega
    · rw [show nameF 6 = ⟨#[100, 97, 116, 97]⟩ from rfl] at hc
      as_aux_lemma =>
       have ld := Lib.hid (range_call XW.out)
       go_wp2_with (refine wpList_load_mid rfl _ _ rfl _ _ rfl _ _ ld.out Tryz.underlying41 rfl (by kernel_rfl) ?_)
       refine (bounds_6 c LA lc IA ic MA mc SA sc wr).mono ?_
       rintro e w5 ⟨rfl, hb5⟩
       have B5 := Lib.hid (BW.out.trans (hb5.mono BW.out.size))
       have C5 := Lib.hid (CW.out.trans (hb5.mono CW.out.size))
       have X5 := Lib.hid ((hb5.block b (lt_of_block XW.out)).trans XW.out)
       clear hb5 XW ld hc
       as_aux_lemma =>
        have c14 := box_cell X5.out 14 rfl
        by_cases h1 : 32 < c.data.size
        · have h1' : 32 < (c.data.size : Int) := by omega
          have HE := Lib.hid ((show checkF c 6 = (if 32 < c.data.size then (2, a_data) else fine) from rfl).trans (if_pos h1))
          have HD := Lib.hid (show checkC c = (2, a_data) from (HCK.out HS.out 6 rfl (by show (checkF c 6).1 ≠ 0; rw [HE.out]; first | decide | exact HCZ.out)).trans HE.out)
          go_wp2
          go_ret2
          exact ⟨ret_two HD.out rfl rfl, HBB.out ▸ B5.out⟩
        have h1' : ¬ 32 < (c.data.size : Int) := by omega
        have HOK := Lib.hid ((show checkF c 6 = (if 32 < c.data.size then (2, a_data) else fine) from rfl).trans (if_neg h1))
        have HN := Lib.hid (HS.out.trans (if_neg (show ¬ (checkF c 6).1 ≠ 0 from by rw [HOK.out]; decide)))
        go_wp2
        go_roundw
        case rel => exact ⟨k + 1, by omega, by go_num, B5.out, C5.out, Lib.hid (HF.out.trans HN.out)⟩
        case measure => simp [RowKit.intOf]; omega
    · rw [show nameF 7 = ⟨#[109, 111, 115, 116]⟩ from rfl] at hc
      as_aux_lemma =>
       have ld := Lib.hid (range_call XW.out)
       go_wp2_with (refine wpList_load_mid rfl _ _ rfl _ _ rfl _ _ ld.out Tryz.underlying41 rfl (by kernel_rfl) ?_)
       refine (bounds_7 c LA lc IA ic MA mc SA sc wr).mono ?_
       rintro e w5 ⟨rfl, hb5⟩
       have B5 := Lib.hid (BW.out.trans (hb5.mono BW.out.size))
       have C5 := Lib.hid (CW.out.trans (hb5.mono CW.out.size))
       have X5 := Lib.hid ((hb5.block b (lt_of_block XW.out)).trans XW.out)
       clear hb5 XW ld hc
       as_aux_lemma =>
        by_cases h1 : c.most < 1
        · have HE := Lib.hid ((show checkF c 7 = rangeV c.most 1 32 a_most from rfl).trans (if_pos (.inl h1)))
          have HD := Lib.hid (show checkC c = (1, a_most) from (HCK.out HS.out 7 rfl (by show (checkF c 7).1 ≠ 0; rw [HE.out]; first | decide | exact HCZ.out)).trans HE.out)
          go_wp2
          go_ret2
          exact ⟨ret_two HD.out rfl rfl, HBB.out ▸ B5.out⟩
        by_cases h2 : 32 < c.most
        · have HE := Lib.hid ((show checkF c 7 = rangeV c.most 1 32 a_most from rfl).trans (if_pos (.inr h2)))
          have HD := Lib.hid (show checkC c = (1, a_most) from (HCK.out HS.out 7 rfl (by show (checkF c 7).1 ≠ 0; rw [HE.out]; first | decide | exact HCZ.out)).trans HE.out)
          go_wp2
          go_ret2
          exact ⟨ret_two HD.out rfl rfl, HBB.out ▸ B5.out⟩
        have HOK := Lib.hid ((show checkF c 7 = rangeV c.most 1 32 a_most from rfl).trans (if_neg (by omega)))
        have HN := Lib.hid (HS.out.trans (if_neg (show ¬ (checkF c 7).1 ≠ 0 from by rw [HOK.out]; decide)))
        go_wp2
        go_roundw
        case rel => exact ⟨k + 1, by omega, by go_num, B5.out, C5.out, Lib.hid (HF.out.trans HN.out)⟩
        case measure => simp [RowKit.intOf]; omega
    · rw [show nameF 8 = ⟨#[115, 101, 108]⟩ from rfl] at hc
      as_aux_lemma =>
       have ld := Lib.hid (range_call XW.out)
       go_wp2_with (refine wpList_load_mid rfl _ _ rfl _ _ rfl _ _ ld.out Tryz.underlying41 rfl (by kernel_rfl) ?_)
       refine (bounds_8 c LA lc IA ic MA mc SA sc wr).mono ?_
       rintro e w5 ⟨rfl, hb5⟩
       have B5 := Lib.hid (BW.out.trans (hb5.mono BW.out.size))
       have C5 := Lib.hid (CW.out.trans (hb5.mono CW.out.size))
       have X5 := Lib.hid ((hb5.block b (lt_of_block XW.out)).trans XW.out)
       clear hb5 XW ld hc
       as_aux_lemma =>
        have c15 := box_cell X5.out 15 rfl
        go_wp2_with fail
        refine (labels_ref _ SA sc c.sel (by decide) (by have := HLT.out.sel.1; omega) HLT.out.sel.2 w5 (H.out.sel.below B5.out)).mono ?_
        rintro e w6 ⟨rfl, hb6⟩
        have B6 := Lib.hid (B5.out.trans (hb6.mono B5.out.size))
        have C6 := Lib.hid (C5.out.trans (hb6.mono C5.out.size))
        clear hb6 X5
        obtain ⟨Y, hY⟩ : ∃ Y, labelsV ⟨#[115, 101, 108]⟩ c.sel = Y := ⟨_, rfl⟩
        rw [hY]
        have HY := Lib.hid hY
        clear hY
        obtain ⟨cc, pp⟩ := Y
        by_cases hz : cc = 0
        rotate_left
        · have hz' : (cc == 0) = false := by simpa using hz
          have HCZ := Lib.hid (show cc ≠ 0 from hz)
          have HE := Lib.hid (show checkF c 8 = (cc, pp) from HY.out)
          have HD := Lib.hid (show checkC c = (cc, pp) from (HCK.out HS.out 8 rfl (by show (checkF c 8).1 ≠ 0; rw [HE.out]; exact hz)).trans HE.out)
          clear hz
          go_wp2
          go_ret2
          exact ⟨ret_two HD.out rfl rfl, HBB.out ▸ B6.out⟩
        subst hz
        have HOK := Lib.hid (show (checkF c 8).1 = 0 by show (labelsV a_sel c.sel).1 = 0; rw [show a_sel = ⟨#[115, 101, 108]⟩ from rfl, HY.out])
        have HN := Lib.hid (HS.out.trans (if_neg (show ¬ (checkF c 8).1 ≠ 0 from by rw [HOK.out]; exact fun h => h rfl)))
        go_wp2
        go_roundw
        case rel => exact ⟨k + 1, by omega, by go_num, B6.out, C6.out, Lib.hid (HF.out.trans HN.out)⟩
        case measure => simp [RowKit.intOf]; omega
  · have hka : ¬ (k : Int) < (l.length : Int) := by omega
    have HFF := Lib.hid (show fieldsFrom c l = fine by rw [HF.out, List.drop_of_length_le (by omega)]; rfl)
    have HLV2 := Lib.hid (show checkC c = if othersFrom c 0 9 = false then (4, a_call) else fine from (check_last c HKR.out (by rw [HLV.out]; exact HFF.out)))
    clear HF
    as_aux_lemma =>
     have c3 := box_cell XW.out 3 rfl
     have c4 := box_cell XW.out 4 rfl
     have c5 := box_cell XW.out 5 rfl
     have c6 := box_cell XW.out 6 rfl
     have c7 := box_cell XW.out 7 rfl
     have c8 := box_cell XW.out 8 rfl
     have c9 := box_cell XW.out 9 rfl
     go_upto_region 22 with (fail)
     obtain ⟨w5, hw5⟩ : ∃ v, wr.alloc (.cells #[.string c.spec.name, .slice LA c.spec.labels.length lc, .slice IA c.spec.init.length ic, .slice MA c.spec.main.length mc, .int .i64 c.spec.restart, .int .i64 c.spec.grace, .int .i64 c.spec.prio] 28) = v := ⟨_, rfl⟩
     have hb5 : Below wr.heap.size wr w5 := by rw [← hw5]; exact (Below.refl _ _).alloc (Nat.le_refl _) _
     have SB := Lib.hid (show w5.heap[wr.heap.size]? = some (.cells #[.string c.spec.name, .slice LA c.spec.labels.length lc, .slice IA c.spec.init.length ic, .slice MA c.spec.main.length mc, .int .i64 c.spec.restart, .int .i64 c.spec.grace, .int .i64 c.spec.prio] 28) by rw [← hw5]; exact heap_alloc_new wr _)
     have B5 := Lib.hid (BW.out.trans (hb5.mono BW.out.size))
     have TX := Lib.hid (texts_below (texts_below TX0.out CW.out) hb5)
     have XB := Lib.hid ((hb5.block b (lt_of_block XW.out)).trans XW.out)
     rw [hw5]
     obtain ⟨g, hg⟩ : ∃ g, wr.heap.size = g := ⟨_, rfl⟩
     rw [hg] at SB ⊢
     clear hw5 hg hb5 c3 c4 c5 c6 c7 c8 c9 XW BW CW TX0 X2 B2
     obtain ⟨p, hp⟩ : ∃ p : Nat → Bool, (fun j => l.contains (fo j)) = p := ⟨_, rfl⟩
     obtain ⟨n, hn⟩ : ∃ n : Nat → Bool, (fun j => !zeroF c (fo j)) = n := ⟨_, rfl⟩
     have HLN := Lib.hid (show l.length = xs.length by rw [HXS.out, List.length_map])
     have HAC := Lib.hid (show acc p n 8 = true ↔ othersFrom c 0 9 = false by rw [← hp, ← hn]; exact acc_others c (by rw [HLV.out]))
     have P0 := Lib.hid (show hasT xs ⟨#[117, 105, 100]⟩ = p 0 by rw [← hp]; exact HFE.out ⟨0, by decide⟩)
     have N0 := Lib.hid (show (n 0 = true → c.uid ≠ 0) ∧ (n 0 = false → c.uid = 0) by rw [← hn]; exact zero_two (zeroF c 0) (zero_uid) (by intro h; simp [zeroF, h]))
     have P1 := Lib.hid (show hasT xs ⟨#[114, 101, 118]⟩ = p 1 by rw [← hp]; exact HFE.out ⟨1, by decide⟩)
     have N1 := Lib.hid (show (n 1 = true → c.rev ≠ 0) ∧ (n 1 = false → c.rev = 0) by rw [← hn]; exact zero_two (zeroF c 1) (zero_rev) (by intro h; simp [zeroF, h]))
     have P2 := Lib.hid (show hasT xs ⟨#[115, 112, 101, 99]⟩ = p 2 by rw [← hp]; exact HFE.out ⟨2, by decide⟩)
     have P3 := Lib.hid (show hasT xs ⟨#[103, 114, 97, 99, 101]⟩ = p 3 by rw [← hp]; exact HFE.out ⟨3, by decide⟩)
     have N3 := Lib.hid (show (n 3 = true → c.grace ≠ 0) ∧ (n 3 = false → c.grace = 0) by rw [← hn]; exact zero_two (zeroF c 3) (zero_grace) (by intro h; simp [zeroF, h]))
     have P4 := Lib.hid (show hasT xs ⟨#[99, 116, 114]⟩ = p 4 by rw [← hp]; exact HFE.out ⟨4, by decide⟩)
     have N4 := Lib.hid (show (n 4 = true → c.ctr ≠ 0) ∧ (n 4 = false → c.ctr = 0) by rw [← hn]; exact zero_two (zeroF c 4) (zero_ctr) (by intro h; simp [zeroF, h]))
     have P5 := Lib.hid (show hasT xs ⟨#[105, 100]⟩ = p 5 by rw [← hp]; exact HFE.out ⟨5, by decide⟩)
     have N5 := Lib.hid (show (n 5 = true → c.id ≠ 0) ∧ (n 5 = false → c.id = 0) by rw [← hn]; exact zero_two (zeroF c 5) (zero_id) (by intro h; simp [zeroF, h]))
     have P6 := Lib.hid (show hasT xs ⟨#[109, 111, 115, 116]⟩ = p 6 by rw [← hp]; exact HFE.out ⟨7, by decide⟩)
     have N6 := Lib.hid (show (n 6 = true → c.most ≠ 0) ∧ (n 6 = false → c.most = 0) by rw [← hn]; exact zero_two (zeroF c 7) (zero_most) (by intro h; simp [zeroF, h]))
     have P7 := Lib.hid (show hasT xs ⟨#[100, 97, 116, 97]⟩ = p 7 by rw [← hp]; exact HFE.out ⟨6, by decide⟩)
     have N7 := Lib.hid (show (n 7 = true → c.data ≠ ⟨#[]⟩) ∧ (n 7 = false → c.data = ⟨#[]⟩) by rw [← hn]; exact zero_two (zeroF c 6) (zero_data) (by intro h; simp [zeroF, h]))
     have P8 := Lib.hid (show hasT xs ⟨#[115, 101, 108]⟩ = p 8 by rw [← hp]; exact HFE.out ⟨8, by decide⟩)
     have N8 := Lib.hid (show (n 8 = true → c.sel.length ≠ 0) ∧ (n 8 = false → c.sel.length = 0) by rw [← hn]; exact zero_two (zeroF c 8) (zero_len) (by intro h; simp [zeroF, h]))
     have HS2 := Lib.hid (show (!n 2) = true ↔ c.spec = Z0 by rw [← hn]; show (!!zeroF c 2) = true ↔ _; rw [Bool.not_not]; exact sameS_iff _ _)
     clear hp hn
     go_cut [15] (fun s15 wx => s15 = .bool (!n 2) ∧ wx = w5)
     case first =>
      obtain ⟨z2, hz2⟩ : ∃ z : Bool, (!n 2) = z := ⟨_, rfl⟩
      rw [hz2] at HS2
      have HZ2 := Lib.hid hz2
      clear hz2
      have s0 := box_cell SB.out 0 rfl
      have s1 := box_cell SB.out 1 rfl
      have s2 := box_cell SB.out 2 rfl
      have s3 := box_cell SB.out 3 rfl
      have s4 := box_cell SB.out 4 rfl
      have s5 := box_cell SB.out 5 rfl
      have s6 := box_cell SB.out 6 rfl
      by_cases h0 : c.spec.name.size = 0
      rotate_left
      · obtain rfl : z2 = false := by
         cases z2 with
         | false => rfl
         | true => exact absurd (by rw [HS2.out.1 rfl]; rfl) h0
        have q0 := text_some h0
        clear h0 HS2
        go_wp2_with fail
        go_meet
        exact ⟨congrArg Value.bool HZ2.out.symm, rfl⟩
      have H0 := Lib.hid h0
      have q0 := text_nil h0
      clear h0
      by_cases h1 : c.spec.labels.length = 0
      rotate_left
      · obtain rfl : z2 = false := by
         cases z2 with
         | false => rfl
         | true => exact absurd (by rw [HS2.out.1 rfl]; rfl) h1
        have q1 : ((c.spec.labels.length : Int) == 0) = false := by rw [beq_eq_false_iff_ne]; omega
        clear h1 HS2
        go_wp2_with fail
        go_meet
        exact ⟨congrArg Value.bool HZ2.out.symm, rfl⟩
      have H1 := Lib.hid h1
      have q1 : ((c.spec.labels.length : Int) == 0) = true := by rw [h1]; rfl
      clear h1
      by_cases h2 : c.spec.init.length = 0
      rotate_left
      · obtain rfl : z2 = false := by
         cases z2 with
         | false => rfl
         | true => exact absurd (by rw [HS2.out.1 rfl]; rfl) h2
        have q2 : ((c.spec.init.length : Int) == 0) = false := by rw [beq_eq_false_iff_ne]; omega
        clear h2 HS2
        go_wp2_with fail
        go_meet
        exact ⟨congrArg Value.bool HZ2.out.symm, rfl⟩
      have H2 := Lib.hid h2
      have q2 : ((c.spec.init.length : Int) == 0) = true := by rw [h2]; rfl
      clear h2
      by_cases h3 : c.spec.main.length = 0
      rotate_left
      · obtain rfl : z2 = false := by
         cases z2 with
         | false => rfl
         | true => exact absurd (by rw [HS2.out.1 rfl]; rfl) h3
        have q3 : ((c.spec.main.length : Int) == 0) = false := by rw [beq_eq_false_iff_ne]; omega
        clear h3 HS2
        go_wp2_with fail
        go_meet
        exact ⟨congrArg Value.bool HZ2.out.symm, rfl⟩
      have H3 := Lib.hid h3
      have q3 : ((c.spec.main.length : Int) == 0) = true := by rw [h3]; rfl
      clear h3
      by_cases h4 : c.spec.restart = 0
      rotate_left
      · obtain rfl : z2 = false := by
         cases z2 with
         | false => rfl
         | true => exact absurd (by rw [HS2.out.1 rfl]; rfl) h4
        have q4 : (c.spec.restart == 0) = false := by rw [beq_eq_false_iff_ne]; omega
        clear h4 HS2
        go_wp2_with fail
        go_meet
        exact ⟨congrArg Value.bool HZ2.out.symm, rfl⟩
      have H4 := Lib.hid h4
      have q4 : (c.spec.restart == 0) = true := by rw [h4]; rfl
      clear h4
      by_cases h5 : c.spec.grace = 0
      rotate_left
      · obtain rfl : z2 = false := by
         cases z2 with
         | false => rfl
         | true => exact absurd (by rw [HS2.out.1 rfl]; rfl) h5
        have q5 : (c.spec.grace == 0) = false := by rw [beq_eq_false_iff_ne]; omega
        clear h5 HS2
        go_wp2_with fail
        go_meet
        exact ⟨congrArg Value.bool HZ2.out.symm, rfl⟩
      have H5 := Lib.hid h5
      have q5 : (c.spec.grace == 0) = true := by rw [h5]; rfl
      clear h5
      by_cases h6 : c.spec.prio = 0
      rotate_left
      · obtain rfl : z2 = false := by
         cases z2 with
         | false => rfl
         | true => exact absurd (by rw [HS2.out.1 rfl]; rfl) h6
        have q6 : (c.spec.prio == 0) = false := by rw [beq_eq_false_iff_ne]; omega
        clear h6 HS2
        go_wp2_with fail
        go_meet
        exact ⟨congrArg Value.bool HZ2.out.symm, rfl⟩
      have H6 := Lib.hid h6
      have q6 : (c.spec.prio == 0) = true := by rw [h6]; rfl
      clear h6
      obtain rfl : z2 = true := HS2.out.2 (spec_zero H0.out H1.out H2.out H3.out H4.out H5.out H6.out)
      clear HS2
      go_wp2_with fail
      go_meet
      exact ⟨congrArg Value.bool HZ2.out.symm, rfl⟩
     case rest =>
      obtain ⟨rfl, rfl⟩ := hcut
      go_upto_region 23 with (fail)
      refine Straight.wp_region_walk (by kernel_rfl) (FC c A l.length cap b LA lc IA ic MA mc SA sc p n) (FC_keep c A l.length cap b LA lc IA ic MA mc SA sc p n) ?_ ?_
      · refine ⟨?_, ?_, ?_, ?_, ?_, ?_, ?_, ?_, ?_, ?_, ?_, ?_, ?_, ?_, ?_, ?_, ?_, ?_, ?_, ?_, ?_, ?_, ?_, ?_, ?_, ?_, ?_, ?_, ?_, ?_, ?_, ?_, ?_, ?_, ?_, ?_, ?_, ?_, ?_, ?_, ?_, ?_, ?_, ?_, ?_, ?_, ?_, ?_, ?_, ?_, ?_, ?_, ?_, ?_, ?_, ?_, ?_, ?_, ?_, ?_, ?_, ?_, ?_, ?_, ?_, ?_, ?_, ?_, ?_, ?_, ?_, ?_, ?_, ?_, ?_, ?_, ?_, ?_, ?_, ?_, ?_, ?_, ?_, ?_, ?_, ?_, ?_, ?_, trivial⟩
        · as_aux_lemma =>
           intro a w1 hfr hg
           have e0 : a.tmps.getD 4 undef = .slice A l.length cap := hfr.slot 4 (by kernel_rfl)
           refine Loose.Step.value rfl (v := .slice A l.length cap) (w' := w1) ?_ rfl (Below.refl _ _)
           simp [go_sem, Act.eval, e0]
        · as_aux_lemma =>
           intro a w1 hfr hg
           have k0 : a.tmps.getD 125 undef = .slice A l.length cap := Straight.got hg 0 125 (by kernel_rfl)
           refine Loose.Step.call rfl (f := 71) (args := #[.slice A l.length cap, .string ⟨#[117, 105, 100]⟩]) ?_ ?_
           · simp [go_sem, Act.eval, k0]
           · refine (has_any A cap l.length xs ⟨#[117, 105, 100]⟩ HLN.out (Nat.le_trans HLE.out (by decide)) w1 (texts_below TX.out hfr.below)).mono ?_
             rintro e w2 ⟨rfl, rfl⟩
             exact ⟨_, rfl, (congrArg Value.bool P0.out).trans (show (Value.bool (p 0)) = .bool (p 0) by simp [gt]), Below.refl _ _⟩
        · as_aux_lemma =>
           intro a w1 hfr hg
           have k0 : a.tmps.getD 126 undef = .bool (p 0) := Straight.got hg 1 126 (by kernel_rfl)
           refine Loose.Step.value rfl (v := .bool (!p 0)) (w' := w1) ?_ rfl (Below.refl _ _)
           simp [go_sem, Act.eval, k0]
        · as_aux_lemma =>
           intro a w1 hfr hg
           have k0 : a.tmps.getD 127 undef = .bool (!p 0) := Straight.got hg 2 127 (by kernel_rfl)
           refine Loose.Step.value rfl (v := .bool (!p 0)) (w' := w1) ?_ rfl (Below.refl _ _)
           simp [go_sem, Act.eval, k0]
        · as_aux_lemma =>
           intro a w1 hfr hg
           have e0 : a.tmps.getD 1 undef = .pointer (some ⟨b, 0, none⟩) := hfr.slot 1 (by kernel_rfl)
           cases hp : p 0 with
           | false =>
            have gd2 : a.tmps.getD 128 undef = .bool true := Eq.trans (Straight.got hg 3 128 (by kernel_rfl)) (by simp [gt, hp])
            refine Loose.Step.valueG (Loose.wanted_of rfl rfl gd2) (v := .pointer (some ⟨b, 1, none⟩)) (w' := w1) ?_ (by show (.pointer (some ⟨b, 1, none⟩) : Value) = _; simp [gt, hp]) (Below.refl _ _)
            simp [go_sem, Act.eval, e0, hp]
           | true =>
            have gd2 : a.tmps.getD 128 undef = .bool false := Eq.trans (Straight.got hg 3 128 (by kernel_rfl)) (by simp [gt, hp])
            exact .inr ⟨Straight.unwanted_of rfl rfl gd2, by show (undef : Value) = _; simp [gt, hp]⟩
        · as_aux_lemma =>
           intro a w1 hfr hg
           have hc_ := box_cell ((hfr.below.block b (lt_of_block XB.out)).trans XB.out) 1 rfl
           cases hp : p 0 with
           | false =>
            have gd2 : a.tmps.getD 128 undef = .bool true := Eq.trans (Straight.got hg 3 128 (by kernel_rfl)) (by simp [gt, hp])
            have k0 : a.tmps.getD 129 undef = .pointer (some ⟨b, 1, none⟩) := Eq.trans (Straight.got hg 4 129 (by kernel_rfl)) (by simp [gt, hp])
            refine Loose.Step.valueG (Loose.wanted_of rfl rfl gd2) (v := .int .i64 c.uid) (w' := w1) ?_ (by show (.int .i64 c.uid : Value) = _; simp [gt, hp]) (Below.refl _ _)
            simp [go_sem, Act.eval, k0, hp, hc_]
           | true =>
            have gd2 : a.tmps.getD 128 undef = .bool false := Eq.trans (Straight.got hg 3 128 (by kernel_rfl)) (by simp [gt, hp])
            exact .inr ⟨Straight.unwanted_of rfl rfl gd2, by show (undef : Value) = _; simp [gt, hp]⟩
        · as_aux_lemma =>
           intro a w1 hfr hg
           cases hp : p 0 with
           | false =>
            cases hn : n 0 with
            | false =>
             have gd2 : a.tmps.getD 128 undef = .bool true := Eq.trans (Straight.got hg 3 128 (by kernel_rfl)) (by simp [gt, hp, hn])
             have k0 : a.tmps.getD 130 undef = .int .i64 c.uid := Eq.trans (Straight.got hg 5 130 (by kernel_rfl)) (by simp [gt, hp, hn])
             have z := N0.out
             rw [hn] at z
             have z2 := z.2 rfl
             clear z
             refine Loose.Step.valueG (Loose.wanted_of rfl rfl gd2) (v := .bool false) (w' := w1) ?_ (by show (.bool false : Value) = _; simp [gt, hp, hn]) (Below.refl _ _)
             simp [go_sem, Act.eval, k0, hp, hn, z2]
            | true =>
             have gd2 : a.tmps.getD 128 undef = .bool true := Eq.trans (Straight.got hg 3 128 (by kernel_rfl)) (by simp [gt, hp, hn])
             have k0 : a.tmps.getD 130 undef = .int .i64 c.uid := Eq.trans (Straight.got hg 5 130 (by kernel_rfl)) (by simp [gt, hp, hn])
             have z := N0.out
             rw [hn] at z
             have z2 := z.1 rfl
             clear z
             refine Loose.Step.valueG (Loose.wanted_of rfl rfl gd2) (v := .bool true) (w' := w1) ?_ (by show (.bool true : Value) = _; simp [gt, hp, hn]) (Below.refl _ _)
             simp [go_sem, Act.eval, k0, hp, hn, z2]
           | true =>
            have gd2 : a.tmps.getD 128 undef = .bool false := Eq.trans (Straight.got hg 3 128 (by kernel_rfl)) (by simp [gt, hp])
            exact .inr ⟨Straight.unwanted_of rfl rfl gd2, by show (undef : Value) = _; simp [gt, hp]⟩
        · as_aux_lemma =>
           intro a w1 hfr hg
           cases hp : p 0 with
           | false =>
            have k0 : a.tmps.getD 128 undef = .bool (!p 0) := Straight.got hg 3 128 (by kernel_rfl)
            have k1 : a.tmps.getD 131 undef = .bool (n 0) := Eq.trans (Straight.got hg 6 131 (by kernel_rfl)) (by simp [gt, hp])
            refine Loose.Step.value rfl (v := .bool (n 0)) (w' := w1) ?_ (by show (.bool (n 0) : Value) = _; simp [gt, hp]) (Below.refl _ _)
            simp [go_sem, Act.eval, k0, k1, hp]
           | true =>
            have k0 : a.tmps.getD 128 undef = .bool (!p 0) := Straight.got hg 3 128 (by kernel_rfl)
            have k1 : a.tmps.getD 131 undef = undef := Eq.trans (Straight.got hg 6 131 (by kernel_rfl)) (by simp [gt, hp])
            refine Loose.Step.value rfl (v := .bool false) (w' := w1) ?_ (by show (.bool false : Value) = _; simp [gt, hp]) (Below.refl _ _)
            simp [go_sem, Act.eval, k0, k1, hp]
        · as_aux_lemma =>
           intro a w1 hfr hg
           have k0 : a.tmps.getD 132 undef = .bool (acc p n 0) := Straight.got hg 7 132 (by kernel_rfl)
           refine Loose.Step.value rfl (v := .bool (acc p n 0)) (w' := w1) ?_ rfl (Below.refl _ _)
           simp [go_sem, Act.eval, k0]
        · as_aux_lemma =>
           intro a w1 hfr hg
           have e0 : a.tmps.getD 4 undef = .slice A l.length cap := hfr.slot 4 (by kernel_rfl)
           cases hA : acc p n 0 with
           | false =>
            have gd2 : a.tmps.getD 133 undef = .bool false := Eq.trans (Straight.got hg 8 133 (by kernel_rfl)) (by simp [gt, hA])
            refine Loose.Step.valueG (Loose.wanted_of rfl rfl gd2) (v := .slice A l.length cap) (w' := w1) ?_ (by show (.slice A l.length cap : Value) = _; simp [gt, hA]) (Below.refl _ _)
            simp [go_sem, Act.eval, e0, hA]
           | true =>
            have gd2 : a.tmps.getD 133 undef = .bool true := Eq.trans (Straight.got hg 8 133 (by kernel_rfl)) (by simp [gt, hA])
            exact .inr ⟨Straight.unwanted_of rfl rfl gd2, by show (undef : Value) = _; simp [gt, hA]⟩
        · as_aux_lemma =>
           intro a w1 hfr hg
           cases hA : acc p n 0 with
           | false =>
            have gd2 : a.tmps.getD 133 undef = .bool false := Eq.trans (Straight.got hg 8 133 (by kernel_rfl)) (by simp [gt, hA])
            have k0 : a.tmps.getD 134 undef = .slice A l.length cap := Eq.trans (Straight.got hg 9 134 (by kernel_rfl)) (by simp [gt, hA])
            refine Loose.Step.callG (Loose.wanted_of rfl rfl gd2) (f := 71) (args := #[.slice A l.length cap, .string ⟨#[114, 101, 118]⟩]) ?_ ?_
            · simp [go_sem, Act.eval, k0]
            · refine (has_any A cap l.length xs ⟨#[114, 101, 118]⟩ HLN.out (Nat.le_trans HLE.out (by decide)) w1 (texts_below TX.out hfr.below)).mono ?_
              rintro e w2 ⟨rfl, rfl⟩
              exact ⟨_, rfl, (congrArg Value.bool P1.out).trans (show (Value.bool (p 1)) = gt (acc p n 0) (.bool (p 1)) by simp [gt, hA]), Below.refl _ _⟩
           | true =>
            have gd2 : a.tmps.getD 133 undef = .bool true := Eq.trans (Straight.got hg 8 133 (by kernel_rfl)) (by simp [gt, hA])
            exact .inr ⟨Straight.unwanted_of rfl rfl gd2, by show (undef : Value) = _; simp [gt, hA]⟩
        · as_aux_lemma =>
           intro a w1 hfr hg
           cases hA : acc p n 0 with
           | false =>
            have gd2 : a.tmps.getD 133 undef = .bool false := Eq.trans (Straight.got hg 8 133 (by kernel_rfl)) (by simp [gt, hA])
            have k0 : a.tmps.getD 135 undef = .bool (p 1) := Eq.trans (Straight.got hg 10 135 (by kernel_rfl)) (by simp [gt, hA])
            refine Loose.Step.valueG (Loose.wanted_of rfl rfl gd2) (v := .bool (!p 1)) (w' := w1) ?_ (by show (.bool (!p 1) : Value) = _; simp [gt, hA]) (Below.refl _ _)
            simp [go_sem, Act.eval, k0, hA]
           | true =>
            have gd2 : a.tmps.getD 133 undef = .bool true := Eq.trans (Straight.got hg 8 133 (by kernel_rfl)) (by simp [gt, hA])
            exact .inr ⟨Straight.unwanted_of rfl rfl gd2, by show (undef : Value) = _; simp [gt, hA]⟩
        · as_aux_lemma =>
           intro a w1 hfr hg
           cases hA : acc p n 0 with
           | false =>
            have gd2 : a.tmps.getD 133 undef = .bool false := Eq.trans (Straight.got hg 8 133 (by kernel_rfl)) (by simp [gt, hA])
            have k0 : a.tmps.getD 136 undef = .bool (!p 1) := Eq.trans (Straight.got hg 11 136 (by kernel_rfl)) (by simp [gt, hA])
            refine Loose.Step.valueG (Loose.wanted_of rfl rfl gd2) (v := .bool (!p 1)) (w' := w1) ?_ (by show (.bool (!p 1) : Value) = _; simp [gt, hA]) (Below.refl _ _)
            simp [go_sem, Act.eval, k0, hA]
           | true =>
            have gd2 : a.tmps.getD 133 undef = .bool true := Eq.trans (Straight.got hg 8 133 (by kernel_rfl)) (by simp [gt, hA])
            exact .inr ⟨Straight.unwanted_of rfl rfl gd2, by show (undef : Value) = _; simp [gt, hA]⟩
        · as_aux_lemma =>
           intro a w1 hfr hg
           have e0 : a.tmps.getD 1 undef = .pointer (some ⟨b, 0, none⟩) := hfr.slot 1 (by kernel_rfl)
           cases hA : acc p n 0 with
           | false =>
            cases hp : p 1 with
            | false =>
             have gd2 : a.tmps.getD 137 undef = .bool true := Eq.trans (Straight.got hg 12 137 (by kernel_rfl)) (by simp [gt, hA, hp])
             refine Loose.Step.valueG (Loose.wanted_of rfl rfl gd2) (v := .pointer (some ⟨b, 2, none⟩)) (w' := w1) ?_ (by show (.pointer (some ⟨b, 2, none⟩) : Value) = _; simp [gt, hA, hp]) (Below.refl _ _)
             simp [go_sem, Act.eval, e0, hA, hp]
            | true =>
             have gd2 : a.tmps.getD 137 undef = .bool false := Eq.trans (Straight.got hg 12 137 (by kernel_rfl)) (by simp [gt, hA, hp])
             exact .inr ⟨Straight.unwanted_of rfl rfl gd2, by show (undef : Value) = _; simp [gt, hA, hp]⟩
           | true =>
            have gd2 : a.tmps.getD 137 undef = undef := Eq.trans (Straight.got hg 12 137 (by kernel_rfl)) (by simp [gt, hA])
            exact .inr ⟨Straight.unwanted_no rfl rfl gd2, by show (undef : Value) = _; simp [gt, hA]⟩
        · as_aux_lemma =>
           intro a w1 hfr hg
           have hc_ := box_cell ((hfr.below.block b (lt_of_block XB.out)).trans XB.out) 2 rfl
           cases hA : acc p n 0 with
           | false =>
            cases hp : p 1 with
            | false =>
             have gd2 : a.tmps.getD 137 undef = .bool true := Eq.trans (Straight.got hg 12 137 (by kernel_rfl)) (by simp [gt, hA, hp])
             have k0 : a.tmps.getD 138 undef = .pointer (some ⟨b, 2, none⟩) := Eq.trans (Straight.got hg 13 138 (by kernel_rfl)) (by simp [gt, hA, hp])
             refine Loose.Step.valueG (Loose.wanted_of rfl rfl gd2) (v := .int .u64 c.rev) (w' := w1) ?_ (by show (.int .u64 c.rev : Value) = _; simp [gt, hA, hp]) (Below.refl _ _)
             simp [go_sem, Act.eval, k0, hA, hp, hc_]
            | true =>
             have gd2 : a.tmps.getD 137 undef = .bool false := Eq.trans (Straight.got hg 12 137 (by kernel_rfl)) (by simp [gt, hA, hp])
             exact .inr ⟨Straight.unwanted_of rfl rfl gd2, by show (undef : Value) = _; simp [gt, hA, hp]⟩
           | true =>
            have gd2 : a.tmps.getD 137 undef = undef := Eq.trans (Straight.got hg 12 137 (by kernel_rfl)) (by simp [gt, hA])
            exact .inr ⟨Straight.unwanted_no rfl rfl gd2, by show (undef : Value) = _; simp [gt, hA]⟩
        · as_aux_lemma =>
           intro a w1 hfr hg
           cases hA : acc p n 0 with
           | false =>
            cases hp : p 1 with
            | false =>
             cases hn : n 1 with
             | false =>
              have gd2 : a.tmps.getD 137 undef = .bool true := Eq.trans (Straight.got hg 12 137 (by kernel_rfl)) (by simp [gt, hA, hp, hn])
              have k0 : a.tmps.getD 139 undef = .int .u64 c.rev := Eq.trans (Straight.got hg 14 139 (by kernel_rfl)) (by simp [gt, hA, hp, hn])
              have z := N1.out
              rw [hn] at z
              have z2 := z.2 rfl
              clear z
              refine Loose.Step.valueG (Loose.wanted_of rfl rfl gd2) (v := .bool false) (w' := w1) ?_ (by show (.bool false : Value) = _; simp [gt, hA, hp, hn]) (Below.refl _ _)
              simp [go_sem, Act.eval, k0, hA, hp, hn, z2]
             | true =>
              have gd2 : a.tmps.getD 137 undef = .bool true := Eq.trans (Straight.got hg 12 137 (by kernel_rfl)) (by simp [gt, hA, hp, hn])
              have k0 : a.tmps.getD 139 undef = .int .u64 c.rev := Eq.trans (Straight.got hg 14 139 (by kernel_rfl)) (by simp [gt, hA, hp, hn])
              have z := N1.out
              rw [hn] at z
              have z2 := z.1 rfl
              clear z
              refine Loose.Step.valueG (Loose.wanted_of rfl rfl gd2) (v := .bool true) (w' := w1) ?_ (by show (.bool true : Value) = _; simp [gt, hA, hp, hn]) (Below.refl _ _)
              simp [go_sem, Act.eval, k0, hA, hp, hn, z2]
            | true =>
             have gd2 : a.tmps.getD 137 undef = .bool false := Eq.trans (Straight.got hg 12 137 (by kernel_rfl)) (by simp [gt, hA, hp])
             exact .inr ⟨Straight.unwanted_of rfl rfl gd2, by show (undef : Value) = _; simp [gt, hA, hp]⟩
           | true =>
            have gd2 : a.tmps.getD 137 undef = undef := Eq.trans (Straight.got hg 12 137 (by kernel_rfl)) (by simp [gt, hA])
            exact .inr ⟨Straight.unwanted_no rfl rfl gd2, by show (undef : Value) = _; simp [gt, hA]⟩
        · as_aux_lemma =>
           intro a w1 hfr hg
           cases hA : acc p n 0 with
           | false =>
            cases hp : p 1 with
            | false =>
             have gd2 : a.tmps.getD 133 undef = .bool false := Eq.trans (Straight.got hg 8 133 (by kernel_rfl)) (by simp [gt, hA, hp])
             have k0 : a.tmps.getD 137 undef = .bool (!p 1) := Eq.trans (Straight.got hg 12 137 (by kernel_rfl)) (by simp [gt, hA, hp])
             have k1 : a.tmps.getD 140 undef = .bool (n 1) := Eq.trans (Straight.got hg 15 140 (by kernel_rfl)) (by simp [gt, hA, hp])
             refine Loose.Step.valueG (Loose.wanted_of rfl rfl gd2) (v := .bool (n 1)) (w' := w1) ?_ (by show (.bool (n 1) : Value) = _; simp [gt, hA, hp]) (Below.refl _ _)
             simp [go_sem, Act.eval, k0, k1, hA, hp]
            | true =>
             have gd2 : a.tmps.getD 133 undef = .bool false := Eq.trans (Straight.got hg 8 133 (by kernel_rfl)) (by simp [gt, hA, hp])
             have k0 : a.tmps.getD 137 undef = .bool (!p 1) := Eq.trans (Straight.got hg 12 137 (by kernel_rfl)) (by simp [gt, hA, hp])
             have k1 : a.tmps.getD 140 undef = undef := Eq.trans (Straight.got hg 15 140 (by kernel_rfl)) (by simp [gt, hA, hp])
             refine Loose.Step.valueG (Loose.wanted_of rfl rfl gd2) (v := .bool false) (w' := w1) ?_ (by show (.bool false : Value) = _; simp [gt, hA, hp]) (Below.refl _ _)
             simp [go_sem, Act.eval, k0, k1, hA, hp]
           | true =>
            have gd2 : a.tmps.getD 133 undef = .bool true := Eq.trans (Straight.got hg 8 133 (by kernel_rfl)) (by simp [gt, hA])
            exact .inr ⟨Straight.unwanted_of rfl rfl gd2, by show (undef : Value) = _; simp [gt, hA]⟩
        · as_aux_lemma =>
           intro a w1 hfr hg
           cases hA : acc p n 0 with
           | false =>
            have k0 : a.tmps.getD 133 undef = .bool (acc p n 0) := Straight.got hg 8 133 (by kernel_rfl)
            have k1 : a.tmps.getD 141 undef = .bool (!p 1 && n 1) := Eq.trans (Straight.got hg 16 141 (by kernel_rfl)) (by simp [gt, hA])
            refine Loose.Step.value rfl (v := .bool (!p 1 && n 1)) (w' := w1) ?_ (congrArg Value.bool (acc_f hA).symm) (Below.refl _ _)
            simp [go_sem, Act.eval, k0, k1, hA]
           | true =>
            have k0 : a.tmps.getD 133 undef = .bool (acc p n 0) := Straight.got hg 8 133 (by kernel_rfl)
            have k1 : a.tmps.getD 141 undef = undef := Eq.trans (Straight.got hg 16 141 (by kernel_rfl)) (by simp [gt, hA])
            refine Loose.Step.value rfl (v := .bool true) (w' := w1) ?_ (congrArg Value.bool (acc_t hA).symm) (Below.refl _ _)
            simp [go_sem, Act.eval, k0, k1, hA]
        · as_aux_lemma =>
           intro a w1 hfr hg
           have k0 : a.tmps.getD 142 undef = .bool (acc p n 1) := Straight.got hg 17 142 (by kernel_rfl)
           refine Loose.Step.value rfl (v := .bool (acc p n 1)) (w' := w1) ?_ rfl (Below.refl _ _)
           simp [go_sem, Act.eval, k0]
        · as_aux_lemma =>
           intro a w1 hfr hg
           have e0 : a.tmps.getD 4 undef = .slice A l.length cap := hfr.slot 4 (by kernel_rfl)
           cases hA : acc p n 1 with
           | false =>
            have gd2 : a.tmps.getD 143 undef = .bool false := Eq.trans (Straight.got hg 18 143 (by kernel_rfl)) (by simp [gt, hA])
            refine Loose.Step.valueG (Loose.wanted_of rfl rfl gd2) (v := .slice A l.length cap) (w' := w1) ?_ (by show (.slice A l.length cap : Value) = _; simp [gt, hA]) (Below.refl _ _)
            simp [go_sem, Act.eval, e0, hA]
           | true =>
            have gd2 : a.tmps.getD 143 undef = .bool true := Eq.trans (Straight.got hg 18 143 (by kernel_rfl)) (by simp [gt, hA])
            exact .inr ⟨Straight.unwanted_of rfl rfl gd2, by show (undef : Value) = _; simp [gt, hA]⟩
        · as_aux_lemma =>
           intro a w1 hfr hg
           cases hA : acc p n 1 with
           | false =>
            have gd2 : a.tmps.getD 143 undef = .bool false := Eq.trans (Straight.got hg 18 143 (by kernel_rfl)) (by simp [gt, hA])
            have k0 : a.tmps.getD 144 undef = .slice A l.length cap := Eq.trans (Straight.got hg 19 144 (by kernel_rfl)) (by simp [gt, hA])
            refine Loose.Step.callG (Loose.wanted_of rfl rfl gd2) (f := 71) (args := #[.slice A l.length cap, .string ⟨#[115, 112, 101, 99]⟩]) ?_ ?_
            · simp [go_sem, Act.eval, k0]
            · refine (has_any A cap l.length xs ⟨#[115, 112, 101, 99]⟩ HLN.out (Nat.le_trans HLE.out (by decide)) w1 (texts_below TX.out hfr.below)).mono ?_
              rintro e w2 ⟨rfl, rfl⟩
              exact ⟨_, rfl, (congrArg Value.bool P2.out).trans (show (Value.bool (p 2)) = gt (acc p n 1) (.bool (p 2)) by simp [gt, hA]), Below.refl _ _⟩
           | true =>
            have gd2 : a.tmps.getD 143 undef = .bool true := Eq.trans (Straight.got hg 18 143 (by kernel_rfl)) (by simp [gt, hA])
            exact .inr ⟨Straight.unwanted_of rfl rfl gd2, by show (undef : Value) = _; simp [gt, hA]⟩
        · as_aux_lemma =>
           intro a w1 hfr hg
           cases hA : acc p n 1 with
           | false =>
            have gd2 : a.tmps.getD 143 undef = .bool false := Eq.trans (Straight.got hg 18 143 (by kernel_rfl)) (by simp [gt, hA])
            have k0 : a.tmps.getD 145 undef = .bool (p 2) := Eq.trans (Straight.got hg 20 145 (by kernel_rfl)) (by simp [gt, hA])
            refine Loose.Step.valueG (Loose.wanted_of rfl rfl gd2) (v := .bool (!p 2)) (w' := w1) ?_ (by show (.bool (!p 2) : Value) = _; simp [gt, hA]) (Below.refl _ _)
            simp [go_sem, Act.eval, k0, hA]
           | true =>
            have gd2 : a.tmps.getD 143 undef = .bool true := Eq.trans (Straight.got hg 18 143 (by kernel_rfl)) (by simp [gt, hA])
            exact .inr ⟨Straight.unwanted_of rfl rfl gd2, by show (undef : Value) = _; simp [gt, hA]⟩
        · as_aux_lemma =>
           intro a w1 hfr hg
           cases hA : acc p n 1 with
           | false =>
            have gd2 : a.tmps.getD 143 undef = .bool false := Eq.trans (Straight.got hg 18 143 (by kernel_rfl)) (by simp [gt, hA])
            have k0 : a.tmps.getD 146 undef = .bool (!p 2) := Eq.trans (Straight.got hg 21 146 (by kernel_rfl)) (by simp [gt, hA])
            refine Loose.Step.valueG (Loose.wanted_of rfl rfl gd2) (v := .bool (!p 2)) (w' := w1) ?_ (by show (.bool (!p 2) : Value) = _; simp [gt, hA]) (Below.refl _ _)
            simp [go_sem, Act.eval, k0, hA]
           | true =>
            have gd2 : a.tmps.getD 143 undef = .bool true := Eq.trans (Straight.got hg 18 143 (by kernel_rfl)) (by simp [gt, hA])
            exact .inr ⟨Straight.unwanted_of rfl rfl gd2, by show (undef : Value) = _; simp [gt, hA]⟩
        · as_aux_lemma =>
           intro a w1 hfr hg
           have e0 : a.tmps.getD 15 undef = .bool (!n 2) := hfr.slot 15 (by kernel_rfl)
           cases hA : acc p n 1 with
           | false =>
            cases hp : p 2 with
            | false =>
             have gd2 : a.tmps.getD 147 undef = .bool true := Eq.trans (Straight.got hg 22 147 (by kernel_rfl)) (by simp [gt, hA, hp])
             refine Loose.Step.valueG (Loose.wanted_of rfl rfl gd2) (v := .bool (!n 2)) (w' := w1) ?_ (by show (.bool (!n 2) : Value) = _; simp [gt, hA, hp]) (Below.refl _ _)
             simp [go_sem, Act.eval, e0, hA, hp]
            | true =>
             have gd2 : a.tmps.getD 147 undef = .bool false := Eq.trans (Straight.got hg 22 147 (by kernel_rfl)) (by simp [gt, hA, hp])
             exact .inr ⟨Straight.unwanted_of rfl rfl gd2, by show (undef : Value) = _; simp [gt, hA, hp]⟩
           | true =>
            have gd2 : a.tmps.getD 147 undef = undef := Eq.trans (Straight.got hg 22 147 (by kernel_rfl)) (by simp [gt, hA])
            exact .inr ⟨Straight.unwanted_no rfl rfl gd2, by show (undef : Value) = _; simp [gt, hA]⟩
        · as_aux_lemma =>
           intro a w1 hfr hg
           cases hA : acc p n 1 with
           | false =>
            cases hp : p 2 with
            | false =>
             have gd2 : a.tmps.getD 147 undef = .bool true := Eq.trans (Straight.got hg 22 147 (by kernel_rfl)) (by simp [gt, hA, hp])
             have k0 : a.tmps.getD 148 undef = .bool (!n 2) := Eq.trans (Straight.got hg 23 148 (by kernel_rfl)) (by simp [gt, hA, hp])
             refine Loose.Step.valueG (Loose.wanted_of rfl rfl gd2) (v := .bool (n 2)) (w' := w1) ?_ (by show (.bool (n 2) : Value) = _; simp [gt, hA, hp]) (Below.refl _ _)
             simp [go_sem, Act.eval, k0, hA, hp]
            | true =>
             have gd2 : a.tmps.getD 147 undef = .bool false := Eq.trans (Straight.got hg 22 147 (by kernel_rfl)) (by simp [gt, hA, hp])
             exact .inr ⟨Straight.unwanted_of rfl rfl gd2, by show (undef : Value) = _; simp [gt, hA, hp]⟩
           | true =>
            have gd2 : a.tmps.getD 147 undef = undef := Eq.trans (Straight.got hg 22 147 (by kernel_rfl)) (by simp [gt, hA])
            exact .inr ⟨Straight.unwanted_no rfl rfl gd2, by show (undef : Value) = _; simp [gt, hA]⟩
        · as_aux_lemma =>
           intro a w1 hfr hg
           cases hA : acc p n 1 with
           | false =>
            cases hp : p 2 with
            | false =>
             have gd2 : a.tmps.getD 143 undef = .bool false := Eq.trans (Straight.got hg 18 143 (by kernel_rfl)) (by simp [gt, hA, hp])
             have k0 : a.tmps.getD 147 undef = .bool (!p 2) := Eq.trans (Straight.got hg 22 147 (by kernel_rfl)) (by simp [gt, hA, hp])
             have k1 : a.tmps.getD 149 undef = .bool (n 2) := Eq.trans (Straight.got hg 24 149 (by kernel_rfl)) (by simp [gt, hA, hp])
             refine Loose.Step.valueG (Loose.wanted_of rfl rfl gd2) (v := .bool (n 2)) (w' := w1) ?_ (by show (.bool (n 2) : Value) = _; simp [gt, hA, hp]) (Below.refl _ _)
             simp [go_sem, Act.eval, k0, k1, hA, hp]
            | true =>
             have gd2 : a.tmps.getD 143 undef = .bool false := Eq.trans (Straight.got hg 18 143 (by kernel_rfl)) (by simp [gt, hA, hp])
             have k0 : a.tmps.getD 147 undef = .bool (!p 2) := Eq.trans (Straight.got hg 22 147 (by kernel_rfl)) (by simp [gt, hA, hp])
             have k1 : a.tmps.getD 149 undef = undef := Eq.trans (Straight.got hg 24 149 (by kernel_rfl)) (by simp [gt, hA, hp])
             refine Loose.Step.valueG (Loose.wanted_of rfl rfl gd2) (v := .bool false) (w' := w1) ?_ (by show (.bool false : Value) = _; simp [gt, hA, hp]) (Below.refl _ _)
             simp [go_sem, Act.eval, k0, k1, hA, hp]
           | true =>
            have gd2 : a.tmps.getD 143 undef = .bool true := Eq.trans (Straight.got hg 18 143 (by kernel_rfl)) (by simp [gt, hA])
            exact .inr ⟨Straight.unwanted_of rfl rfl gd2, by show (undef : Value) = _; simp [gt, hA]⟩
        · as_aux_lemma =>
           intro a w1 hfr hg
           cases hA : acc p n 1 with
           | false =>
            have k0 : a.tmps.getD 143 undef = .bool (acc p n 1) := Straight.got hg 18 143 (by kernel_rfl)
            have k1 : a.tmps.getD 150 undef = .bool (!p 2 && n 2) := Eq.trans (Straight.got hg 25 150 (by kernel_rfl)) (by simp [gt, hA])
            refine Loose.Step.value rfl (v := .bool (!p 2 && n 2)) (w' := w1) ?_ (congrArg Value.bool (acc_f hA).symm) (Below.refl _ _)
            simp [go_sem, Act.eval, k0, k1, hA]
           | true =>
            have k0 : a.tmps.getD 143 undef = .bool (acc p n 1) := Straight.got hg 18 143 (by kernel_rfl)
            have k1 : a.tmps.getD 150 undef = undef := Eq.trans (Straight.got hg 25 150 (by kernel_rfl)) (by simp [gt, hA])
            refine Loose.Step.value rfl (v := .bool true) (w' := w1) ?_ (congrArg Value.bool (acc_t hA).symm) (Below.refl _ _)
            simp [go_sem, Act.eval, k0, k1, hA]
        · as_aux_lemma =>
           intro a w1 hfr hg
           have k0 : a.tmps.getD 151 undef = .bool (acc p n 2) := Straight.got hg 26 151 (by kernel_rfl)
           refine Loose.Step.value rfl (v := .bool (acc p n 2)) (w' := w1) ?_ rfl (Below.refl _ _)
           simp [go_sem, Act.eval, k0]
        · as_aux_lemma =>
           intro a w1 hfr hg
           have e0 : a.tmps.getD 4 undef = .slice A l.length cap := hfr.slot 4 (by kernel_rfl)
           cases hA : acc p n 2 with
           | false =>
            have gd2 : a.tmps.getD 152 undef = .bool false := Eq.trans (Straight.got hg 27 152 (by kernel_rfl)) (by simp [gt, hA])
            refine Loose.Step.valueG (Loose.wanted_of rfl rfl gd2) (v := .slice A l.length cap) (w' := w1) ?_ (by show (.slice A l.length cap : Value) = _; simp [gt, hA]) (Below.refl _ _)
            simp [go_sem, Act.eval, e0, hA]
           | true =>
            have gd2 : a.tmps.getD 152 undef = .bool true := Eq.trans (Straight.got hg 27 152 (by kernel_rfl)) (by simp [gt, hA])
            exact .inr ⟨Straight.unwanted_of rfl rfl gd2, by show (undef : Value) = _; simp [gt, hA]⟩
        · as_aux_lemma =>
           intro a w1 hfr hg
           cases hA : acc p n 2 with
           | false =>
            have gd2 : a.tmps.getD 152 undef = .bool false := Eq.trans (Straight.got hg 27 152 (by kernel_rfl)) (by simp [gt, hA])
            have k0 : a.tmps.getD 153 undef = .slice A l.length cap := Eq.trans (Straight.got hg 28 153 (by kernel_rfl)) (by simp [gt, hA])
            refine Loose.Step.callG (Loose.wanted_of rfl rfl gd2) (f := 71) (args := #[.slice A l.length cap, .string ⟨#[103, 114, 97, 99, 101]⟩]) ?_ ?_
            · simp [go_sem, Act.eval, k0]
            · refine (has_any A cap l.length xs ⟨#[103, 114, 97, 99, 101]⟩ HLN.out (Nat.le_trans HLE.out (by decide)) w1 (texts_below TX.out hfr.below)).mono ?_
              rintro e w2 ⟨rfl, rfl⟩
              exact ⟨_, rfl, (congrArg Value.bool P3.out).trans (show (Value.bool (p 3)) = gt (acc p n 2) (.bool (p 3)) by simp [gt, hA]), Below.refl _ _⟩
           | true =>
            have gd2 : a.tmps.getD 152 undef = .bool true := Eq.trans (Straight.got hg 27 152 (by kernel_rfl)) (by simp [gt, hA])
            exact .inr ⟨Straight.unwanted_of rfl rfl gd2, by show (undef : Value) = _; simp [gt, hA]⟩
        · as_aux_lemma =>
           intro a w1 hfr hg
           cases hA : acc p n 2 with
           | false =>
            have gd2 : a.tmps.getD 152 undef = .bool false := Eq.trans (Straight.got hg 27 152 (by kernel_rfl)) (by simp [gt, hA])
            have k0 : a.tmps.getD 154 undef = .bool (p 3) := Eq.trans (Straight.got hg 29 154 (by kernel_rfl)) (by simp [gt, hA])
            refine Loose.Step.valueG (Loose.wanted_of rfl rfl gd2) (v := .bool (!p 3)) (w' := w1) ?_ (by show (.bool (!p 3) : Value) = _; simp [gt, hA]) (Below.refl _ _)
            simp [go_sem, Act.eval, k0, hA]
           | true =>
            have gd2 : a.tmps.getD 152 undef = .bool true := Eq.trans (Straight.got hg 27 152 (by kernel_rfl)) (by simp [gt, hA])
            exact .inr ⟨Straight.unwanted_of rfl rfl gd2, by show (undef : Value) = _; simp [gt, hA]⟩
        · as_aux_lemma =>
           intro a w1 hfr hg
           cases hA : acc p n 2 with
           | false =>
            have gd2 : a.tmps.getD 152 undef = .bool false := Eq.trans (Straight.got hg 27 152 (by kernel_rfl)) (by simp [gt, hA])
            have k0 : a.tmps.getD 155 undef = .bool (!p 3) := Eq.trans (Straight.got hg 30 155 (by kernel_rfl)) (by simp [gt, hA])
            refine Loose.Step.valueG (Loose.wanted_of rfl rfl gd2) (v := .bool (!p 3)) (w' := w1) ?_ (by show (.bool (!p 3) : Value) = _; simp [gt, hA]) (Below.refl _ _)
            simp [go_sem, Act.eval, k0, hA]
           | true =>
            have gd2 : a.tmps.getD 152 undef = .bool true := Eq.trans (Straight.got hg 27 152 (by kernel_rfl)) (by simp [gt, hA])
            exact .inr ⟨Straight.unwanted_of rfl rfl gd2, by show (undef : Value) = _; simp [gt, hA]⟩
        · as_aux_lemma =>
           intro a w1 hfr hg
           have e0 : a.tmps.getD 1 undef = .pointer (some ⟨b, 0, none⟩) := hfr.slot 1 (by kernel_rfl)
           cases hA : acc p n 2 with
           | false =>
            cases hp : p 3 with
            | false =>
             have gd2 : a.tmps.getD 156 undef = .bool true := Eq.trans (Straight.got hg 31 156 (by kernel_rfl)) (by simp [gt, hA, hp])
             refine Loose.Step.valueG (Loose.wanted_of rfl rfl gd2) (v := .pointer (some ⟨b, 10, none⟩)) (w' := w1) ?_ (by show (.pointer (some ⟨b, 10, none⟩) : Value) = _; simp [gt, hA, hp]) (Below.refl _ _)
             simp [go_sem, Act.eval, e0, hA, hp]
            | true =>
             have gd2 : a.tmps.getD 156 undef = .bool false := Eq.trans (Straight.got hg 31 156 (by kernel_rfl)) (by simp [gt, hA, hp])
             exact .inr ⟨Straight.unwanted_of rfl rfl gd2, by show (undef : Value) = _; simp [gt, hA, hp]⟩
           | true =>
            have gd2 : a.tmps.getD 156 undef = undef := Eq.trans (Straight.got hg 31 156 (by kernel_rfl)) (by simp [gt, hA])
            exact .inr ⟨Straight.unwanted_no rfl rfl gd2, by show (undef : Value) = _; simp [gt, hA]⟩
        · as_aux_lemma =>
           intro a w1 hfr hg
           have hc_ := box_cell ((hfr.below.block b (lt_of_block XB.out)).trans XB.out) 10 rfl
           cases hA : acc p n 2 with
           | false =>
            cases hp : p 3 with
            | false =>
             have gd2 : a.tmps.getD 156 undef = .bool true := Eq.trans (Straight.got hg 31 156 (by kernel_rfl)) (by simp [gt, hA, hp])
             have k0 : a.tmps.getD 157 undef = .pointer (some ⟨b, 10, none⟩) := Eq.trans (Straight.got hg 32 157 (by kernel_rfl)) (by simp [gt, hA, hp])
             refine Loose.Step.valueG (Loose.wanted_of rfl rfl gd2) (v := .int .i64 c.grace) (w' := w1) ?_ (by show (.int .i64 c.grace : Value) = _; simp [gt, hA, hp]) (Below.refl _ _)
             simp [go_sem, Act.eval, k0, hA, hp, hc_]
            | true =>
             have gd2 : a.tmps.getD 156 undef = .bool false := Eq.trans (Straight.got hg 31 156 (by kernel_rfl)) (by simp [gt, hA, hp])
             exact .inr ⟨Straight.unwanted_of rfl rfl gd2, by show (undef : Value) = _; simp [gt, hA, hp]⟩
           | true =>
            have gd2 : a.tmps.getD 156 undef = undef := Eq.trans (Straight.got hg 31 156 (by kernel_rfl)) (by simp [gt, hA])
            exact .inr ⟨Straight.unwanted_no rfl rfl gd2, by show (undef : Value) = _; simp [gt, hA]⟩
        · as_aux_lemma =>
           intro a w1 hfr hg
           cases hA : acc p n 2 with
           | false =>
            cases hp : p 3 with
            | false =>
             cases hn : n 3 with
             | false =>
              have gd2 : a.tmps.getD 156 undef = .bool true := Eq.trans (Straight.got hg 31 156 (by kernel_rfl)) (by simp [gt, hA, hp, hn])
              have k0 : a.tmps.getD 158 undef = .int .i64 c.grace := Eq.trans (Straight.got hg 33 158 (by kernel_rfl)) (by simp [gt, hA, hp, hn])
              have z := N3.out
              rw [hn] at z
              have z2 := z.2 rfl
              clear z
              refine Loose.Step.valueG (Loose.wanted_of rfl rfl gd2) (v := .bool false) (w' := w1) ?_ (by show (.bool false : Value) = _; simp [gt, hA, hp, hn]) (Below.refl _ _)
              simp [go_sem, Act.eval, k0, hA, hp, hn, z2]
             | true =>
              have gd2 : a.tmps.getD 156 undef = .bool true := Eq.trans (Straight.got hg 31 156 (by kernel_rfl)) (by simp [gt, hA, hp, hn])
              have k0 : a.tmps.getD 158 undef = .int .i64 c.grace := Eq.trans (Straight.got hg 33 158 (by kernel_rfl)) (by simp [gt, hA, hp, hn])
              have z := N3.out
              rw [hn] at z
              have z2 := z.1 rfl
              clear z
              refine Loose.Step.valueG (Loose.wanted_of rfl rfl gd2) (v := .bool true) (w' := w1) ?_ (by show (.bool true : Value) = _; simp [gt, hA, hp, hn]) (Below.refl _ _)
              simp [go_sem, Act.eval, k0, hA, hp, hn, z2]
            | true =>
             have gd2 : a.tmps.getD 156 undef = .bool false := Eq.trans (Straight.got hg 31 156 (by kernel_rfl)) (by simp [gt, hA, hp])
             exact .inr ⟨Straight.unwanted_of rfl rfl gd2, by show (undef : Value) = _; simp [gt, hA, hp]⟩
           | true =>
            have gd2 : a.tmps.getD 156 undef = undef := Eq.trans (Straight.got hg 31 156 (by kernel_rfl)) (by simp [gt, hA])
            exact .inr ⟨Straight.unwanted_no rfl rfl gd2, by show (undef : Value) = _; simp [gt, hA]⟩
        · as_aux_lemma =>
           intro a w1 hfr hg
           cases hA : acc p n 2 with
           | false =>
            cases hp : p 3 with
            | false =>
             have gd2 : a.tmps.getD 152 undef = .bool false := Eq.trans (Straight.got hg 27 152 (by kernel_rfl)) (by simp [gt, hA, hp])
             have k0 : a.tmps.getD 156 undef = .bool (!p 3) := Eq.trans (Straight.got hg 31 156 (by kernel_rfl)) (by simp [gt, hA, hp])
             have k1 : a.tmps.getD 159 undef = .bool (n 3) := Eq.trans (Straight.got hg 34 159 (by kernel_rfl)) (by simp [gt, hA, hp])
             refine Loose.Step.valueG (Loose.wanted_of rfl rfl gd2) (v := .bool (n 3)) (w' := w1) ?_ (by show (.bool (n 3) : Value) = _; simp [gt, hA, hp]) (Below.refl _ _)
             simp [go_sem, Act.eval, k0, k1, hA, hp]
            | true =>
             have gd2 : a.tmps.getD 152 undef = .bool false := Eq.trans (Straight.got hg 27 152 (by kernel_rfl)) (by simp [gt, hA, hp])
             have k0 : a.tmps.getD 156 undef = .bool (!p 3) := Eq.trans (Straight.got hg 31 156 (by kernel_rfl)) (by simp [gt, hA, hp])
             have k1 : a.tmps.getD 159 undef = undef := Eq.trans (Straight.got hg 34 159 (by kernel_rfl)) (by simp [gt, hA, hp])
             refine Loose.Step.valueG (Loose.wanted_of rfl rfl gd2) (v := .bool false) (w' := w1) ?_ (by show (.bool false : Value) = _; simp [gt, hA, hp]) (Below.refl _ _)
             simp [go_sem, Act.eval, k0, k1, hA, hp]
           | true =>
            have gd2 : a.tmps.getD 152 undef = .bool true := Eq.trans (Straight.got hg 27 152 (by kernel_rfl)) (by simp [gt, hA])
            exact .inr ⟨Straight.unwanted_of rfl rfl gd2, by show (undef : Value) = _; simp [gt, hA]⟩
        · as_aux_lemma =>
           intro a w1 hfr hg
           cases hA : acc p n 2 with
           | false =>
            have k0 : a.tmps.getD 152 undef = .bool (acc p n 2) := Straight.got hg 27 152 (by kernel_rfl)
            have k1 : a.tmps.getD 160 undef = .bool (!p 3 && n 3) := Eq.trans (Straight.got hg 35 160 (by kernel_rfl)) (by simp [gt, hA])
            refine Loose.Step.value rfl (v := .bool (!p 3 && n 3)) (w' := w1) ?_ (congrArg Value.bool (acc_f hA).symm) (Below.refl _ _)
            simp [go_sem, Act.eval, k0, k1, hA]
           | true =>
            have k0 : a.tmps.getD 152 undef = .bool (acc p n 2) := Straight.got hg 27 152 (by kernel_rfl)
            have k1 : a.tmps.getD 160 undef = undef := Eq.trans (Straight.got hg 35 160 (by kernel_rfl)) (by simp [gt, hA])
            refine Loose.Step.value rfl (v := .bool true) (w' := w1) ?_ (congrArg Value.bool (acc_t hA).symm) (Below.refl _ _)
            simp [go_sem, Act.eval, k0, k1, hA]
        · as_aux_lemma =>
           intro a w1 hfr hg
           have k0 : a.tmps.getD 161 undef = .bool (acc p n 3) := Straight.got hg 36 161 (by kernel_rfl)
           refine Loose.Step.value rfl (v := .bool (acc p n 3)) (w' := w1) ?_ rfl (Below.refl _ _)
           simp [go_sem, Act.eval, k0]
        · as_aux_lemma =>
           intro a w1 hfr hg
           have e0 : a.tmps.getD 4 undef = .slice A l.length cap := hfr.slot 4 (by kernel_rfl)
           cases hA : acc p n 3 with
           | false =>
            have gd2 : a.tmps.getD 162 undef = .bool false := Eq.trans (Straight.got hg 37 162 (by kernel_rfl)) (by simp [gt, hA])
            refine Loose.Step.valueG (Loose.wanted_of rfl rfl gd2) (v := .slice A l.length cap) (w' := w1) ?_ (by show (.slice A l.length cap : Value) = _; simp [gt, hA]) (Below.refl _ _)
            simp [go_sem, Act.eval, e0, hA]
           | true =>
            have gd2 : a.tmps.getD 162 undef = .bool true := Eq.trans (Straight.got hg 37 162 (by kernel_rfl)) (by simp [gt, hA])
            exact .inr ⟨Straight.unwanted_of rfl rfl gd2, by show (undef : Value) = _; simp [gt, hA]⟩
        · as_aux_lemma =>
           intro a w1 hfr hg
           cases hA : acc p n 3 with
           | false =>
            have gd2 : a.tmps.getD 162 undef = .bool false := Eq.trans (Straight.got hg 37 162 (by kernel_rfl)) (by simp [gt, hA])
            have k0 : a.tmps.getD 163 undef = .slice A l.length cap := Eq.trans (Straight.got hg 38 163 (by kernel_rfl)) (by simp [gt, hA])
            refine Loose.Step.callG (Loose.wanted_of rfl rfl gd2) (f := 71) (args := #[.slice A l.length cap, .string ⟨#[99, 116, 114]⟩]) ?_ ?_
            · simp [go_sem, Act.eval, k0]
            · refine (has_any A cap l.length xs ⟨#[99, 116, 114]⟩ HLN.out (Nat.le_trans HLE.out (by decide)) w1 (texts_below TX.out hfr.below)).mono ?_
              rintro e w2 ⟨rfl, rfl⟩
              exact ⟨_, rfl, (congrArg Value.bool P4.out).trans (show (Value.bool (p 4)) = gt (acc p n 3) (.bool (p 4)) by simp [gt, hA]), Below.refl _ _⟩
           | true =>
            have gd2 : a.tmps.getD 162 undef = .bool true := Eq.trans (Straight.got hg 37 162 (by kernel_rfl)) (by simp [gt, hA])
            exact .inr ⟨Straight.unwanted_of rfl rfl gd2, by show (undef : Value) = _; simp [gt, hA]⟩
        · as_aux_lemma =>
           intro a w1 hfr hg
           cases hA : acc p n 3 with
           | false =>
            have gd2 : a.tmps.getD 162 undef = .bool false := Eq.trans (Straight.got hg 37 162 (by kernel_rfl)) (by simp [gt, hA])
            have k0 : a.tmps.getD 164 undef = .bool (p 4) := Eq.trans (Straight.got hg 39 164 (by kernel_rfl)) (by simp [gt, hA])
            refine Loose.Step.valueG (Loose.wanted_of rfl rfl gd2) (v := .bool (!p 4)) (w' := w1) ?_ (by show (.bool (!p 4) : Value) = _; simp [gt, hA]) (Below.refl _ _)
            simp [go_sem, Act.eval, k0, hA]
           | true =>
            have gd2 : a.tmps.getD 162 undef = .bool true := Eq.trans (Straight.got hg 37 162 (by kernel_rfl)) (by simp [gt, hA])
            exact .inr ⟨Straight.unwanted_of rfl rfl gd2, by show (undef : Value) = _; simp [gt, hA]⟩
        · as_aux_lemma =>
           intro a w1 hfr hg
           cases hA : acc p n 3 with
           | false =>
            have gd2 : a.tmps.getD 162 undef = .bool false := Eq.trans (Straight.got hg 37 162 (by kernel_rfl)) (by simp [gt, hA])
            have k0 : a.tmps.getD 165 undef = .bool (!p 4) := Eq.trans (Straight.got hg 40 165 (by kernel_rfl)) (by simp [gt, hA])
            refine Loose.Step.valueG (Loose.wanted_of rfl rfl gd2) (v := .bool (!p 4)) (w' := w1) ?_ (by show (.bool (!p 4) : Value) = _; simp [gt, hA]) (Below.refl _ _)
            simp [go_sem, Act.eval, k0, hA]
           | true =>
            have gd2 : a.tmps.getD 162 undef = .bool true := Eq.trans (Straight.got hg 37 162 (by kernel_rfl)) (by simp [gt, hA])
            exact .inr ⟨Straight.unwanted_of rfl rfl gd2, by show (undef : Value) = _; simp [gt, hA]⟩
        · as_aux_lemma =>
           intro a w1 hfr hg
           have e0 : a.tmps.getD 1 undef = .pointer (some ⟨b, 0, none⟩) := hfr.slot 1 (by kernel_rfl)
           cases hA : acc p n 3 with
           | false =>
            cases hp : p 4 with
            | false =>
             have gd2 : a.tmps.getD 166 undef = .bool true := Eq.trans (Straight.got hg 41 166 (by kernel_rfl)) (by simp [gt, hA, hp])
             refine Loose.Step.valueG (Loose.wanted_of rfl rfl gd2) (v := .pointer (some ⟨b, 11, none⟩)) (w' := w1) ?_ (by show (.pointer (some ⟨b, 11, none⟩) : Value) = _; simp [gt, hA, hp]) (Below.refl _ _)
             simp [go_sem, Act.eval, e0, hA, hp]
            | true =>
             have gd2 : a.tmps.getD 166 undef = .bool false := Eq.trans (Straight.got hg 41 166 (by kernel_rfl)) (by simp [gt, hA, hp])
             exact .inr ⟨Straight.unwanted_of rfl rfl gd2, by show (undef : Value) = _; simp [gt, hA, hp]⟩
           | true =>
            have gd2 : a.tmps.getD 166 undef = undef := Eq.trans (Straight.got hg 41 166 (by kernel_rfl)) (by simp [gt, hA])
            exact .inr ⟨Straight.unwanted_no rfl rfl gd2, by show (undef : Value) = _; simp [gt, hA]⟩
        · as_aux_lemma =>
           intro a w1 hfr hg
           have hc_ := box_cell ((hfr.below.block b (lt_of_block XB.out)).trans XB.out) 11 rfl
           cases hA : acc p n 3 with
           | false =>
            cases hp : p 4 with
            | false =>
             have gd2 : a.tmps.getD 166 undef = .bool true := Eq.trans (Straight.got hg 41 166 (by kernel_rfl)) (by simp [gt, hA, hp])
             have k0 : a.tmps.getD 167 undef = .pointer (some ⟨b, 11, none⟩) := Eq.trans (Straight.got hg 42 167 (by kernel_rfl)) (by simp [gt, hA, hp])
             refine Loose.Step.valueG (Loose.wanted_of rfl rfl gd2) (v := .int .i64 c.ctr) (w' := w1) ?_ (by show (.int .i64 c.ctr : Value) = _; simp [gt, hA, hp]) (Below.refl _ _)
             simp [go_sem, Act.eval, k0, hA, hp, hc_]
            | true =>
             have gd2 : a.tmps.getD 166 undef = .bool false := Eq.trans (Straight.got hg 41 166 (by kernel_rfl)) (by simp [gt, hA, hp])
             exact .inr ⟨Straight.unwanted_of rfl rfl gd2, by show (undef : Value) = _; simp [gt, hA, hp]⟩
           | true =>
            have gd2 : a.tmps.getD 166 undef = undef := Eq.trans (Straight.got hg 41 166 (by kernel_rfl)) (by simp [gt, hA])
            exact .inr ⟨Straight.unwanted_no rfl rfl gd2, by show (undef : Value) = _; simp [gt, hA]⟩
        · as_aux_lemma =>
           intro a w1 hfr hg
           cases hA : acc p n 3 with
           | false =>
            cases hp : p 4 with
            | false =>
             cases hn : n 4 with
             | false =>
              have gd2 : a.tmps.getD 166 undef = .bool true := Eq.trans (Straight.got hg 41 166 (by kernel_rfl)) (by simp [gt, hA, hp, hn])
              have k0 : a.tmps.getD 168 undef = .int .i64 c.ctr := Eq.trans (Straight.got hg 43 168 (by kernel_rfl)) (by simp [gt, hA, hp, hn])
              have z := N4.out
              rw [hn] at z
              have z2 := z.2 rfl
              clear z
              refine Loose.Step.valueG (Loose.wanted_of rfl rfl gd2) (v := .bool false) (w' := w1) ?_ (by show (.bool false : Value) = _; simp [gt, hA, hp, hn]) (Below.refl _ _)
              simp [go_sem, Act.eval, k0, hA, hp, hn, z2]
             | true =>
              have gd2 : a.tmps.getD 166 undef = .bool true := Eq.trans (Straight.got hg 41 166 (by kernel_rfl)) (by simp [gt, hA, hp, hn])
              have k0 : a.tmps.getD 168 undef = .int .i64 c.ctr := Eq.trans (Straight.got hg 43 168 (by kernel_rfl)) (by simp [gt, hA, hp, hn])
              have z := N4.out
              rw [hn] at z
              have z2 := z.1 rfl
              clear z
              refine Loose.Step.valueG (Loose.wanted_of rfl rfl gd2) (v := .bool true) (w' := w1) ?_ (by show (.bool true : Value) = _; simp [gt, hA, hp, hn]) (Below.refl _ _)
              simp [go_sem, Act.eval, k0, hA, hp, hn, z2]
            | true =>
             have gd2 : a.tmps.getD 166 undef = .bool false := Eq.trans (Straight.got hg 41 166 (by kernel_rfl)) (by simp [gt, hA, hp])
             exact .inr ⟨Straight.unwanted_of rfl rfl gd2, by show (undef : Value) = _; simp [gt, hA, hp]⟩
           | true =>
            have gd2 : a.tmps.getD 166 undef = undef := Eq.trans (Straight.got hg 41 166 (by kernel_rfl)) (by simp [gt, hA])
            exact .inr ⟨Straight.unwanted_no rfl rfl gd2, by show (undef : Value) = _; simp [gt, hA]⟩
        · as_aux_lemma =>
           intro a w1 hfr hg
           cases hA : acc p n 3 with
           | false =>
            cases hp : p 4 with
            | false =>
             have gd2 : a.tmps.getD 162 undef = .bool false := Eq.trans (Straight.got hg 37 162 (by kernel_rfl)) (by simp [gt, hA, hp])
             have k0 : a.tmps.getD 166 undef = .bool (!p 4) := Eq.trans (Straight.got hg 41 166 (by kernel_rfl)) (by simp [gt, hA, hp])
             have k1 : a.tmps.getD 169 undef = .bool (n 4) := Eq.trans (Straight.got hg 44 169 (by kernel_rfl)) (by simp [gt, hA, hp])
             refine Loose.Step.valueG (Loose.wanted_of rfl rfl gd2) (v := .bool (n 4)) (w' := w1) ?_ (by show (.bool (n 4) : Value) = _; simp [gt, hA, hp]) (Below.refl _ _)
             simp [go_sem, Act.eval, k0, k1, hA, hp]
            | true =>
             have gd2 : a.tmps.getD 162 undef = .bool false := Eq.trans (Straight.got hg 37 162 (by kernel_rfl)) (by simp [gt, hA, hp])
             have k0 : a.tmps.getD 166 undef = .bool (!p 4) := Eq.trans (Straight.got hg 41 166 (by kernel_rfl)) (by simp [gt, hA, hp])
             have k1 : a.tmps.getD 169 undef = undef := Eq.trans (Straight.got hg 44 169 (by kernel_rfl)) (by simp [gt, hA, hp])
             refine Loose.Step.valueG (Loose.wanted_of rfl rfl gd2) (v := .bool false) (w' := w1) ?_ (by show (.bool false : Value) = _; simp [gt, hA, hp]) (Below.refl _ _)
             simp [go_sem, Act.eval, k0, k1, hA, hp]
           | true =>
            have gd2 : a.tmps.getD 162 undef = .bool true := Eq.trans (Straight.got hg 37 162 (by kernel_rfl)) (by simp [gt, hA])
            exact .inr ⟨Straight.unwanted_of rfl rfl gd2, by show (undef : Value) = _; simp [gt, hA]⟩
        · as_aux_lemma =>
           intro a w1 hfr hg
           cases hA : acc p n 3 with
           | false =>
            have k0 : a.tmps.getD 162 undef = .bool (acc p n 3) := Straight.got hg 37 162 (by kernel_rfl)
            have k1 : a.tmps.getD 170 undef = .bool (!p 4 && n 4) := Eq.trans (Straight.got hg 45 170 (by kernel_rfl)) (by simp [gt, hA])
            refine Loose.Step.value rfl (v := .bool (!p 4 && n 4)) (w' := w1) ?_ (congrArg Value.bool (acc_f hA).symm) (Below.refl _ _)
            simp [go_sem, Act.eval, k0, k1, hA]
           | true =>
            have k0 : a.tmps.getD 162 undef = .bool (acc p n 3) := Straight.got hg 37 162 (by kernel_rfl)
            have k1 : a.tmps.getD 170 undef = undef := Eq.trans (Straight.got hg 45 170 (by kernel_rfl)) (by simp [gt, hA])
            refine Loose.Step.value rfl (v := .bool true) (w' := w1) ?_ (congrArg Value.bool (acc_t hA).symm) (Below.refl _ _)
            simp [go_sem, Act.eval, k0, k1, hA]
        · as_aux_lemma =>
           intro a w1 hfr hg
           have k0 : a.tmps.getD 171 undef = .bool (acc p n 4) := Straight.got hg 46 171 (by kernel_rfl)
           refine Loose.Step.value rfl (v := .bool (acc p n 4)) (w' := w1) ?_ rfl (Below.refl _ _)
           simp [go_sem, Act.eval, k0]
        · as_aux_lemma =>
           intro a w1 hfr hg
           have e0 : a.tmps.getD 4 undef = .slice A l.length cap := hfr.slot 4 (by kernel_rfl)
           cases hA : acc p n 4 with
           | false =>
            have gd2 : a.tmps.getD 172 undef = .bool false := Eq.trans (Straight.got hg 47 172 (by kernel_rfl)) (by simp [gt, hA])
            refine Loose.Step.valueG (Loose.wanted_of rfl rfl gd2) (v := .slice A l.length cap) (w' := w1) ?_ (by show (.slice A l.length cap : Value) = _; simp [gt, hA]) (Below.refl _ _)
            simp [go_sem, Act.eval, e0, hA]
           | true =>
            have gd2 : a.tmps.getD 172 undef = .bool true := Eq.trans (Straight.got hg 47 172 (by kernel_rfl)) (by simp [gt, hA])
            exact .inr ⟨Straight.unwanted_of rfl rfl gd2, by show (undef : Value) = _; simp [gt, hA]⟩
        · as_aux_lemma =>
           intro a w1 hfr hg
           cases hA : acc p n 4 with
           | false =>
            have gd2 : a.tmps.getD 172 undef = .bool false := Eq.trans (Straight.got hg 47 172 (by kernel_rfl)) (by simp [gt, hA])
            have k0 : a.tmps.getD 173 undef = .slice A l.length cap := Eq.trans (Straight.got hg 48 173 (by kernel_rfl)) (by simp [gt, hA])
            refine Loose.Step.callG (Loose.wanted_of rfl rfl gd2) (f := 71) (args := #[.slice A l.length cap, .string ⟨#[105, 100]⟩]) ?_ ?_
            · simp [go_sem, Act.eval, k0]
            · refine (has_any A cap l.length xs ⟨#[105, 100]⟩ HLN.out (Nat.le_trans HLE.out (by decide)) w1 (texts_below TX.out hfr.below)).mono ?_
              rintro e w2 ⟨rfl, rfl⟩
              exact ⟨_, rfl, (congrArg Value.bool P5.out).trans (show (Value.bool (p 5)) = gt (acc p n 4) (.bool (p 5)) by simp [gt, hA]), Below.refl _ _⟩
           | true =>
            have gd2 : a.tmps.getD 172 undef = .bool true := Eq.trans (Straight.got hg 47 172 (by kernel_rfl)) (by simp [gt, hA])
            exact .inr ⟨Straight.unwanted_of rfl rfl gd2, by show (undef : Value) = _; simp [gt, hA]⟩
        · as_aux_lemma =>
           intro a w1 hfr hg
           cases hA : acc p n 4 with
           | false =>
            have gd2 : a.tmps.getD 172 undef = .bool false := Eq.trans (Straight.got hg 47 172 (by kernel_rfl)) (by simp [gt, hA])
            have k0 : a.tmps.getD 174 undef = .bool (p 5) := Eq.trans (Straight.got hg 49 174 (by kernel_rfl)) (by simp [gt, hA])
            refine Loose.Step.valueG (Loose.wanted_of rfl rfl gd2) (v := .bool (!p 5)) (w' := w1) ?_ (by show (.bool (!p 5) : Value) = _; simp [gt, hA]) (Below.refl _ _)
            simp [go_sem, Act.eval, k0, hA]
           | true =>
            have gd2 : a.tmps.getD 172 undef = .bool true := Eq.trans (Straight.got hg 47 172 (by kernel_rfl)) (by simp [gt, hA])
            exact .inr ⟨Straight.unwanted_of rfl rfl gd2, by show (undef : Value) = _; simp [gt, hA]⟩
        · as_aux_lemma =>
           intro a w1 hfr hg
           cases hA : acc p n 4 with
           | false =>
            have gd2 : a.tmps.getD 172 undef = .bool false := Eq.trans (Straight.got hg 47 172 (by kernel_rfl)) (by simp [gt, hA])
            have k0 : a.tmps.getD 175 undef = .bool (!p 5) := Eq.trans (Straight.got hg 50 175 (by kernel_rfl)) (by simp [gt, hA])
            refine Loose.Step.valueG (Loose.wanted_of rfl rfl gd2) (v := .bool (!p 5)) (w' := w1) ?_ (by show (.bool (!p 5) : Value) = _; simp [gt, hA]) (Below.refl _ _)
            simp [go_sem, Act.eval, k0, hA]
           | true =>
            have gd2 : a.tmps.getD 172 undef = .bool true := Eq.trans (Straight.got hg 47 172 (by kernel_rfl)) (by simp [gt, hA])
            exact .inr ⟨Straight.unwanted_of rfl rfl gd2, by show (undef : Value) = _; simp [gt, hA]⟩
        · as_aux_lemma =>
           intro a w1 hfr hg
           have e0 : a.tmps.getD 1 undef = .pointer (some ⟨b, 0, none⟩) := hfr.slot 1 (by kernel_rfl)
           cases hA : acc p n 4 with
           | false =>
            cases hp : p 5 with
            | false =>
             have gd2 : a.tmps.getD 176 undef = .bool true := Eq.trans (Straight.got hg 51 176 (by kernel_rfl)) (by simp [gt, hA, hp])
             refine Loose.Step.valueG (Loose.wanted_of rfl rfl gd2) (v := .pointer (some ⟨b, 12, none⟩)) (w' := w1) ?_ (by show (.pointer (some ⟨b, 12, none⟩) : Value) = _; simp [gt, hA, hp]) (Below.refl _ _)
             simp [go_sem, Act.eval, e0, hA, hp]
            | true =>
             have gd2 : a.tmps.getD 176 undef = .bool false := Eq.trans (Straight.got hg 51 176 (by kernel_rfl)) (by simp [gt, hA, hp])
             exact .inr ⟨Straight.unwanted_of rfl rfl gd2, by show (undef : Value) = _; simp [gt, hA, hp]⟩
           | true =>
            have gd2 : a.tmps.getD 176 undef = undef := Eq.trans (Straight.got hg 51 176 (by kernel_rfl)) (by simp [gt, hA])
            exact .inr ⟨Straight.unwanted_no rfl rfl gd2, by show (undef : Value) = _; simp [gt, hA]⟩
        · as_aux_lemma =>
           intro a w1 hfr hg
           have hc_ := box_cell ((hfr.below.block b (lt_of_block XB.out)).trans XB.out) 12 rfl
           cases hA : acc p n 4 with
           | false =>
            cases hp : p 5 with
            | false =>
             have gd2 : a.tmps.getD 176 undef = .bool true := Eq.trans (Straight.got hg 51 176 (by kernel_rfl)) (by simp [gt, hA, hp])
             have k0 : a.tmps.getD 177 undef = .pointer (some ⟨b, 12, none⟩) := Eq.trans (Straight.got hg 52 177 (by kernel_rfl)) (by simp [gt, hA, hp])
             refine Loose.Step.valueG (Loose.wanted_of rfl rfl gd2) (v := .int .i64 c.id) (w' := w1) ?_ (by show (.int .i64 c.id : Value) = _; simp [gt, hA, hp]) (Below.refl _ _)
             simp [go_sem, Act.eval, k0, hA, hp, hc_]
            | true =>
             have gd2 : a.tmps.getD 176 undef = .bool false := Eq.trans (Straight.got hg 51 176 (by kernel_rfl)) (by simp [gt, hA, hp])
             exact .inr ⟨Straight.unwanted_of rfl rfl gd2, by show (undef : Value) = _; simp [gt, hA, hp]⟩
           | true =>
            have gd2 : a.tmps.getD 176 undef = undef := Eq.trans (Straight.got hg 51 176 (by kernel_rfl)) (by simp [gt, hA])
            exact .inr ⟨Straight.unwanted_no rfl rfl gd2, by show (undef : Value) = _; simp [gt, hA]⟩
        · as_aux_lemma =>
           intro a w1 hfr hg
           cases hA : acc p n 4 with
           | false =>
            cases hp : p 5 with
            | false =>
             cases hn : n 5 with
             | false =>
              have gd2 : a.tmps.getD 176 undef = .bool true := Eq.trans (Straight.got hg 51 176 (by kernel_rfl)) (by simp [gt, hA, hp, hn])
              have k0 : a.tmps.getD 178 undef = .int .i64 c.id := Eq.trans (Straight.got hg 53 178 (by kernel_rfl)) (by simp [gt, hA, hp, hn])
              have z := N5.out
              rw [hn] at z
              have z2 := z.2 rfl
              clear z
              refine Loose.Step.valueG (Loose.wanted_of rfl rfl gd2) (v := .bool false) (w' := w1) ?_ (by show (.bool false : Value) = _; simp [gt, hA, hp, hn]) (Below.refl _ _)
              simp [go_sem, Act.eval, k0, hA, hp, hn, z2]
             | true =>
              have gd2 : a.tmps.getD 176 undef = .bool true := Eq.trans (Straight.got hg 51 176 (by kernel_rfl)) (by simp [gt, hA, hp, hn])
              have k0 : a.tmps.getD 178 undef = .int .i64 c.id := Eq.trans (Straight.got hg 53 178 (by kernel_rfl)) (by simp [gt, hA, hp, hn])
              have z := N5.out
              rw [hn] at z
              have z2 := z.1 rfl
              clear z
              refine Loose.Step.valueG (Loose.wanted_of rfl rfl gd2) (v := .bool true) (w' := w1) ?_ (by show (.bool true : Value) = _; simp [gt, hA, hp, hn]) (Below.refl _ _)
              simp [go_sem, Act.eval, k0, hA, hp, hn, z2]
            | true =>
             have gd2 : a.tmps.getD 176 undef = .bool false := Eq.trans (Straight.got hg 51 176 (by kernel_rfl)) (by simp [gt, hA, hp])
             exact .inr ⟨Straight.unwanted_of rfl rfl gd2, by show (undef : Value) = _; simp [gt, hA, hp]⟩
           | true =>
            have gd2 : a.tmps.getD 176 undef = undef := Eq.trans (Straight.got hg 51 176 (by kernel_rfl)) (by simp [gt, hA])
            exact .inr ⟨Straight.unwanted_no rfl rfl gd2, by show (undef : Value) = _; simp [gt, hA]⟩
        · as_aux_lemma =>
           intro a w1 hfr hg
           cases hA : acc p n 4 with
           | false =>
            cases hp : p 5 with
            | false =>
             have gd2 : a.tmps.getD 172 undef = .bool false := Eq.trans (Straight.got hg 47 172 (by kernel_rfl)) (by simp [gt, hA, hp])
             have k0 : a.tmps.getD 176 undef = .bool (!p 5) := Eq.trans (Straight.got hg 51 176 (by kernel_rfl)) (by simp [gt, hA, hp])
             have k1 : a.tmps.getD 179 undef = .bool (n 5) := Eq.trans (Straight.got hg 54 179 (by kernel_rfl)) (by simp [gt, hA, hp])
             refine Loose.Step.valueG (Loose.wanted_of rfl rfl gd2) (v := .bool (n 5)) (w' := w1) ?_ (by show (.bool (n 5) : Value) = _; simp [gt, hA, hp]) (Below.refl _ _)
             simp [go_sem, Act.eval, k0, k1, hA, hp]
            | true =>
             have gd2 : a.tmps.getD 172 undef = .bool false := Eq.trans (Straight.got hg 47 172 (by kernel_rfl)) (by simp [gt, hA, hp])
             have k0 : a.tmps.getD 176 undef = .bool (!p 5) := Eq.trans (Straight.got hg 51 176 (by kernel_rfl)) (by simp [gt, hA, hp])
             have k1 : a.tmps.getD 179 undef = undef := Eq.trans (Straight.got hg 54 179 (by kernel_rfl)) (by simp [gt, hA, hp])
             refine Loose.Step.valueG (Loose.wanted_of rfl rfl gd2) (v := .bool false) (w' := w1) ?_ (by show (.bool false : Value) = _; simp [gt, hA, hp]) (Below.refl _ _)
             simp [go_sem, Act.eval, k0, k1, hA, hp]
           | true =>
            have gd2 : a.tmps.getD 172 undef = .bool true := Eq.trans (Straight.got hg 47 172 (by kernel_rfl)) (by simp [gt, hA])
            exact .inr ⟨Straight.unwanted_of rfl rfl gd2, by show (undef : Value) = _; simp [gt, hA]⟩
        · as_aux_lemma =>
           intro a w1 hfr hg
           cases hA : acc p n 4 with
           | false =>
            have k0 : a.tmps.getD 172 undef = .bool (acc p n 4) := Straight.got hg 47 172 (by kernel_rfl)
            have k1 : a.tmps.getD 180 undef = .bool (!p 5 && n 5) := Eq.trans (Straight.got hg 55 180 (by kernel_rfl)) (by simp [gt, hA])
            refine Loose.Step.value rfl (v := .bool (!p 5 && n 5)) (w' := w1) ?_ (congrArg Value.bool (acc_f hA).symm) (Below.refl _ _)
            simp [go_sem, Act.eval, k0, k1, hA]
           | true =>
            have k0 : a.tmps.getD 172 undef = .bool (acc p n 4) := Straight.got hg 47 172 (by kernel_rfl)
            have k1 : a.tmps.getD 180 undef = undef := Eq.trans (Straight.got hg 55 180 (by kernel_rfl)) (by simp [gt, hA])
            refine Loose.Step.value rfl (v := .bool true) (w' := w1) ?_ (congrArg Value.bool (acc_t hA).symm) (Below.refl _ _)
            simp [go_sem, Act.eval, k0, k1, hA]
        · as_aux_lemma =>
           intro a w1 hfr hg
           have k0 : a.tmps.getD 181 undef = .bool (acc p n 5) := Straight.got hg 56 181 (by kernel_rfl)
           refine Loose.Step.value rfl (v := .bool (acc p n 5)) (w' := w1) ?_ rfl (Below.refl _ _)
           simp [go_sem, Act.eval, k0]
        · as_aux_lemma =>
           intro a w1 hfr hg
           have e0 : a.tmps.getD 4 undef = .slice A l.length cap := hfr.slot 4 (by kernel_rfl)
           cases hA : acc p n 5 with
           | false =>
            have gd2 : a.tmps.getD 182 undef = .bool false := Eq.trans (Straight.got hg 57 182 (by kernel_rfl)) (by simp [gt, hA])
            refine Loose.Step.valueG (Loose.wanted_of rfl rfl gd2) (v := .slice A l.length cap) (w' := w1) ?_ (by show (.slice A l.length cap : Value) = _; simp [gt, hA]) (Below.refl _ _)
            simp [go_sem, Act.eval, e0, hA]
           | true =>
            have gd2 : a.tmps.getD 182 undef = .bool true := Eq.trans (Straight.got hg 57 182 (by kernel_rfl)) (by simp [gt, hA])
            exact .inr ⟨Straight.unwanted_of rfl rfl gd2, by show (undef : Value) = _; simp [gt, hA]⟩
        · as_aux_lemma =>
           intro a w1 hfr hg
           cases hA : acc p n 5 with
           | false =>
            have gd2 : a.tmps.getD 182 undef = .bool false := Eq.trans (Straight.got hg 57 182 (by kernel_rfl)) (by simp [gt, hA])
            have k0 : a.tmps.getD 183 undef = .slice A l.length cap := Eq.trans (Straight.got hg 58 183 (by kernel_rfl)) (by simp [gt, hA])
            refine Loose.Step.callG (Loose.wanted_of rfl rfl gd2) (f := 71) (args := #[.slice A l.length cap, .string ⟨#[109, 111, 115, 116]⟩]) ?_ ?_
            · simp [go_sem, Act.eval, k0]
            · refine (has_any A cap l.length xs ⟨#[109, 111, 115, 116]⟩ HLN.out (Nat.le_trans HLE.out (by decide)) w1 (texts_below TX.out hfr.below)).mono ?_
              rintro e w2 ⟨rfl, rfl⟩
              exact ⟨_, rfl, (congrArg Value.bool P6.out).trans (show (Value.bool (p 6)) = gt (acc p n 5) (.bool (p 6)) by simp [gt, hA]), Below.refl _ _⟩
           | true =>
            have gd2 : a.tmps.getD 182 undef = .bool true := Eq.trans (Straight.got hg 57 182 (by kernel_rfl)) (by simp [gt, hA])
            exact .inr ⟨Straight.unwanted_of rfl rfl gd2, by show (undef : Value) = _; simp [gt, hA]⟩
        · as_aux_lemma =>
           intro a w1 hfr hg
           cases hA : acc p n 5 with
           | false =>
            have gd2 : a.tmps.getD 182 undef = .bool false := Eq.trans (Straight.got hg 57 182 (by kernel_rfl)) (by simp [gt, hA])
            have k0 : a.tmps.getD 184 undef = .bool (p 6) := Eq.trans (Straight.got hg 59 184 (by kernel_rfl)) (by simp [gt, hA])
            refine Loose.Step.valueG (Loose.wanted_of rfl rfl gd2) (v := .bool (!p 6)) (w' := w1) ?_ (by show (.bool (!p 6) : Value) = _; simp [gt, hA]) (Below.refl _ _)
            simp [go_sem, Act.eval, k0, hA]
           | true =>
            have gd2 : a.tmps.getD 182 undef = .bool true := Eq.trans (Straight.got hg 57 182 (by kernel_rfl)) (by simp [gt, hA])
            exact .inr ⟨Straight.unwanted_of rfl rfl gd2, by show (undef : Value) = _; simp [gt, hA]⟩
        · as_aux_lemma =>
           intro a w1 hfr hg
           cases hA : acc p n 5 with
           | false =>
            have gd2 : a.tmps.getD 182 undef = .bool false := Eq.trans (Straight.got hg 57 182 (by kernel_rfl)) (by simp [gt, hA])
            have k0 : a.tmps.getD 185 undef = .bool (!p 6) := Eq.trans (Straight.got hg 60 185 (by kernel_rfl)) (by simp [gt, hA])
            refine Loose.Step.valueG (Loose.wanted_of rfl rfl gd2) (v := .bool (!p 6)) (w' := w1) ?_ (by show (.bool (!p 6) : Value) = _; simp [gt, hA]) (Below.refl _ _)
            simp [go_sem, Act.eval, k0, hA]
           | true =>
            have gd2 : a.tmps.getD 182 undef = .bool true := Eq.trans (Straight.got hg 57 182 (by kernel_rfl)) (by simp [gt, hA])
            exact .inr ⟨Straight.unwanted_of rfl rfl gd2, by show (undef : Value) = _; simp [gt, hA]⟩
        · as_aux_lemma =>
           intro a w1 hfr hg
           have e0 : a.tmps.getD 1 undef = .pointer (some ⟨b, 0, none⟩) := hfr.slot 1 (by kernel_rfl)
           cases hA : acc p n 5 with
           | false =>
            cases hp : p 6 with
            | false =>
             have gd2 : a.tmps.getD 186 undef = .bool true := Eq.trans (Straight.got hg 61 186 (by kernel_rfl)) (by simp [gt, hA, hp])
             refine Loose.Step.valueG (Loose.wanted_of rfl rfl gd2) (v := .pointer (some ⟨b, 13, none⟩)) (w' := w1) ?_ (by show (.pointer (some ⟨b, 13, none⟩) : Value) = _; simp [gt, hA, hp]) (Below.refl _ _)
             simp [go_sem, Act.eval, e0, hA, hp]
            | true =>
             have gd2 : a.tmps.getD 186 undef = .bool false := Eq.trans (Straight.got hg 61 186 (by kernel_rfl)) (by simp [gt, hA, hp])
             exact .inr ⟨Straight.unwanted_of rfl rfl gd2, by show (undef : Value) = _; simp [gt, hA, hp]⟩
           | true =>
            have gd2 : a.tmps.getD 186 undef = undef := Eq.trans (Straight.got hg 61 186 (by kernel_rfl)) (by simp [gt, hA])
            exact .inr ⟨Straight.unwanted_no rfl rfl gd2, by show (undef : Value) = _; simp [gt, hA]⟩
        · as_aux_lemma =>
           intro a w1 hfr hg
           have hc_ := box_cell ((hfr.below.block b (lt_of_block XB.out)).trans XB.out) 13 rfl
           cases hA : acc p n 5 with
           | false =>
            cases hp : p 6 with
            | false =>
             have gd2 : a.tmps.getD 186 undef = .bool true := Eq.trans (Straight.got hg 61 186 (by kernel_rfl)) (by simp [gt, hA, hp])
             have k0 : a.tmps.getD 187 undef = .pointer (some ⟨b, 13, none⟩) := Eq.trans (Straight.got hg 62 187 (by kernel_rfl)) (by simp [gt, hA, hp])
             refine Loose.Step.valueG (Loose.wanted_of rfl rfl gd2) (v := .int .i64 c.most) (w' := w1) ?_ (by show (.int .i64 c.most : Value) = _; simp [gt, hA, hp]) (Below.refl _ _)
             simp [go_sem, Act.eval, k0, hA, hp, hc_]
            | true =>
             have gd2 : a.tmps.getD 186 undef = .bool false := Eq.trans (Straight.got hg 61 186 (by kernel_rfl)) (by simp [gt, hA, hp])
             exact .inr ⟨Straight.unwanted_of rfl rfl gd2, by show (undef : Value) = _; simp [gt, hA, hp]⟩
           | true =>
            have gd2 : a.tmps.getD 186 undef = undef := Eq.trans (Straight.got hg 61 186 (by kernel_rfl)) (by simp [gt, hA])
            exact .inr ⟨Straight.unwanted_no rfl rfl gd2, by show (undef : Value) = _; simp [gt, hA]⟩
        · as_aux_lemma =>
           intro a w1 hfr hg
           cases hA : acc p n 5 with
           | false =>
            cases hp : p 6 with
            | false =>
             cases hn : n 6 with
             | false =>
              have gd2 : a.tmps.getD 186 undef = .bool true := Eq.trans (Straight.got hg 61 186 (by kernel_rfl)) (by simp [gt, hA, hp, hn])
              have k0 : a.tmps.getD 188 undef = .int .i64 c.most := Eq.trans (Straight.got hg 63 188 (by kernel_rfl)) (by simp [gt, hA, hp, hn])
              have z := N6.out
              rw [hn] at z
              have z2 := z.2 rfl
              clear z
              refine Loose.Step.valueG (Loose.wanted_of rfl rfl gd2) (v := .bool false) (w' := w1) ?_ (by show (.bool false : Value) = _; simp [gt, hA, hp, hn]) (Below.refl _ _)
              simp [go_sem, Act.eval, k0, hA, hp, hn, z2]
             | true =>
              have gd2 : a.tmps.getD 186 undef = .bool true := Eq.trans (Straight.got hg 61 186 (by kernel_rfl)) (by simp [gt, hA, hp, hn])
              have k0 : a.tmps.getD 188 undef = .int .i64 c.most := Eq.trans (Straight.got hg 63 188 (by kernel_rfl)) (by simp [gt, hA, hp, hn])
              have z := N6.out
              rw [hn] at z
              have z2 := z.1 rfl
              clear z
              refine Loose.Step.valueG (Loose.wanted_of rfl rfl gd2) (v := .bool true) (w' := w1) ?_ (by show (.bool true : Value) = _; simp [gt, hA, hp, hn]) (Below.refl _ _)
              simp [go_sem, Act.eval, k0, hA, hp, hn, z2]
            | true =>
             have gd2 : a.tmps.getD 186 undef = .bool false := Eq.trans (Straight.got hg 61 186 (by kernel_rfl)) (by simp [gt, hA, hp])
             exact .inr ⟨Straight.unwanted_of rfl rfl gd2, by show (undef : Value) = _; simp [gt, hA, hp]⟩
           | true =>
            have gd2 : a.tmps.getD 186 undef = undef := Eq.trans (Straight.got hg 61 186 (by kernel_rfl)) (by simp [gt, hA])
            exact .inr ⟨Straight.unwanted_no rfl rfl gd2, by show (undef : Value) = _; simp [gt, hA]⟩
        · as_aux_lemma =>
           intro a w1 hfr hg
           cases hA : acc p n 5 with
           | false =>
            cases hp : p 6 with
            | false =>
             have gd2 : a.tmps.getD 182 undef = .bool false := Eq.trans (Straight.got hg 57 182 (by kernel_rfl)) (by simp [gt, hA, hp])
             have k0 : a.tmps.getD 186 undef = .bool (!p 6) := Eq.trans (Straight.got hg 61 186 (by kernel_rfl)) (by simp [gt, hA, hp])
             have k1 : a.tmps.getD 189 undef = .bool (n 6) := Eq.trans (Straight.got hg 64 189 (by kernel_rfl)) (by simp [gt, hA, hp])
             refine Loose.Step.valueG (Loose.wanted_of rfl rfl gd2) (v := .bool (n 6)) (w' := w1) ?_ (by show (.bool (n 6) : Value) = _; simp [gt, hA, hp]) (Below.refl _ _)
             simp [go_sem, Act.eval, k0, k1, hA, hp]
            | true =>
             have gd2 : a.tmps.getD 182 undef = .bool false := Eq.trans (Straight.got hg 57 182 (by kernel_rfl)) (by simp [gt, hA, hp])
             have k0 : a.tmps.getD 186 undef = .bool (!p 6) := Eq.trans (Straight.got hg 61 186 (by kernel_rfl)) (by simp [gt, hA, hp])
             have k1 : a.tmps.getD 189 undef = undef := Eq.trans (Straight.got hg 64 189 (by kernel_rfl)) (by simp [gt, hA, hp])
             refine Loose.Step.valueG (Loose.wanted_of rfl rfl gd2) (v := .bool false) (w' := w1) ?_ (by show (.bool false : Value) = _; simp [gt, hA, hp]) (Below.refl _ _)
             simp [go_sem, Act.eval, k0, k1, hA, hp]
           | true =>
            have gd2 : a.tmps.getD 182 undef = .bool true := Eq.trans (Straight.got hg 57 182 (by kernel_rfl)) (by simp [gt, hA])
            exact .inr ⟨Straight.unwanted_of rfl rfl gd2, by show (undef : Value) = _; simp [gt, hA]⟩
        · as_aux_lemma =>
           intro a w1 hfr hg
           cases hA : acc p n 5 with
           | false =>
            have k0 : a.tmps.getD 182 undef = .bool (acc p n 5) := Straight.got hg 57 182 (by kernel_rfl)
            have k1 : a.tmps.getD 190 undef = .bool (!p 6 && n 6) := Eq.trans (Straight.got hg 65 190 (by kernel_rfl)) (by simp [gt, hA])
            refine Loose.Step.value rfl (v := .bool (!p 6 && n 6)) (w' := w1) ?_ (congrArg Value.bool (acc_f hA).symm) (Below.refl _ _)
            simp [go_sem, Act.eval, k0, k1, hA]
           | true =>
            have k0 : a.tmps.getD 182 undef = .bool (acc p n 5) := Straight.got hg 57 182 (by kernel_rfl)
            have k1 : a.tmps.getD 190 undef = undef := Eq.trans (Straight.got hg 65 190 (by kernel_rfl)) (by simp [gt, hA])
            refine Loose.Step.value rfl (v := .bool true) (w' := w1) ?_ (congrArg Value.bool (acc_t hA).symm) (Below.refl _ _)
            simp [go_sem, Act.eval, k0, k1, hA]
        · as_aux_lemma =>
           intro a w1 hfr hg
           have k0 : a.tmps.getD 191 undef = .bool (acc p n 6) := Straight.got hg 66 191 (by kernel_rfl)
           refine Loose.Step.value rfl (v := .bool (acc p n 6)) (w' := w1) ?_ rfl (Below.refl _ _)
           simp [go_sem, Act.eval, k0]
        · as_aux_lemma =>
           intro a w1 hfr hg
           have e0 : a.tmps.getD 4 undef = .slice A l.length cap := hfr.slot 4 (by kernel_rfl)
           cases hA : acc p n 6 with
           | false =>
            have gd2 : a.tmps.getD 192 undef = .bool false := Eq.trans (Straight.got hg 67 192 (by kernel_rfl)) (by simp [gt, hA])
            refine Loose.Step.valueG (Loose.wanted_of rfl rfl gd2) (v := .slice A l.length cap) (w' := w1) ?_ (by show (.slice A l.length cap : Value) = _; simp [gt, hA]) (Below.refl _ _)
            simp [go_sem, Act.eval, e0, hA]
           | true =>
            have gd2 : a.tmps.getD 192 undef = .bool true := Eq.trans (Straight.got hg 67 192 (by kernel_rfl)) (by simp [gt, hA])
            exact .inr ⟨Straight.unwanted_of rfl rfl gd2, by show (undef : Value) = _; simp [gt, hA]⟩
        · as_aux_lemma =>
           intro a w1 hfr hg
           cases hA : acc p n 6 with
           | false =>
            have gd2 : a.tmps.getD 192 undef = .bool false := Eq.trans (Straight.got hg 67 192 (by kernel_rfl)) (by simp [gt, hA])
            have k0 : a.tmps.getD 193 undef = .slice A l.length cap := Eq.trans (Straight.got hg 68 193 (by kernel_rfl)) (by simp [gt, hA])
            refine Loose.Step.callG (Loose.wanted_of rfl rfl gd2) (f := 71) (args := #[.slice A l.length cap, .string ⟨#[100, 97, 116, 97]⟩]) ?_ ?_
            · simp [go_sem, Act.eval, k0]
            · refine (has_any A cap l.length xs ⟨#[100, 97, 116, 97]⟩ HLN.out (Nat.le_trans HLE.out (by decide)) w1 (texts_below TX.out hfr.below)).mono ?_
              rintro e w2 ⟨rfl, rfl⟩
              exact ⟨_, rfl, (congrArg Value.bool P7.out).trans (show (Value.bool (p 7)) = gt (acc p n 6) (.bool (p 7)) by simp [gt, hA]), Below.refl _ _⟩
           | true =>
            have gd2 : a.tmps.getD 192 undef = .bool true := Eq.trans (Straight.got hg 67 192 (by kernel_rfl)) (by simp [gt, hA])
            exact .inr ⟨Straight.unwanted_of rfl rfl gd2, by show (undef : Value) = _; simp [gt, hA]⟩
        · as_aux_lemma =>
           intro a w1 hfr hg
           cases hA : acc p n 6 with
           | false =>
            have gd2 : a.tmps.getD 192 undef = .bool false := Eq.trans (Straight.got hg 67 192 (by kernel_rfl)) (by simp [gt, hA])
            have k0 : a.tmps.getD 194 undef = .bool (p 7) := Eq.trans (Straight.got hg 69 194 (by kernel_rfl)) (by simp [gt, hA])
            refine Loose.Step.valueG (Loose.wanted_of rfl rfl gd2) (v := .bool (!p 7)) (w' := w1) ?_ (by show (.bool (!p 7) : Value) = _; simp [gt, hA]) (Below.refl _ _)
            simp [go_sem, Act.eval, k0, hA]
           | true =>
            have gd2 : a.tmps.getD 192 undef = .bool true := Eq.trans (Straight.got hg 67 192 (by kernel_rfl)) (by simp [gt, hA])
            exact .inr ⟨Straight.unwanted_of rfl rfl gd2, by show (undef : Value) = _; simp [gt, hA]⟩
        · as_aux_lemma =>
           intro a w1 hfr hg
           cases hA : acc p n 6 with
           | false =>
            have gd2 : a.tmps.getD 192 undef = .bool false := Eq.trans (Straight.got hg 67 192 (by kernel_rfl)) (by simp [gt, hA])
            have k0 : a.tmps.getD 195 undef = .bool (!p 7) := Eq.trans (Straight.got hg 70 195 (by kernel_rfl)) (by simp [gt, hA])
            refine Loose.Step.valueG (Loose.wanted_of rfl rfl gd2) (v := .bool (!p 7)) (w' := w1) ?_ (by show (.bool (!p 7) : Value) = _; simp [gt, hA]) (Below.refl _ _)
            simp [go_sem, Act.eval, k0, hA]
           | true =>
            have gd2 : a.tmps.getD 192 undef = .bool true := Eq.trans (Straight.got hg 67 192 (by kernel_rfl)) (by simp [gt, hA])
            exact .inr ⟨Straight.unwanted_of rfl rfl gd2, by show (undef : Value) = _; simp [gt, hA]⟩
        · as_aux_lemma =>
           intro a w1 hfr hg
           have e0 : a.tmps.getD 1 undef = .pointer (some ⟨b, 0, none⟩) := hfr.slot 1 (by kernel_rfl)
           cases hA : acc p n 6 with
           | false =>
            cases hp : p 7 with
            | false =>
             have gd2 : a.tmps.getD 196 undef = .bool true := Eq.trans (Straight.got hg 71 196 (by kernel_rfl)) (by simp [gt, hA, hp])
             refine Loose.Step.valueG (Loose.wanted_of rfl rfl gd2) (v := .pointer (some ⟨b, 14, none⟩)) (w' := w1) ?_ (by show (.pointer (some ⟨b, 14, none⟩) : Value) = _; simp [gt, hA, hp]) (Below.refl _ _)
             simp [go_sem, Act.eval, e0, hA, hp]
            | true =>
             have gd2 : a.tmps.getD 196 undef = .bool false := Eq.trans (Straight.got hg 71 196 (by kernel_rfl)) (by simp [gt, hA, hp])
             exact .inr ⟨Straight.unwanted_of rfl rfl gd2, by show (undef : Value) = _; simp [gt, hA, hp]⟩
           | true =>
            have gd2 : a.tmps.getD 196 undef = undef := Eq.trans (Straight.got hg 71 196 (by kernel_rfl)) (by simp [gt, hA])
            exact .inr ⟨Straight.unwanted_no rfl rfl gd2, by show (undef : Value) = _; simp [gt, hA]⟩
        · as_aux_lemma =>
           intro a w1 hfr hg
           have hc_ := box_cell ((hfr.below.block b (lt_of_block XB.out)).trans XB.out) 14 rfl
           cases hA : acc p n 6 with
           | false =>
            cases hp : p 7 with
            | false =>
             have gd2 : a.tmps.getD 196 undef = .bool true := Eq.trans (Straight.got hg 71 196 (by kernel_rfl)) (by simp [gt, hA, hp])
             have k0 : a.tmps.getD 197 undef = .pointer (some ⟨b, 14, none⟩) := Eq.trans (Straight.got hg 72 197 (by kernel_rfl)) (by simp [gt, hA, hp])
             refine Loose.Step.valueG (Loose.wanted_of rfl rfl gd2) (v := .string c.data) (w' := w1) ?_ (by show (.string c.data : Value) = _; simp [gt, hA, hp]) (Below.refl _ _)
             simp [go_sem, Act.eval, k0, hA, hp, hc_]
            | true =>
             have gd2 : a.tmps.getD 196 undef = .bool false := Eq.trans (Straight.got hg 71 196 (by kernel_rfl)) (by simp [gt, hA, hp])
             exact .inr ⟨Straight.unwanted_of rfl rfl gd2, by show (undef : Value) = _; simp [gt, hA, hp]⟩
           | true =>
            have gd2 : a.tmps.getD 196 undef = undef := Eq.trans (Straight.got hg 71 196 (by kernel_rfl)) (by simp [gt, hA])
            exact .inr ⟨Straight.unwanted_no rfl rfl gd2, by show (undef : Value) = _; simp [gt, hA]⟩
        · as_aux_lemma =>
           intro a w1 hfr hg
           cases hA : acc p n 6 with
           | false =>
            cases hp : p 7 with
            | false =>
             cases hn : n 7 with
             | false =>
              have gd2 : a.tmps.getD 196 undef = .bool true := Eq.trans (Straight.got hg 71 196 (by kernel_rfl)) (by simp [gt, hA, hp, hn])
              have k0 : a.tmps.getD 198 undef = .string c.data := Eq.trans (Straight.got hg 73 198 (by kernel_rfl)) (by simp [gt, hA, hp, hn])
              have z := N7.out
              rw [hn] at z
              have z2 := z.2 rfl
              clear z
              refine Loose.Step.valueG (Loose.wanted_of rfl rfl gd2) (v := .bool false) (w' := w1) ?_ (by show (.bool false : Value) = _; simp [gt, hA, hp, hn]) (Below.refl _ _)
              simp [go_sem, Act.eval, k0, hA, hp, hn, z2]
             | true =>
              have gd2 : a.tmps.getD 196 undef = .bool true := Eq.trans (Straight.got hg 71 196 (by kernel_rfl)) (by simp [gt, hA, hp, hn])
              have k0 : a.tmps.getD 198 undef = .string c.data := Eq.trans (Straight.got hg 73 198 (by kernel_rfl)) (by simp [gt, hA, hp, hn])
              have z := N7.out
              rw [hn] at z
              have z2 := text_some (show c.data.size ≠ 0 from fun h => z.1 rfl (empty_of h))
              clear z
              refine Loose.Step.valueG (Loose.wanted_of rfl rfl gd2) (v := .bool true) (w' := w1) ?_ (by show (.bool true : Value) = _; simp [gt, hA, hp, hn]) (Below.refl _ _)
              simp [go_sem, Act.eval, k0, hA, hp, hn, z2]
            | true =>
             have gd2 : a.tmps.getD 196 undef = .bool false := Eq.trans (Straight.got hg 71 196 (by kernel_rfl)) (by simp [gt, hA, hp])
             exact .inr ⟨Straight.unwanted_of rfl rfl gd2, by show (undef : Value) = _; simp [gt, hA, hp]⟩
           | true =>
            have gd2 : a.tmps.getD 196 undef = undef := Eq.trans (Straight.got hg 71 196 (by kernel_rfl)) (by simp [gt, hA])
            exact .inr ⟨Straight.unwanted_no rfl rfl gd2, by show (undef : Value) = _; simp [gt, hA]⟩
        · as_aux_lemma =>
           intro a w1 hfr hg
           cases hA : acc p n 6 with
           | false =>
            cases hp : p 7 with
            | false =>
             have gd2 : a.tmps.getD 192 undef = .bool false := Eq.trans (Straight.got hg 67 192 (by kernel_rfl)) (by simp [gt, hA, hp])
             have k0 : a.tmps.getD 196 undef = .bool (!p 7) := Eq.trans (Straight.got hg 71 196 (by kernel_rfl)) (by simp [gt, hA, hp])
             have k1 : a.tmps.getD 199 undef = .bool (n 7) := Eq.trans (Straight.got hg 74 199 (by kernel_rfl)) (by simp [gt, hA, hp])
             refine Loose.Step.valueG (Loose.wanted_of rfl rfl gd2) (v := .bool (n 7)) (w' := w1) ?_ (by show (.bool (n 7) : Value) = _; simp [gt, hA, hp]) (Below.refl _ _)
             simp [go_sem, Act.eval, k0, k1, hA, hp]
            | true =>
             have gd2 : a.tmps.getD 192 undef = .bool false := Eq.trans (Straight.got hg 67 192 (by kernel_rfl)) (by simp [gt, hA, hp])
             have k0 : a.tmps.getD 196 undef = .bool (!p 7) := Eq.trans (Straight.got hg 71 196 (by kernel_rfl)) (by simp [gt, hA, hp])
             have k1 : a.tmps.getD 199 undef = undef := Eq.trans (Straight.got hg 74 199 (by kernel_rfl)) (by simp [gt, hA, hp])
             refine Loose.Step.valueG (Loose.wanted_of rfl rfl gd2) (v := .bool false) (w' := w1) ?_ (by show (.bool false : Value) = _; simp [gt, hA, hp]) (Below.refl _ _)
             simp [go_sem, Act.eval, k0, k1, hA, hp]
           | true =>
            have gd2 : a.tmps.getD 192 undef = .bool true := Eq.trans (Straight.got hg 67 192 (by kernel_rfl)) (by simp [gt, hA])
            exact .inr ⟨Straight.unwanted_of rfl rfl gd2, by show (undef : Value) = _; simp [gt, hA]⟩
        · as_aux_lemma =>
           intro a w1 hfr hg
           cases hA : acc p n 6 with
           | false =>
            have k0 : a.tmps.getD 192 undef = .bool (acc p n 6) := Straight.got hg 67 192 (by kernel_rfl)
            have k1 : a.tmps.getD 200 undef = .bool (!p 7 && n 7) := Eq.trans (Straight.got hg 75 200 (by kernel_rfl)) (by simp [gt, hA])
            refine Loose.Step.value rfl (v := .bool (!p 7 && n 7)) (w' := w1) ?_ (congrArg Value.bool (acc_f hA).symm) (Below.refl _ _)
            simp [go_sem, Act.eval, k0, k1, hA]
           | true =>
            have k0 : a.tmps.getD 192 undef = .bool (acc p n 6) := Straight.got hg 67 192 (by kernel_rfl)
            have k1 : a.tmps.getD 200 undef = undef := Eq.trans (Straight.got hg 75 200 (by kernel_rfl)) (by simp [gt, hA])
            refine Loose.Step.value rfl (v := .bool true) (w' := w1) ?_ (congrArg Value.bool (acc_t hA).symm) (Below.refl _ _)
            simp [go_sem, Act.eval, k0, k1, hA]
        · as_aux_lemma =>
           intro a w1 hfr hg
           have k0 : a.tmps.getD 201 undef = .bool (acc p n 7) := Straight.got hg 76 201 (by kernel_rfl)
           refine Loose.Step.value rfl (v := .bool (acc p n 7)) (w' := w1) ?_ rfl (Below.refl _ _)
           simp [go_sem, Act.eval, k0]
        · as_aux_lemma =>
           intro a w1 hfr hg
           have e0 : a.tmps.getD 4 undef = .slice A l.length cap := hfr.slot 4 (by kernel_rfl)
           cases hA : acc p n 7 with
           | false =>
            have gd2 : a.tmps.getD 202 undef = .bool false := Eq.trans (Straight.got hg 77 202 (by kernel_rfl)) (by simp [gt, hA])
            refine Loose.Step.valueG (Loose.wanted_of rfl rfl gd2) (v := .slice A l.length cap) (w' := w1) ?_ (by show (.slice A l.length cap : Value) = _; simp [gt, hA]) (Below.refl _ _)
            simp [go_sem, Act.eval, e0, hA]
           | true =>
            have gd2 : a.tmps.getD 202 undef = .bool true := Eq.trans (Straight.got hg 77 202 (by kernel_rfl)) (by simp [gt, hA])
            exact .inr ⟨Straight.unwanted_of rfl rfl gd2, by show (undef : Value) = _; simp [gt, hA]⟩
        · as_aux_lemma =>
           intro a w1 hfr hg
           cases hA : acc p n 7 with
           | false =>
            have gd2 : a.tmps.getD 202 undef = .bool false := Eq.trans (Straight.got hg 77 202 (by kernel_rfl)) (by simp [gt, hA])
            have k0 : a.tmps.getD 203 undef = .slice A l.length cap := Eq.trans (Straight.got hg 78 203 (by kernel_rfl)) (by simp [gt, hA])
            refine Loose.Step.callG (Loose.wanted_of rfl rfl gd2) (f := 71) (args := #[.slice A l.length cap, .string ⟨#[115, 101, 108]⟩]) ?_ ?_
            · simp [go_sem, Act.eval, k0]
            · refine (has_any A cap l.length xs ⟨#[115, 101, 108]⟩ HLN.out (Nat.le_trans HLE.out (by decide)) w1 (texts_below TX.out hfr.below)).mono ?_
              rintro e w2 ⟨rfl, rfl⟩
              exact ⟨_, rfl, (congrArg Value.bool P8.out).trans (show (Value.bool (p 8)) = gt (acc p n 7) (.bool (p 8)) by simp [gt, hA]), Below.refl _ _⟩
           | true =>
            have gd2 : a.tmps.getD 202 undef = .bool true := Eq.trans (Straight.got hg 77 202 (by kernel_rfl)) (by simp [gt, hA])
            exact .inr ⟨Straight.unwanted_of rfl rfl gd2, by show (undef : Value) = _; simp [gt, hA]⟩
        · as_aux_lemma =>
           intro a w1 hfr hg
           cases hA : acc p n 7 with
           | false =>
            have gd2 : a.tmps.getD 202 undef = .bool false := Eq.trans (Straight.got hg 77 202 (by kernel_rfl)) (by simp [gt, hA])
            have k0 : a.tmps.getD 204 undef = .bool (p 8) := Eq.trans (Straight.got hg 79 204 (by kernel_rfl)) (by simp [gt, hA])
            refine Loose.Step.valueG (Loose.wanted_of rfl rfl gd2) (v := .bool (!p 8)) (w' := w1) ?_ (by show (.bool (!p 8) : Value) = _; simp [gt, hA]) (Below.refl _ _)
            simp [go_sem, Act.eval, k0, hA]
           | true =>
            have gd2 : a.tmps.getD 202 undef = .bool true := Eq.trans (Straight.got hg 77 202 (by kernel_rfl)) (by simp [gt, hA])
            exact .inr ⟨Straight.unwanted_of rfl rfl gd2, by show (undef : Value) = _; simp [gt, hA]⟩
        · as_aux_lemma =>
           intro a w1 hfr hg
           cases hA : acc p n 7 with
           | false =>
            have gd2 : a.tmps.getD 202 undef = .bool false := Eq.trans (Straight.got hg 77 202 (by kernel_rfl)) (by simp [gt, hA])
            have k0 : a.tmps.getD 205 undef = .bool (!p 8) := Eq.trans (Straight.got hg 80 205 (by kernel_rfl)) (by simp [gt, hA])
            refine Loose.Step.valueG (Loose.wanted_of rfl rfl gd2) (v := .bool (!p 8)) (w' := w1) ?_ (by show (.bool (!p 8) : Value) = _; simp [gt, hA]) (Below.refl _ _)
            simp [go_sem, Act.eval, k0, hA]
           | true =>
            have gd2 : a.tmps.getD 202 undef = .bool true := Eq.trans (Straight.got hg 77 202 (by kernel_rfl)) (by simp [gt, hA])
            exact .inr ⟨Straight.unwanted_of rfl rfl gd2, by show (undef : Value) = _; simp [gt, hA]⟩
        · as_aux_lemma =>
           intro a w1 hfr hg
           have e0 : a.tmps.getD 1 undef = .pointer (some ⟨b, 0, none⟩) := hfr.slot 1 (by kernel_rfl)
           cases hA : acc p n 7 with
           | false =>
            cases hp : p 8 with
            | false =>
             have gd2 : a.tmps.getD 206 undef = .bool true := Eq.trans (Straight.got hg 81 206 (by kernel_rfl)) (by simp [gt, hA, hp])
             refine Loose.Step.valueG (Loose.wanted_of rfl rfl gd2) (v := .pointer (some ⟨b, 15, none⟩)) (w' := w1) ?_ (by show (.pointer (some ⟨b, 15, none⟩) : Value) = _; simp [gt, hA, hp]) (Below.refl _ _)
             simp [go_sem, Act.eval, e0, hA, hp]
            | true =>
             have gd2 : a.tmps.getD 206 undef = .bool false := Eq.trans (Straight.got hg 81 206 (by kernel_rfl)) (by simp [gt, hA, hp])
             exact .inr ⟨Straight.unwanted_of rfl rfl gd2, by show (undef : Value) = _; simp [gt, hA, hp]⟩
           | true =>
            have gd2 : a.tmps.getD 206 undef = undef := Eq.trans (Straight.got hg 81 206 (by kernel_rfl)) (by simp [gt, hA])
            exact .inr ⟨Straight.unwanted_no rfl rfl gd2, by show (undef : Value) = _; simp [gt, hA]⟩
        · as_aux_lemma =>
           intro a w1 hfr hg
           have hc_ := box_cell ((hfr.below.block b (lt_of_block XB.out)).trans XB.out) 15 rfl
           cases hA : acc p n 7 with
           | false =>
            cases hp : p 8 with
            | false =>
             have gd2 : a.tmps.getD 206 undef = .bool true := Eq.trans (Straight.got hg 81 206 (by kernel_rfl)) (by simp [gt, hA, hp])
             have k0 : a.tmps.getD 207 undef = .pointer (some ⟨b, 15, none⟩) := Eq.trans (Straight.got hg 82 207 (by kernel_rfl)) (by simp [gt, hA, hp])
             refine Loose.Step.valueG (Loose.wanted_of rfl rfl gd2) (v := .slice SA c.sel.length sc) (w' := w1) ?_ (by show (.slice SA c.sel.length sc : Value) = _; simp [gt, hA, hp]) (Below.refl _ _)
             simp [go_sem, Act.eval, k0, hA, hp, hc_]
            | true =>
             have gd2 : a.tmps.getD 206 undef = .bool false := Eq.trans (Straight.got hg 81 206 (by kernel_rfl)) (by simp [gt, hA, hp])
             exact .inr ⟨Straight.unwanted_of rfl rfl gd2, by show (undef : Value) = _; simp [gt, hA, hp]⟩
           | true =>
            have gd2 : a.tmps.getD 206 undef = undef := Eq.trans (Straight.got hg 81 206 (by kernel_rfl)) (by simp [gt, hA])
            exact .inr ⟨Straight.unwanted_no rfl rfl gd2, by show (undef : Value) = _; simp [gt, hA]⟩
        · as_aux_lemma =>
           intro a w1 hfr hg
           cases hA : acc p n 7 with
           | false =>
            cases hp : p 8 with
            | false =>
             have gd2 : a.tmps.getD 206 undef = .bool true := Eq.trans (Straight.got hg 81 206 (by kernel_rfl)) (by simp [gt, hA, hp])
             have k0 : a.tmps.getD 208 undef = .slice SA c.sel.length sc := Eq.trans (Straight.got hg 83 208 (by kernel_rfl)) (by simp [gt, hA, hp])
             refine Loose.Step.valueG (Loose.wanted_of rfl rfl gd2) (v := .int .i64 c.sel.length) (w' := w1) ?_ (by show (.int .i64 c.sel.length : Value) = _; simp [gt, hA, hp]) (Below.refl _ _)
             simp [go_sem, Act.eval, k0, hA, hp]
            | true =>
             have gd2 : a.tmps.getD 206 undef = .bool false := Eq.trans (Straight.got hg 81 206 (by kernel_rfl)) (by simp [gt, hA, hp])
             exact .inr ⟨Straight.unwanted_of rfl rfl gd2, by show (undef : Value) = _; simp [gt, hA, hp]⟩
           | true =>
            have gd2 : a.tmps.getD 206 undef = undef := Eq.trans (Straight.got hg 81 206 (by kernel_rfl)) (by simp [gt, hA])
            exact .inr ⟨Straight.unwanted_no rfl rfl gd2, by show (undef : Value) = _; simp [gt, hA]⟩
        · as_aux_lemma =>
           intro a w1 hfr hg
           cases hA : acc p n 7 with
           | false =>
            cases hp : p 8 with
            | false =>
             cases hn : n 8 with
             | false =>
              have gd2 : a.tmps.getD 206 undef = .bool true := Eq.trans (Straight.got hg 81 206 (by kernel_rfl)) (by simp [gt, hA, hp, hn])
              have k0 : a.tmps.getD 209 undef = .int .i64 c.sel.length := Eq.trans (Straight.got hg 84 209 (by kernel_rfl)) (by simp [gt, hA, hp, hn])
              have z := N8.out
              rw [hn] at z
              have z2 := z.2 rfl
              have z3 : c.sel = [] := List.length_eq_zero_iff.1 z2
              clear z
              refine Loose.Step.valueG (Loose.wanted_of rfl rfl gd2) (v := .bool false) (w' := w1) ?_ (by show (.bool false : Value) = _; simp [gt, hA, hp, hn]) (Below.refl _ _)
              simp [go_sem, Act.eval, k0, hA, hp, hn, z3, z2]
             | true =>
              have gd2 : a.tmps.getD 206 undef = .bool true := Eq.trans (Straight.got hg 81 206 (by kernel_rfl)) (by simp [gt, hA, hp, hn])
              have k0 : a.tmps.getD 209 undef = .int .i64 c.sel.length := Eq.trans (Straight.got hg 84 209 (by kernel_rfl)) (by simp [gt, hA, hp, hn])
              have z := N8.out
              rw [hn] at z
              have z2 := z.1 rfl
              have z3 : 0 < c.sel.length := Nat.pos_of_ne_zero z2
              clear z
              refine Loose.Step.valueG (Loose.wanted_of rfl rfl gd2) (v := .bool true) (w' := w1) ?_ (by show (.bool true : Value) = _; simp [gt, hA, hp, hn]) (Below.refl _ _)
              simp [go_sem, Act.eval, k0, hA, hp, hn, z3, z2]
            | true =>
             have gd2 : a.tmps.getD 206 undef = .bool false := Eq.trans (Straight.got hg 81 206 (by kernel_rfl)) (by simp [gt, hA, hp])
             exact .inr ⟨Straight.unwanted_of rfl rfl gd2, by show (undef : Value) = _; simp [gt, hA, hp]⟩
           | true =>
            have gd2 : a.tmps.getD 206 undef = undef := Eq.trans (Straight.got hg 81 206 (by kernel_rfl)) (by simp [gt, hA])
            exact .inr ⟨Straight.unwanted_no rfl rfl gd2, by show (undef : Value) = _; simp [gt, hA]⟩
        · as_aux_lemma =>
           intro a w1 hfr hg
           cases hA : acc p n 7 with
           | false =>
            cases hp : p 8 with
            | false =>
             have gd2 : a.tmps.getD 202 undef = .bool false := Eq.trans (Straight.got hg 77 202 (by kernel_rfl)) (by simp [gt, hA, hp])
             have k0 : a.tmps.getD 206 undef = .bool (!p 8) := Eq.trans (Straight.got hg 81 206 (by kernel_rfl)) (by simp [gt, hA, hp])
             have k1 : a.tmps.getD 210 undef = .bool (n 8) := Eq.trans (Straight.got hg 85 210 (by kernel_rfl)) (by simp [gt, hA, hp])
             refine Loose.Step.valueG (Loose.wanted_of rfl rfl gd2) (v := .bool (n 8)) (w' := w1) ?_ (by show (.bool (n 8) : Value) = _; simp [gt, hA, hp]) (Below.refl _ _)
             simp [go_sem, Act.eval, k0, k1, hA, hp]
            | true =>
             have gd2 : a.tmps.getD 202 undef = .bool false := Eq.trans (Straight.got hg 77 202 (by kernel_rfl)) (by simp [gt, hA, hp])
             have k0 : a.tmps.getD 206 undef = .bool (!p 8) := Eq.trans (Straight.got hg 81 206 (by kernel_rfl)) (by simp [gt, hA, hp])
             have k1 : a.tmps.getD 210 undef = undef := Eq.trans (Straight.got hg 85 210 (by kernel_rfl)) (by simp [gt, hA, hp])
             refine Loose.Step.valueG (Loose.wanted_of rfl rfl gd2) (v := .bool false) (w' := w1) ?_ (by show (.bool false : Value) = _; simp [gt, hA, hp]) (Below.refl _ _)
             simp [go_sem, Act.eval, k0, k1, hA, hp]
           | true =>
            have gd2 : a.tmps.getD 202 undef = .bool true := Eq.trans (Straight.got hg 77 202 (by kernel_rfl)) (by simp [gt, hA])
            exact .inr ⟨Straight.unwanted_of rfl rfl gd2, by show (undef : Value) = _; simp [gt, hA]⟩
        · as_aux_lemma =>
           intro a w1 hfr hg
           cases hA : acc p n 7 with
           | false =>
            have k0 : a.tmps.getD 202 undef = .bool (acc p n 7) := Straight.got hg 77 202 (by kernel_rfl)
            have k1 : a.tmps.getD 211 undef = .bool (!p 8 && n 8) := Eq.trans (Straight.got hg 86 211 (by kernel_rfl)) (by simp [gt, hA])
            refine Loose.Step.value rfl (v := .bool (!p 8 && n 8)) (w' := w1) ?_ (congrArg Value.bool (acc_f hA).symm) (Below.refl _ _)
            simp [go_sem, Act.eval, k0, k1, hA]
           | true =>
            have k0 : a.tmps.getD 202 undef = .bool (acc p n 7) := Straight.got hg 77 202 (by kernel_rfl)
            have k1 : a.tmps.getD 211 undef = undef := Eq.trans (Straight.got hg 86 211 (by kernel_rfl)) (by simp [gt, hA])
            refine Loose.Step.value rfl (v := .bool true) (w' := w1) ?_ (congrArg Value.bool (acc_t hA).symm) (Below.refl _ _)
            simp [go_sem, Act.eval, k0, k1, hA]
      · intro v0 v1 v2 v3 v4 v5 v6 v7 v8 v9 v10 v11 v12 v13 v14 v15 v16 v17 v18 v19 v20 v21 v22 v23 v24 v25 v26 v27 v28 v29 v30 v31 v32 v33 v34 v35 v36 v37 v38 v39 v40 v41 v42 v43 v44 v45 v46 v47 v48 v49 v50 v51 v52 v53 v54 v55 v56 v57 v58 v59 v60 v61 v62 v63 v64 v65 v66 v67 v68 v69 v70 v71 v72 v73 v74 v75 v76 v77 v78 v79 v80 v81 v82 v83 v84 v85 v86 v87 w6 hb6 hC
        have hlast : v87 = .bool (acc p n 8) := hC.2
        subst hlast
        have B6 := Lib.hid (B5.out.trans (hb6.mono B5.out.size))
        clear hC hb6
        simp only [SpecOwn.put_lit, List.set_cons_succ, List.set_cons_zero]
        cases hacc : acc p n 8 with
        | true =>
         have HD := Lib.hid (show checkC c = (4, a_call) from HLV2.out.trans (if_pos (HAC.out.1 hacc)))
         clear hacc
         go_wp2
         go_ret2
         exact ⟨ret_two HD.out rfl rfl, HBB.out ▸ B6.out⟩
        | false =>
         have HD := Lib.hid (show checkC c = fine from HLV2.out.trans (if_neg (fun h => by have := HAC.out.2 h; rw [hacc] at this; cases this)))
         clear hacc
         go_wp2
         go_ret2
         exact ⟨ret_two HD.out rfl rfl, HBB.out ▸ B6.out⟩
end Ak
end Go.Proofs.YtakdhkhcndeiiaaGreatDoor
