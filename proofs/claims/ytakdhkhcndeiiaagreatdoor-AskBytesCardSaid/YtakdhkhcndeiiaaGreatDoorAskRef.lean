/-
 The contracts of the document's own helpers in chapter 8: the names of a kind's fields, whether a name is among them, a field's number and its bounds. All that was there is left as it was. No condition.
-/
import Derived.Test.YtakdhkhcndeiiaaGreatDoorAskAll
import Derived.Test.YtakdhkhcndeiiaaGreatDoorSpecDataAll
set_option linter.unusedVariables false
set_option linter.unusedSimpArgs false
namespace Go.Proofs.YtakdhkhcndeiiaaGreatDoor
open Go.ChangeShapes Go.WideShapes Go.ChangeAt Go.RowKit Go.Lib
open LebMath WirePure Sd Wire SpecOwn SpecRef Book Pk
namespace Ak

def a_rev : ByteArray := ⟨#[114, 101, 118]⟩
def nameF (f : Int) : ByteArray :=
 if f = 0 then a_uid else if f = 1 then a_rev else if f = 2 then a_spec else if f = 3 then a_grace else if f = 4 then a_ctr else if f = 5 then a_id else if f = 6 then a_data else if f = 7 then a_most else if f = 8 then a_sel else ⟨#[]⟩
def namesV (k : Int) : List ByteArray := (fieldsV k).map nameF
theorem namesV_len (k : Int) : (namesV k).length = (fieldsV k).length := by simp [namesV]
def hasT (xs : List ByteArray) (s : ByteArray) : Bool := xs.any fun x => x.toList == s.toList
theorem has_field (k : Int) : ∀ f : Fin 9, hasT (namesV k) (nameF (f.val : Int)) = (fieldsV k).contains (f.val : Int) := by
 rcases fields_of k with ⟨_, h⟩ | ⟨_, h⟩ | ⟨_, h⟩ | ⟨_, h⟩ | ⟨_, h⟩ | ⟨_, h⟩ | ⟨_, h⟩ | ⟨_, h⟩ | ⟨_, h⟩ | ⟨_, h⟩ | ⟨_, h⟩ | ⟨_, h⟩ | ⟨_, h⟩ <;> rw [namesV, h] <;> decide +kernel
theorem texts_made (w : World) (l : List ByteArray) (t : TypeId) (cs : Array Value) (hcs : cs = (l.map Value.string).toArray) : Lists.Texts (w.alloc (.cells cs t)) (some ⟨w.heap.size, 0, none⟩) l := by
 subst hcs
 intro k z hz
 refine ⟨_, rfl, ?_, ?_⟩
 · show w.heap.size < (w.alloc _).heap.size
   simp
 · have hk : k < l.length := (List.getElem?_eq_some_iff.1 hz).1
   have e0 : (⟨w.heap.size, 0, none⟩ : Addr).add k = ⟨w.heap.size, k, none⟩ := by unfold Addr.add; split <;> simp_all
   rw [e0]
   have hb := heap_alloc_new w (.cells (l.map Value.string).toArray t)
   rw [box_cell hb k (v := .string z)]
   simp [hz]
theorem texts_below {w w' : World} {A : Option Addr} {l : List ByteArray} (h : Lists.Texts w A l) (hb : Below w.heap.size w w') : Lists.Texts w' A l := by
 intro k x hk
 obtain ⟨a, hA, ha, hc⟩ := h k x hk
 exact ⟨a, hA, Nat.lt_of_lt_of_le ha hb.size, (hb.cell (p := a.add k) (by rw [Lists.add_block]; exact ha)).trans hc⟩

set_option maxRecDepth 100000 in
set_option maxHeartbeats 2000000 in
theorem names_fields (k : Int) (w : World) :
 Calls Tryz.prog 67 #[.int .i64 k] w fun e w' => ∃ A cap, e = .returned (.slice A (fieldsV k).length cap) ∧ Lists.Texts w' A (namesV k) ∧ Below w.heap.size w w' := by
 unfold namesV
 rcases fields_of k with ⟨rfl, h⟩ | ⟨rfl, h⟩ | ⟨rfl, h⟩ | ⟨rfl, h⟩ | ⟨rfl, h⟩ | ⟨rfl, h⟩ | ⟨rfl, h⟩ | ⟨rfl, h⟩ | ⟨rfl, h⟩ | ⟨rfl, h⟩ | ⟨rfl, h⟩ | ⟨rfl, h⟩ | ⟨hk, h⟩
 · rw [h]
   clear h
   go_enter Tryz.func67, Tryz.ntmps67
   go_wp2_with fail
   go_ret
   exact ⟨some ⟨w.heap.size, 0, none⟩, 1, rfl, texts_made w [⟨#[115, 112, 101, 99]⟩] _ _ rfl, (Below.refl _ _).alloc (Nat.le_refl _) _⟩
 · rw [h]
   clear h
   go_enter Tryz.func67, Tryz.ntmps67
   go_wp2_with fail
   go_ret
   exact ⟨some ⟨w.heap.size, 0, none⟩, 3, rfl, texts_made w [⟨#[117, 105, 100]⟩, ⟨#[114, 101, 118]⟩, ⟨#[115, 112, 101, 99]⟩] _ _ rfl, (Below.refl _ _).alloc (Nat.le_refl _) _⟩
 · rw [h]
   clear h
   go_enter Tryz.func67, Tryz.ntmps67
   go_wp2_with fail
   go_ret
   exact ⟨some ⟨w.heap.size, 0, none⟩, 2, rfl, texts_made w [⟨#[117, 105, 100]⟩, ⟨#[103, 114, 97, 99, 101]⟩] _ _ rfl, (Below.refl _ _).alloc (Nat.le_refl _) _⟩
 · rw [h]
   clear h
   go_enter Tryz.func67, Tryz.ntmps67
   go_wp2_with fail
   go_ret
   exact ⟨some ⟨w.heap.size, 0, none⟩, 2, rfl, texts_made w [⟨#[117, 105, 100]⟩, ⟨#[99, 116, 114]⟩] _ _ rfl, (Below.refl _ _).alloc (Nat.le_refl _) _⟩
 · rw [h]
   clear h
   go_enter Tryz.func67, Tryz.ntmps67
   go_wp2_with fail
   go_ret
   exact ⟨some ⟨w.heap.size, 0, none⟩, 2, rfl, texts_made w [⟨#[105, 100]⟩, ⟨#[100, 97, 116, 97]⟩] _ _ rfl, (Below.refl _ _).alloc (Nat.le_refl _) _⟩
 · rw [h]
   clear h
   go_enter Tryz.func67, Tryz.ntmps67
   go_wp2_with fail
   go_ret
   exact ⟨some ⟨w.heap.size, 0, none⟩, 2, rfl, texts_made w [⟨#[105, 100]⟩, ⟨#[109, 111, 115, 116]⟩] _ _ rfl, (Below.refl _ _).alloc (Nat.le_refl _) _⟩
 · rw [h]
   clear h
   go_enter Tryz.func67, Tryz.ntmps67
   go_wp2_with fail
   go_ret
   exact ⟨some ⟨w.heap.size, 0, none⟩, 1, rfl, texts_made w [⟨#[105, 100]⟩] _ _ rfl, (Below.refl _ _).alloc (Nat.le_refl _) _⟩
 · rw [h]
   clear h
   go_enter Tryz.func67, Tryz.ntmps67
   go_wp2_with fail
   go_ret
   exact ⟨some ⟨w.heap.size, 0, none⟩, 1, rfl, texts_made w [⟨#[105, 100]⟩] _ _ rfl, (Below.refl _ _).alloc (Nat.le_refl _) _⟩
 · rw [h]
   clear h
   go_enter Tryz.func67, Tryz.ntmps67
   go_wp2_with fail
   go_ret
   exact ⟨some ⟨w.heap.size, 0, none⟩, 1, rfl, texts_made w [⟨#[117, 105, 100]⟩] _ _ rfl, (Below.refl _ _).alloc (Nat.le_refl _) _⟩
 · rw [h]
   clear h
   go_enter Tryz.func67, Tryz.ntmps67
   go_wp2_with fail
   go_ret
   exact ⟨some ⟨w.heap.size, 0, none⟩, 1, rfl, texts_made w [⟨#[117, 105, 100]⟩] _ _ rfl, (Below.refl _ _).alloc (Nat.le_refl _) _⟩
 · rw [h]
   clear h
   go_enter Tryz.func67, Tryz.ntmps67
   go_wp2_with fail
   go_ret
   exact ⟨some ⟨w.heap.size, 0, none⟩, 1, rfl, texts_made w [⟨#[115, 101, 108]⟩] _ _ rfl, (Below.refl _ _).alloc (Nat.le_refl _) _⟩
 · rw [h]
   clear h
   go_enter Tryz.func67, Tryz.ntmps67
   go_wp2_with fail
   go_ret
   exact ⟨some ⟨w.heap.size, 0, none⟩, 2, rfl, texts_made w [⟨#[114, 101, 118]⟩, ⟨#[115, 101, 108]⟩] _ _ rfl, (Below.refl _ _).alloc (Nat.le_refl _) _⟩
 · rw [h]
   clear h
   have h1 : k ≠ 1 := by omega
   have h2 : k ≠ 2 := by omega
   have h3 : k ≠ 3 := by omega
   have h4 : k ≠ 4 := by omega
   have h5 : k ≠ 5 := by omega
   have h6 : k ≠ 6 := by omega
   have h7 : k ≠ 7 := by omega
   have h8 : k ≠ 8 := by omega
   have h9 : k ≠ 9 := by omega
   have h10 : k ≠ 10 := by omega
   have h11 : k ≠ 11 := by omega
   have h12 : k ≠ 12 := by omega
   clear hk
   go_enter Tryz.func67, Tryz.ntmps67
   go_wp2_with fail
   go_ret
   exact ⟨none, 0, rfl, fun j x hj => by simp at hj, Below.refl _ _⟩

theorem has_yes {xs : List ByteArray} {s : ByteArray} {k : Nat} (hk : k < xs.length) (h : (xs[k].toList == s.toList) = true) : hasT xs s = true := List.any_eq_true.2 ⟨_, List.getElem_mem hk, h⟩
theorem has_no {xs : List ByteArray} {s : ByteArray} (h : ∀ j, (hj : j < xs.length) → (xs[j].toList == s.toList) = false) : hasT xs s = false := by
 unfold hasT
 rw [List.any_eq_false]
 intro x hx
 obtain ⟨j, hj, rfl⟩ := List.getElem_of_mem hx
 rw [h j hj]
 decide
theorem ret_v {a b : Bool} (h : a = b) : Ending.returned (.bool a) = .returned (.bool b) := by rw [h]
set_option maxRecDepth 100000 in
theorem has_any (A : Option Addr) (cap n : Nat) (xs : List ByteArray) (s : ByteArray) (hn : n = xs.length) (hl : n ≤ 1000) (w : World) (h : Lists.Texts w A xs) :
 Calls Tryz.prog 71 #[.slice A n cap, .string s] w fun e w' => e = .returned (.bool (hasT xs s)) ∧ w = w' := by
 have H := Lib.hid h
 have hN := Lib.hid hn
 have hl' : (n : Int) ≤ 1000 := by omega
 clear h hn hl
 go_enter Tryz.func71, Tryz.ntmps71
 go_wp2
 go_loop [5] (fun i => ∃ k : Nat, k ≤ n ∧ i = .int .i64 k ∧ Hid (∀ j, (hj : j < xs.length) → j < k → (xs[j].toList == s.toList) = false)) (fun i => n - (RowKit.intOf i).toNat)
 case atStart => exact ⟨0, Nat.zero_le _, rfl, fun j _ hj => absurd hj (Nat.not_lt_zero _)⟩
 case round =>
  obtain ⟨k, hk, rfl, HK⟩ := hrel
  by_cases hlt : k < n
  · have hx : k < xs.length := by have := hN.out; omega
    obtain ⟨a, rfl, ha, hc⟩ := H.out.at hx
    have hka : (k : Int) < (n : Int) := by omega
    obtain ⟨x, ex⟩ : ∃ x, xs[k] = x := ⟨_, rfl⟩
    have EX := Lib.hid ex
    rw [ex] at hc
    clear ex
    cases hq : (x.toList == s.toList) with
    | true =>
     have HY := Lib.hid (show true = hasT xs s from (has_yes hx (by rw [EX.out]; exact hq)).symm)
     clear ha
     go_wp2
     go_ret
     exact ⟨ret_v HY.out, rfl⟩
    | false =>
     have HK2 := Lib.hid (show ∀ j, (hj : j < xs.length) → j < k + 1 → (xs[j].toList == s.toList) = false from fun j hj hj2 => by
      rcases Nat.lt_or_ge j k with h1 | h1
      · exact HK.out j hj h1
      · obtain rfl : j = k := by omega
        rw [EX.out]; exact hq)
     clear HK ha
     go_wp2
     go_round
     case rel => exact ⟨k + 1, by omega, by go_num, HK2⟩
     case measure => simp [RowKit.intOf]; omega
  · have HF := Lib.hid (show false = hasT xs s from (has_no (fun j hj => HK.out j hj (by have := hN.out; omega))).symm)
    have hka : ¬ (k : Int) < (n : Int) := by omega
    clear HK
    go_wp2
    go_ret
    exact ⟨ret_v HF.out, rfl⟩
set_option maxRecDepth 100000 in
theorem bounds_0 (c : Cal) (LA : Option Addr) (lc : Nat) (IA : Option Addr) (ic : Nat) (MA : Option Addr) (mc : Nat) (SA : Option Addr) (sc : Nat) (w : World) :
 Calls Tryz.prog 68 #[.agg #[.int .i64 c.kind, .int .i64 c.uid, .int .u64 c.rev, .string c.spec.name, .slice LA c.spec.labels.length lc, .slice IA c.spec.init.length ic, .slice MA c.spec.main.length mc, .int .i64 c.spec.restart, .int .i64 c.spec.grace, .int .i64 c.spec.prio, .int .i64 c.grace, .int .i64 c.ctr, .int .i64 c.id, .int .i64 c.most, .string c.data, .slice SA c.sel.length sc], .string ⟨#[117, 105, 100]⟩] w fun e w' => e = .returned (.tuple #[.int .i64 c.uid, .int .i64 1, .int .i64 1073741824]) ∧ Below w.heap.size w w' := by
 obtain ⟨w1, hw1⟩ : ∃ v, w.alloc (.cells #[.int .i64 c.kind, .int .i64 c.uid, .int .u64 c.rev, .string c.spec.name, .slice LA c.spec.labels.length lc, .slice IA c.spec.init.length ic, .slice MA c.spec.main.length mc, .int .i64 c.spec.restart, .int .i64 c.spec.grace, .int .i64 c.spec.prio, .int .i64 c.grace, .int .i64 c.ctr, .int .i64 c.id, .int .i64 c.most, .string c.data, .slice SA c.sel.length sc] 41) = v := ⟨_, rfl⟩
 have B1 := Lib.hid (show Below w.heap.size w w1 by rw [← hw1]; exact (Below.refl _ _).alloc (Nat.le_refl _) _)
 have X1 := Lib.hid (show w1.heap[w.heap.size]? = some (.cells #[.int .i64 c.kind, .int .i64 c.uid, .int .u64 c.rev, .string c.spec.name, .slice LA c.spec.labels.length lc, .slice IA c.spec.init.length ic, .slice MA c.spec.main.length mc, .int .i64 c.spec.restart, .int .i64 c.spec.grace, .int .i64 c.spec.prio, .int .i64 c.grace, .int .i64 c.ctr, .int .i64 c.id, .int .i64 c.most, .string c.data, .slice SA c.sel.length sc] 41) by rw [← hw1]; exact heap_alloc_new w _)
 have c1 := box_cell X1.out 1 rfl
 go_enter Tryz.func68, Tryz.ntmps68
 go_wp2_with fail
 exact bodyPost_ret (v := .tuple #[.int .i64 c.uid, .int .i64 1, .int .i64 1073741824]) (by simp [results, Tryz.results68, go_sem]) rfl ⟨rfl, B1.out⟩
set_option maxRecDepth 100000 in
theorem bounds_1 (c : Cal) (LA : Option Addr) (lc : Nat) (IA : Option Addr) (ic : Nat) (MA : Option Addr) (mc : Nat) (SA : Option Addr) (sc : Nat) (w : World) :
 Calls Tryz.prog 68 #[.agg #[.int .i64 c.kind, .int .i64 c.uid, .int .u64 c.rev, .string c.spec.name, .slice LA c.spec.labels.length lc, .slice IA c.spec.init.length ic, .slice MA c.spec.main.length mc, .int .i64 c.spec.restart, .int .i64 c.spec.grace, .int .i64 c.spec.prio, .int .i64 c.grace, .int .i64 c.ctr, .int .i64 c.id, .int .i64 c.most, .string c.data, .slice SA c.sel.length sc], .string ⟨#[114, 101, 118]⟩] w fun e w' => e = .returned (.tuple #[.int .i64 0, .int .i64 0, .int .i64 0]) ∧ Below w.heap.size w w' := by
 obtain ⟨w1, hw1⟩ : ∃ v, w.alloc (.cells #[.int .i64 c.kind, .int .i64 c.uid, .int .u64 c.rev, .string c.spec.name, .slice LA c.spec.labels.length lc, .slice IA c.spec.init.length ic, .slice MA c.spec.main.length mc, .int .i64 c.spec.restart, .int .i64 c.spec.grace, .int .i64 c.spec.prio, .int .i64 c.grace, .int .i64 c.ctr, .int .i64 c.id, .int .i64 c.most, .string c.data, .slice SA c.sel.length sc] 41) = v := ⟨_, rfl⟩
 have B1 := Lib.hid (show Below w.heap.size w w1 by rw [← hw1]; exact (Below.refl _ _).alloc (Nat.le_refl _) _)
 have X1 := Lib.hid (show w1.heap[w.heap.size]? = some (.cells #[.int .i64 c.kind, .int .i64 c.uid, .int .u64 c.rev, .string c.spec.name, .slice LA c.spec.labels.length lc, .slice IA c.spec.init.length ic, .slice MA c.spec.main.length mc, .int .i64 c.spec.restart, .int .i64 c.spec.grace, .int .i64 c.spec.prio, .int .i64 c.grace, .int .i64 c.ctr, .int .i64 c.id, .int .i64 c.most, .string c.data, .slice SA c.sel.length sc] 41) by rw [← hw1]; exact heap_alloc_new w _)
 go_enter Tryz.func68, Tryz.ntmps68
 go_wp2_with fail
 exact bodyPost_ret (v := .tuple #[.int .i64 0, .int .i64 0, .int .i64 0]) (by simp [results, Tryz.results68, go_sem]) rfl ⟨rfl, B1.out⟩
set_option maxRecDepth 100000 in
theorem bounds_2 (c : Cal) (LA : Option Addr) (lc : Nat) (IA : Option Addr) (ic : Nat) (MA : Option Addr) (mc : Nat) (SA : Option Addr) (sc : Nat) (w : World) :
 Calls Tryz.prog 68 #[.agg #[.int .i64 c.kind, .int .i64 c.uid, .int .u64 c.rev, .string c.spec.name, .slice LA c.spec.labels.length lc, .slice IA c.spec.init.length ic, .slice MA c.spec.main.length mc, .int .i64 c.spec.restart, .int .i64 c.spec.grace, .int .i64 c.spec.prio, .int .i64 c.grace, .int .i64 c.ctr, .int .i64 c.id, .int .i64 c.most, .string c.data, .slice SA c.sel.length sc], .string ⟨#[115, 112, 101, 99]⟩] w fun e w' => e = .returned (.tuple #[.int .i64 0, .int .i64 0, .int .i64 0]) ∧ Below w.heap.size w w' := by
 obtain ⟨w1, hw1⟩ : ∃ v, w.alloc (.cells #[.int .i64 c.kind, .int .i64 c.uid, .int .u64 c.rev, .string c.spec.name, .slice LA c.spec.labels.length lc, .slice IA c.spec.init.length ic, .slice MA c.spec.main.length mc, .int .i64 c.spec.restart, .int .i64 c.spec.grace, .int .i64 c.spec.prio, .int .i64 c.grace, .int .i64 c.ctr, .int .i64 c.id, .int .i64 c.most, .string c.data, .slice SA c.sel.length sc] 41) = v := ⟨_, rfl⟩
 have B1 := Lib.hid (show Below w.heap.size w w1 by rw [← hw1]; exact (Below.refl _ _).alloc (Nat.le_refl _) _)
 have X1 := Lib.hid (show w1.heap[w.heap.size]? = some (.cells #[.int .i64 c.kind, .int .i64 c.uid, .int .u64 c.rev, .string c.spec.name, .slice LA c.spec.labels.length lc, .slice IA c.spec.init.length ic, .slice MA c.spec.main.length mc, .int .i64 c.spec.restart, .int .i64 c.spec.grace, .int .i64 c.spec.prio, .int .i64 c.grace, .int .i64 c.ctr, .int .i64 c.id, .int .i64 c.most, .string c.data, .slice SA c.sel.length sc] 41) by rw [← hw1]; exact heap_alloc_new w _)
 go_enter Tryz.func68, Tryz.ntmps68
 go_wp2_with fail
 exact bodyPost_ret (v := .tuple #[.int .i64 0, .int .i64 0, .int .i64 0]) (by simp [results, Tryz.results68, go_sem]) rfl ⟨rfl, B1.out⟩
set_option maxRecDepth 100000 in
theorem bounds_3 (c : Cal) (LA : Option Addr) (lc : Nat) (IA : Option Addr) (ic : Nat) (MA : Option Addr) (mc : Nat) (SA : Option Addr) (sc : Nat) (w : World) :
 Calls Tryz.prog 68 #[.agg #[.int .i64 c.kind, .int .i64 c.uid, .int .u64 c.rev, .string c.spec.name, .slice LA c.spec.labels.length lc, .slice IA c.spec.init.length ic, .slice MA c.spec.main.length mc, .int .i64 c.spec.restart, .int .i64 c.spec.grace, .int .i64 c.spec.prio, .int .i64 c.grace, .int .i64 c.ctr, .int .i64 c.id, .int .i64 c.most, .string c.data, .slice SA c.sel.length sc], .string ⟨#[103, 114, 97, 99, 101]⟩] w fun e w' => e = .returned (.tuple #[.int .i64 c.grace, .int .i64 0, .int .i64 1000]) ∧ Below w.heap.size w w' := by
 obtain ⟨w1, hw1⟩ : ∃ v, w.alloc (.cells #[.int .i64 c.kind, .int .i64 c.uid, .int .u64 c.rev, .string c.spec.name, .slice LA c.spec.labels.length lc, .slice IA c.spec.init.length ic, .slice MA c.spec.main.length mc, .int .i64 c.spec.restart, .int .i64 c.spec.grace, .int .i64 c.spec.prio, .int .i64 c.grace, .int .i64 c.ctr, .int .i64 c.id, .int .i64 c.most, .string c.data, .slice SA c.sel.length sc] 41) = v := ⟨_, rfl⟩
 have B1 := Lib.hid (show Below w.heap.size w w1 by rw [← hw1]; exact (Below.refl _ _).alloc (Nat.le_refl _) _)
 have X1 := Lib.hid (show w1.heap[w.heap.size]? = some (.cells #[.int .i64 c.kind, .int .i64 c.uid, .int .u64 c.rev, .string c.spec.name, .slice LA c.spec.labels.length lc, .slice IA c.spec.init.length ic, .slice MA c.spec.main.length mc, .int .i64 c.spec.restart, .int .i64 c.spec.grace, .int .i64 c.spec.prio, .int .i64 c.grace, .int .i64 c.ctr, .int .i64 c.id, .int .i64 c.most, .string c.data, .slice SA c.sel.length sc] 41) by rw [← hw1]; exact heap_alloc_new w _)
 have c10 := box_cell X1.out 10 rfl
 go_enter Tryz.func68, Tryz.ntmps68
 go_wp2_with fail
 exact bodyPost_ret (v := .tuple #[.int .i64 c.grace, .int .i64 0, .int .i64 1000]) (by simp [results, Tryz.results68, go_sem]) rfl ⟨rfl, B1.out⟩
set_option maxRecDepth 100000 in
theorem bounds_4 (c : Cal) (LA : Option Addr) (lc : Nat) (IA : Option Addr) (ic : Nat) (MA : Option Addr) (mc : Nat) (SA : Option Addr) (sc : Nat) (w : World) :
 Calls Tryz.prog 68 #[.agg #[.int .i64 c.kind, .int .i64 c.uid, .int .u64 c.rev, .string c.spec.name, .slice LA c.spec.labels.length lc, .slice IA c.spec.init.length ic, .slice MA c.spec.main.length mc, .int .i64 c.spec.restart, .int .i64 c.spec.grace, .int .i64 c.spec.prio, .int .i64 c.grace, .int .i64 c.ctr, .int .i64 c.id, .int .i64 c.most, .string c.data, .slice SA c.sel.length sc], .string ⟨#[99, 116, 114]⟩] w fun e w' => e = .returned (.tuple #[.int .i64 c.ctr, .int .i64 0, .int .i64 3]) ∧ Below w.heap.size w w' := by
 obtain ⟨w1, hw1⟩ : ∃ v, w.alloc (.cells #[.int .i64 c.kind, .int .i64 c.uid, .int .u64 c.rev, .string c.spec.name, .slice LA c.spec.labels.length lc, .slice IA c.spec.init.length ic, .slice MA c.spec.main.length mc, .int .i64 c.spec.restart, .int .i64 c.spec.grace, .int .i64 c.spec.prio, .int .i64 c.grace, .int .i64 c.ctr, .int .i64 c.id, .int .i64 c.most, .string c.data, .slice SA c.sel.length sc] 41) = v := ⟨_, rfl⟩
 have B1 := Lib.hid (show Below w.heap.size w w1 by rw [← hw1]; exact (Below.refl _ _).alloc (Nat.le_refl _) _)
 have X1 := Lib.hid (show w1.heap[w.heap.size]? = some (.cells #[.int .i64 c.kind, .int .i64 c.uid, .int .u64 c.rev, .string c.spec.name, .slice LA c.spec.labels.length lc, .slice IA c.spec.init.length ic, .slice MA c.spec.main.length mc, .int .i64 c.spec.restart, .int .i64 c.spec.grace, .int .i64 c.spec.prio, .int .i64 c.grace, .int .i64 c.ctr, .int .i64 c.id, .int .i64 c.most, .string c.data, .slice SA c.sel.length sc] 41) by rw [← hw1]; exact heap_alloc_new w _)
 have c11 := box_cell X1.out 11 rfl
 go_enter Tryz.func68, Tryz.ntmps68
 go_wp2_with fail
 exact bodyPost_ret (v := .tuple #[.int .i64 c.ctr, .int .i64 0, .int .i64 3]) (by simp [results, Tryz.results68, go_sem]) rfl ⟨rfl, B1.out⟩
set_option maxRecDepth 100000 in
theorem bounds_5 (c : Cal) (LA : Option Addr) (lc : Nat) (IA : Option Addr) (ic : Nat) (MA : Option Addr) (mc : Nat) (SA : Option Addr) (sc : Nat) (w : World) :
 Calls Tryz.prog 68 #[.agg #[.int .i64 c.kind, .int .i64 c.uid, .int .u64 c.rev, .string c.spec.name, .slice LA c.spec.labels.length lc, .slice IA c.spec.init.length ic, .slice MA c.spec.main.length mc, .int .i64 c.spec.restart, .int .i64 c.spec.grace, .int .i64 c.spec.prio, .int .i64 c.grace, .int .i64 c.ctr, .int .i64 c.id, .int .i64 c.most, .string c.data, .slice SA c.sel.length sc], .string ⟨#[105, 100]⟩] w fun e w' => e = .returned (.tuple #[.int .i64 c.id, .int .i64 1, .int .i64 1073741824]) ∧ Below w.heap.size w w' := by
 obtain ⟨w1, hw1⟩ : ∃ v, w.alloc (.cells #[.int .i64 c.kind, .int .i64 c.uid, .int .u64 c.rev, .string c.spec.name, .slice LA c.spec.labels.length lc, .slice IA c.spec.init.length ic, .slice MA c.spec.main.length mc, .int .i64 c.spec.restart, .int .i64 c.spec.grace, .int .i64 c.spec.prio, .int .i64 c.grace, .int .i64 c.ctr, .int .i64 c.id, .int .i64 c.most, .string c.data, .slice SA c.sel.length sc] 41) = v := ⟨_, rfl⟩
 have B1 := Lib.hid (show Below w.heap.size w w1 by rw [← hw1]; exact (Below.refl _ _).alloc (Nat.le_refl _) _)
 have X1 := Lib.hid (show w1.heap[w.heap.size]? = some (.cells #[.int .i64 c.kind, .int .i64 c.uid, .int .u64 c.rev, .string c.spec.name, .slice LA c.spec.labels.length lc, .slice IA c.spec.init.length ic, .slice MA c.spec.main.length mc, .int .i64 c.spec.restart, .int .i64 c.spec.grace, .int .i64 c.spec.prio, .int .i64 c.grace, .int .i64 c.ctr, .int .i64 c.id, .int .i64 c.most, .string c.data, .slice SA c.sel.length sc] 41) by rw [← hw1]; exact heap_alloc_new w _)
 have c12 := box_cell X1.out 12 rfl
 go_enter Tryz.func68, Tryz.ntmps68
 go_wp2_with fail
 exact bodyPost_ret (v := .tuple #[.int .i64 c.id, .int .i64 1, .int .i64 1073741824]) (by simp [results, Tryz.results68, go_sem]) rfl ⟨rfl, B1.out⟩
set_option maxRecDepth 100000 in
theorem bounds_6 (c : Cal) (LA : Option Addr) (lc : Nat) (IA : Option Addr) (ic : Nat) (MA : Option Addr) (mc : Nat) (SA : Option Addr) (sc : Nat) (w : World) :
 Calls Tryz.prog 68 #[.agg #[.int .i64 c.kind, .int .i64 c.uid, .int .u64 c.rev, .string c.spec.name, .slice LA c.spec.labels.length lc, .slice IA c.spec.init.length ic, .slice MA c.spec.main.length mc, .int .i64 c.spec.restart, .int .i64 c.spec.grace, .int .i64 c.spec.prio, .int .i64 c.grace, .int .i64 c.ctr, .int .i64 c.id, .int .i64 c.most, .string c.data, .slice SA c.sel.length sc], .string ⟨#[100, 97, 116, 97]⟩] w fun e w' => e = .returned (.tuple #[.int .i64 0, .int .i64 0, .int .i64 0]) ∧ Below w.heap.size w w' := by
 obtain ⟨w1, hw1⟩ : ∃ v, w.alloc (.cells #[.int .i64 c.kind, .int .i64 c.uid, .int .u64 c.rev, .string c.spec.name, .slice LA c.spec.labels.length lc, .slice IA c.spec.init.length ic, .slice MA c.spec.main.length mc, .int .i64 c.spec.restart, .int .i64 c.spec.grace, .int .i64 c.spec.prio, .int .i64 c.grace, .int .i64 c.ctr, .int .i64 c.id, .int .i64 c.most, .string c.data, .slice SA c.sel.length sc] 41) = v := ⟨_, rfl⟩
 have B1 := Lib.hid (show Below w.heap.size w w1 by rw [← hw1]; exact (Below.refl _ _).alloc (Nat.le_refl _) _)
 have X1 := Lib.hid (show w1.heap[w.heap.size]? = some (.cells #[.int .i64 c.kind, .int .i64 c.uid, .int .u64 c.rev, .string c.spec.name, .slice LA c.spec.labels.length lc, .slice IA c.spec.init.length ic, .slice MA c.spec.main.length mc, .int .i64 c.spec.restart, .int .i64 c.spec.grace, .int .i64 c.spec.prio, .int .i64 c.grace, .int .i64 c.ctr, .int .i64 c.id, .int .i64 c.most, .string c.data, .slice SA c.sel.length sc] 41) by rw [← hw1]; exact heap_alloc_new w _)
 go_enter Tryz.func68, Tryz.ntmps68
 go_wp2_with fail
 exact bodyPost_ret (v := .tuple #[.int .i64 0, .int .i64 0, .int .i64 0]) (by simp [results, Tryz.results68, go_sem]) rfl ⟨rfl, B1.out⟩
set_option maxRecDepth 100000 in
theorem bounds_7 (c : Cal) (LA : Option Addr) (lc : Nat) (IA : Option Addr) (ic : Nat) (MA : Option Addr) (mc : Nat) (SA : Option Addr) (sc : Nat) (w : World) :
 Calls Tryz.prog 68 #[.agg #[.int .i64 c.kind, .int .i64 c.uid, .int .u64 c.rev, .string c.spec.name, .slice LA c.spec.labels.length lc, .slice IA c.spec.init.length ic, .slice MA c.spec.main.length mc, .int .i64 c.spec.restart, .int .i64 c.spec.grace, .int .i64 c.spec.prio, .int .i64 c.grace, .int .i64 c.ctr, .int .i64 c.id, .int .i64 c.most, .string c.data, .slice SA c.sel.length sc], .string ⟨#[109, 111, 115, 116]⟩] w fun e w' => e = .returned (.tuple #[.int .i64 c.most, .int .i64 1, .int .i64 32]) ∧ Below w.heap.size w w' := by
 obtain ⟨w1, hw1⟩ : ∃ v, w.alloc (.cells #[.int .i64 c.kind, .int .i64 c.uid, .int .u64 c.rev, .string c.spec.name, .slice LA c.spec.labels.length lc, .slice IA c.spec.init.length ic, .slice MA c.spec.main.length mc, .int .i64 c.spec.restart, .int .i64 c.spec.grace, .int .i64 c.spec.prio, .int .i64 c.grace, .int .i64 c.ctr, .int .i64 c.id, .int .i64 c.most, .string c.data, .slice SA c.sel.length sc] 41) = v := ⟨_, rfl⟩
 have B1 := Lib.hid (show Below w.heap.size w w1 by rw [← hw1]; exact (Below.refl _ _).alloc (Nat.le_refl _) _)
 have X1 := Lib.hid (show w1.heap[w.heap.size]? = some (.cells #[.int .i64 c.kind, .int .i64 c.uid, .int .u64 c.rev, .string c.spec.name, .slice LA c.spec.labels.length lc, .slice IA c.spec.init.length ic, .slice MA c.spec.main.length mc, .int .i64 c.spec.restart, .int .i64 c.spec.grace, .int .i64 c.spec.prio, .int .i64 c.grace, .int .i64 c.ctr, .int .i64 c.id, .int .i64 c.most, .string c.data, .slice SA c.sel.length sc] 41) by rw [← hw1]; exact heap_alloc_new w _)
 have c13 := box_cell X1.out 13 rfl
 go_enter Tryz.func68, Tryz.ntmps68
 go_wp2_with fail
 exact bodyPost_ret (v := .tuple #[.int .i64 c.most, .int .i64 1, .int .i64 32]) (by simp [results, Tryz.results68, go_sem]) rfl ⟨rfl, B1.out⟩
set_option maxRecDepth 100000 in
theorem bounds_8 (c : Cal) (LA : Option Addr) (lc : Nat) (IA : Option Addr) (ic : Nat) (MA : Option Addr) (mc : Nat) (SA : Option Addr) (sc : Nat) (w : World) :
 Calls Tryz.prog 68 #[.agg #[.int .i64 c.kind, .int .i64 c.uid, .int .u64 c.rev, .string c.spec.name, .slice LA c.spec.labels.length lc, .slice IA c.spec.init.length ic, .slice MA c.spec.main.length mc, .int .i64 c.spec.restart, .int .i64 c.spec.grace, .int .i64 c.spec.prio, .int .i64 c.grace, .int .i64 c.ctr, .int .i64 c.id, .int .i64 c.most, .string c.data, .slice SA c.sel.length sc], .string ⟨#[115, 101, 108]⟩] w fun e w' => e = .returned (.tuple #[.int .i64 0, .int .i64 0, .int .i64 0]) ∧ Below w.heap.size w w' := by
 obtain ⟨w1, hw1⟩ : ∃ v, w.alloc (.cells #[.int .i64 c.kind, .int .i64 c.uid, .int .u64 c.rev, .string c.spec.name, .slice LA c.spec.labels.length lc, .slice IA c.spec.init.length ic, .slice MA c.spec.main.length mc, .int .i64 c.spec.restart, .int .i64 c.spec.grace, .int .i64 c.spec.prio, .int .i64 c.grace, .int .i64 c.ctr, .int .i64 c.id, .int .i64 c.most, .string c.data, .slice SA c.sel.length sc] 41) = v := ⟨_, rfl⟩
 have B1 := Lib.hid (show Below w.heap.size w w1 by rw [← hw1]; exact (Below.refl _ _).alloc (Nat.le_refl _) _)
 have X1 := Lib.hid (show w1.heap[w.heap.size]? = some (.cells #[.int .i64 c.kind, .int .i64 c.uid, .int .u64 c.rev, .string c.spec.name, .slice LA c.spec.labels.length lc, .slice IA c.spec.init.length ic, .slice MA c.spec.main.length mc, .int .i64 c.spec.restart, .int .i64 c.spec.grace, .int .i64 c.spec.prio, .int .i64 c.grace, .int .i64 c.ctr, .int .i64 c.id, .int .i64 c.most, .string c.data, .slice SA c.sel.length sc] 41) by rw [← hw1]; exact heap_alloc_new w _)
 go_enter Tryz.func68, Tryz.ntmps68
 go_wp2_with fail
 exact bodyPost_ret (v := .tuple #[.int .i64 0, .int .i64 0, .int .i64 0]) (by simp [results, Tryz.results68, go_sem]) rfl ⟨rfl, B1.out⟩

end Ak
end Go.Proofs.YtakdhkhcndeiiaaGreatDoor
