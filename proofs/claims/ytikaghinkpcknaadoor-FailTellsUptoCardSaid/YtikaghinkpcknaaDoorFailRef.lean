/-
  The contracts of the document's answers for layer 2 (provostref02.New, In, Text): a code and a path; all that was there is left as it was. Conditions: the lists hold the texts that are spoken of; there are at most 1000000 of them.
-/
import Derived.Test.YtikaghinkpcknaaDoorErrOpt
import Derived.Test.YtikaghinkpcknaaDoorAppendAny
import Derived.Laws.OwnMore
import Derived.Deep.RegionHeld3
namespace Go.Proofs.YtikaghinkpcknaaDoor
open Go.RowKit
namespace Err

/-- the value is a code and a path -/
def RefIs (w : World) (v : Value) (c : Int) (p : List ByteArray) : Prop := ∃ A cap, v = .agg #[.int .i64 c, .slice A p.length cap] ∧ Texts w A p ∧ ((A = none ∧ p.length = 0 ∧ cap = 0) ∨ ∃ ad, A = some ad)

def RefMade (c : Int) (p : List ByteArray) (w : World) (e : Ending) (w' : World) : Prop := ∃ v, e = .returned v ∧ RefIs w' v c p ∧ Below w.heap.size w w'

theorem refnew_zero (A : Option Addr) (n cap : Nat) (w : World) :
    Calls Tryd.prog 9 #[.int .i64 0, .slice A n cap] w (RefMade 0 [] w) := by
  go_enter Tryd.func9, Tryd.ntmps9
  go_wp2
  refine bodyPost_ret (v := .agg #[.int .i64 0, .slice none 0 0]) (by simp [results, Tryd.results9, go_sem]) rfl ?_
  exact ⟨_, rfl, ⟨none, 0, rfl, fun k x hx => by simp at hx, .inl ⟨rfl, rfl, rfl⟩⟩, (Below.refl _ _).alloc (Nat.le_refl _) _⟩

theorem refnew_some (c : Int) (hc : (c == 0) = false) (A : Option Addr) (cap : Nat) (xs : List ByteArray) (w : World) (hT : Texts w A xs) (hA : (A = none ∧ xs.length = 0 ∧ cap = 0) ∨ ∃ ad, A = some ad) :
    Calls Tryd.prog 9 #[.int .i64 c, .slice A xs.length cap] w (RefMade c xs w) := by
  have HT := Lib.hid hT
  have HA := Lib.hid hA
  clear hT hA
  go_enter Tryd.func9, Tryd.ntmps9
  go_wp2
  refine bodyPost_ret (v := .agg #[.int .i64 c, .slice A xs.length cap]) (by simp [results, Tryd.results9, go_sem]) rfl ?_
  have hb : Below w.heap.size w (w.alloc (.cells #[.int .i64 c, .slice A xs.length cap] 30)) := (Below.refl _ _).alloc (Nat.le_refl _) _
  exact ⟨_, rfl, ⟨A, cap, rfl, HT.out.below hb, HA.out⟩, hb⟩

theorem refin_zero (A : Option Addr) (n cap : Nat) (s : ByteArray) (w : World) :
    Calls Tryd.prog 11 #[.agg #[.int .i64 0, .slice A n cap], .string s] w fun e w' => e = .returned (.agg #[.int .i64 0, .slice A n cap]) ∧ Below w.heap.size w w' := by
  go_enter Tryd.func11, Tryd.ntmps11
  go_wp2
  refine bodyPost_ret (v := .agg #[.int .i64 0, .slice A n cap]) (by simp [results, Tryd.results11, go_sem]) rfl ?_
  exact ⟨rfl, ((Below.refl _ _).alloc (Nat.le_refl _) _).alloc (by simp) _⟩

set_option maxRecDepth 100000 in
set_option maxHeartbeats 2000000 in
theorem refin_some (c : Int) (hc : (c == 0) = false) (A : Option Addr) (cap : Nat) (p : List ByteArray) (s : ByteArray) (w : World) (hT : Texts w A p) (hA : (A = none ∧ p.length = 0 ∧ cap = 0) ∨ ∃ ad, A = some ad) (hp : p.length ≤ 1000000) :
    Calls Tryd.prog 11 #[.agg #[.int .i64 c, .slice A p.length cap], .string s] w (RefMade c (s :: p) w) := by
  obtain ⟨i0, hi, hz0, hz1, hz2⟩ := info_parts info_string
  obtain ⟨W3, hW3⟩ : ∃ W3 : World, W3 = (((w.alloc (.cells #[.int .i64 c, .slice A p.length cap] 30)).alloc (.cells #[.int .i64 0, .slice none 0 0] 30)).alloc (.cells #[.string s] 9)).drew := ⟨_, rfl⟩
  have hb3 : Below w.heap.size w W3 := by rw [hW3]; exact ((((Below.refl _ _).alloc (Nat.le_refl _) _).alloc (by simp) _).alloc (by simp; omega) _).drew
  have hs3 : W3.heap.size = w.heap.size + 3 := by rw [hW3]; simp
  have ho3 : W3.ownsRow (w.heap.size + 1 + 1) 9 1 (.slice (some ⟨w.heap.size + 1 + 1, 0, none⟩) 1 1) 1 [.string s] := by
    have := World.ownsRow_lit (base := w.heap.size + 1 + 1) (e := 9) (size := 1) ((w.alloc (.cells #[.int .i64 c, .slice A p.length cap] 30)).alloc (.cells #[.int .i64 0, .slice none 0 0] 30)) #[.string s] 1 (by simp) (by decide) rfl
    simp at this
    rw [hW3]
    exact this
  have hc0 : W3.cell? ⟨w.heap.size, 0, none⟩ = some (.int .i64 c) := by
    rw [hW3, World.cell?_drew, World.cell?_alloc_lt _ _ ⟨w.heap.size, 0, none⟩ (by simp; omega), World.cell?_alloc_lt _ _ ⟨w.heap.size, 0, none⟩ (by simp)]; simp
  have hc1 : W3.cell? ⟨w.heap.size, 1, none⟩ = some (.slice A p.length cap) := by
    rw [hW3, World.cell?_drew, World.cell?_alloc_lt _ _ ⟨w.heap.size, 1, none⟩ (by simp; omega), World.cell?_alloc_lt _ _ ⟨w.heap.size, 1, none⟩ (by simp)]; simp
  have hb1 : ∀ o, W3.cell? ⟨w.heap.size + 1, o, none⟩ = (#[Value.int .i64 0, .slice none 0 0] : Array Value)[o]? ∧ W3.frozen? ⟨w.heap.size + 1, o, none⟩ = false := by
    intro o
    have e : W3.heap[w.heap.size + 1]? = some (.cells #[.int .i64 0, .slice none 0 0] 30 (0, 0)) := by
      rw [hW3]
      show (((w.alloc (.cells #[.int .i64 c, .slice A p.length cap] 30)).alloc (.cells #[.int .i64 0, .slice none 0 0] 30)).alloc (.cells #[.string s] 9)).heap[w.heap.size + 1]? = _
      rw [Below.heap_alloc _ _ _ (by simp)]
      have := heap_alloc_new (w.alloc (.cells #[.int .i64 c, .slice A p.length cap] 30)) (.cells #[.int .i64 0, .slice none 0 0] 30 (0, 0))
      simpa using this
    exact ⟨by simp [World.cell?, e], by simp [World.frozen?, e]⟩
  have HB1 := Lib.hid hb1
  clear hb1
  have hsrc : (A = none ∧ p.length = 0 ∧ cap = 0) ∨ ∃ ad, A = some ad ∧ ∀ (j : Nat) u, (p.map Value.string)[j]? = some u → W3.cell? (ad.add j) = some u := by
    rcases hA with h | ⟨ad, rfl⟩
    · exact .inl h
    · refine .inr ⟨ad, rfl, fun j u hu => ?_⟩
      rw [List.getElem?_map] at hu
      obtain ⟨x, hx, rfl⟩ := Option.map_eq_some_iff.1 hu
      obtain ⟨a', e', hc'⟩ := (hT.below hb3) j x hx
      obtain rfl := Option.some.inj e'
      exact hc'
  have hone : ∀ u ∈ p.map Value.string, u.oneCell' = true := by
    intro u hu
    obtain ⟨x, _, rfl⟩ := List.mem_map.1 hu
    rfl
  have hm : 1 + p.length ≤ maxLen := by unfold maxLen; omega
  have hby : (1 + p.length) * 16 ≤ 140737488355328 := by omega
  have HO := Lib.hid ho3
  have HS := Lib.hid hsrc
  have H1 := Lib.hid hone
  have HM := Lib.hid hm
  have HB := Lib.hid hby
  have HW := Lib.hid hW3
  have HZ := Lib.hid hs3
  have K0 := Lib.hid hc0
  have K1 := Lib.hid hc1
  rw [hW3] at HO HS K0 K1 HB1
  have HB3 := Lib.hid hb3
  rw [hW3] at HB3
  clear HW HZ
  clear hT hA ho3 hsrc hone hm hby hW3 hs3 hb3 hc0 hc1
  go_enter Tryd.func11, Tryd.ntmps11
  go_wp2
  go_region_held3 (fun w' => w'.cell? ⟨w.heap.size, 0, none⟩ = some (.int .i64 c) ∧ w'.cell? ⟨w.heap.size, 1, none⟩ = some (.slice A p.length cap))
    (first | go_keep | exact ⟨hk0, hk1⟩)
    ((refine AppendAny.step_append_any rfl _ _ 23 rfl (w.heap.size + 1 + 1) 9 i0 (.string ⟨#[]⟩) 1 16 Tryd.underlying23 hi hz0 hz1 hz2 rfl (by decide) (.slice (some ⟨w.heap.size + 1 + 1, 0, none⟩) 1 1) 1 [.string s] rfl HO.out A p.length cap (p.map Value.string) rfl (by simp) HS.out H1.out HM.out HB.out (by simp) ?_;
      intro A' c' w1 hown1 hgrow; have hk0 : w1.cell? ⟨w.heap.size, 0, none⟩ = some (.int .i64 c) := hgrow.cell K0.out (by simp [Value.ownBlock]; omega); have hk1 : w1.cell? ⟨w.heap.size, 1, none⟩ = some (.slice A p.length cap) := hgrow.cell K1.out (by simp [Value.ownBlock]; omega);
      have hk2 : w1.cell? ⟨w.heap.size + 1, 0, none⟩ = some (.int .i64 0) := hgrow.cell (HB1.out 0).1 (by simp [Value.ownBlock]); have hk3 : w1.cell? ⟨w.heap.size + 1, 1, none⟩ = some (.slice none 0 0) := hgrow.cell (HB1.out 1).1 (by simp [Value.ownBlock]);
      have hk4 : w1.frozen? ⟨w.heap.size + 1, 0, none⟩ = false := (World.frozen?_of_block (hgrow.block (w.heap.size + 1) (by simp) (by simp [Value.ownBlock]))).trans (HB1.out 0).2; have hk5 : w1.frozen? ⟨w.heap.size + 1, 1, none⟩ = false := (World.frozen?_of_block (hgrow.block (w.heap.size + 1) (by simp) (by simp [Value.ownBlock]))).trans (HB1.out 1).2))
  have hbw : Below w.heap.size w w1 := HB3.out.grown hgrow HB3.out.size (fun k hk => by simp [Value.ownBlock] at hk; omega)
  have ho := Lib.hid (ownsRow_setCell_below (ownsRow_setCell_below hown1 (a := ⟨w.heap.size + 1, 0, none⟩) (by simp) (.int .i64 c)) (a := ⟨w.heap.size + 1, 1, none⟩) (by simp) (.slice A' (1 + p.length) c'))
  have hbe := (hbw.setCell (p := ⟨w.heap.size + 1, 0, none⟩) (by simp) (.int .i64 c)).setCell (p := ⟨w.heap.size + 1, 1, none⟩) (by simp) (.slice A' (1 + p.length) c')
  have HBE := Lib.hid hbe
  clear hown1 hgrow hbe hbw
  go_wp2
  refine bodyPost_ret (v := .agg #[.int .i64 c, .slice A' (1 + p.length) c']) (by simp [results, Tryd.results11, go_sem, hk2, hk3]) rfl ?_
  generalize hW : ((w1.setCell ⟨w.heap.size + 1, 0, none⟩ (.int .i64 c)).setCell ⟨w.heap.size + 1, 1, none⟩ (.slice A' (1 + p.length) c')) = W at *
  have h2 : W.ownsRow (w.heap.size + 1 + 1) 9 1 (.slice A' (s :: p).length c') (s :: p).length ((s :: p).map Value.string) := by
    have := ho.out
    rw [show 1 + p.length = (s :: p).length from by simp; omega] at this
    exact this
  refine ⟨_, rfl, ⟨A', c', by rw [List.length_cons, Nat.add_comm], (Texts.of_own (p := s :: p) h2).1, ?_⟩, HBE.out⟩
  rcases own_source h2 with h3 | ⟨ad, h3, _⟩
  · exact .inl ⟨h3.1, h3.2.1, h3.2.2⟩
  · exact .inr ⟨ad, h3⟩
end Err
end Go.Proofs.YtikaghinkpcknaaDoor
