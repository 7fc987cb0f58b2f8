/-
  The chapter's example of package res holds. Condition: strconv's table of powers holds what the program's text lays.
-/
import Derived.Test.YtpllcnpmjnmcfaaDoorRc11
import Derived.Test.YtpllcnpmjnmcfaaDoorRc14
import Derived.Test.YtpllcnpmjnmcfaaDoorRc3
import Derived.Deep.QuietTactic
import Derived.Maps.AppendAt
set_option linter.unusedVariables false
set_option linter.unusedSimpArgs false
namespace Go.Proofs.YtpllcnpmjnmcfaaDoor
open Go.ChangeShapes Go.WideShapes Go.ChangeAt Go.RowKit Go.Lib
open NumMath
namespace Re
theorem tx5 : textR ⟨5, 7, 9⟩ = ⟨#[53, 47, 55, 47, 57]⟩ := by
  have h (a b : ByteArray) (h : a.data.toList = b.data.toList) : a = b := ByteArray.ext (Array.toList_inj.1 h)
  exact h _ _ (by decide +kernel)
theorem ok_lit (a : Rx) (h : (fits a.c && fits a.m && fits a.p) = true) : a.Ok := by
  simp only [Bool.and_eq_true] at h
  exact ⟨h.1.1, h.1.2, h.2⟩
set_option maxRecDepth 100000 in
set_option maxHeartbeats 4000000 in
theorem works_any (w : World) (hT : NumText.Tab w) : Calls Tryd.prog 19 #[] w fun e w' => e = .returned (.bool true) ∧ Below w.heap.size w w' := by
  have HT := Lib.hid hT
  clear hT
  have HA := Lib.hid (add_any ⟨1, 2, 3⟩ ⟨4, 5, 6⟩ (ok_lit _ rfl) (ok_lit _ rfl) w)
  have HS := Lib.hid (fun u => sub_any ⟨1, 0, 0⟩ ⟨2, 0, 0⟩ (ok_lit _ rfl) (ok_lit _ rfl) u)
  have HF := Lib.hid (fun u => fits_any ⟨1, 0, 0⟩ ⟨5, 7, 9⟩ u)
  have HG := Lib.hid (fun u => fits_any ⟨5, 7, 9⟩ ⟨99, 0, 0⟩ u)
  have HX := Lib.hid (fun u (h : NumText.Tab u) => text_any ⟨5, 7, 9⟩ (ok_lit _ rfl) u h)
  rw [show addR ⟨1, 2, 3⟩ ⟨4, 5, 6⟩ = (⟨5, 7, 9⟩, true) from by rfl] at HA
  rw [show subR ⟨1, 0, 0⟩ ⟨2, 0, 0⟩ = (⟨0, 0, 0⟩, false) from by rfl] at HS
  rw [show fitsR ⟨1, 0, 0⟩ ⟨5, 7, 9⟩ = true by decide] at HF
  rw [show fitsR ⟨5, 7, 9⟩ ⟨99, 0, 0⟩ = false by decide] at HG
  rw [tx5] at HX
  go_enter Tryd.func19, Tryd.ntmps19
  have B := Lib.hid (Below.refl w.heap.size w)
  go_wp2_with fail
  refine (HA.out).mono ?_
  rintro e w1 ⟨rfl, hb1⟩
  obtain ⟨u1, hu1⟩ : ∃ v, w1.alloc (.cells #[.int .i64 0, .int .i64 0, .int .i64 0] 23) = v := ⟨_, rfl⟩
  have ZB := Lib.hid (show u1.heap[w1.heap.size]? = some (.cells #[.int .i64 0, .int .i64 0, .int .i64 0] 23 (0, 0)) by rw [← hu1]; exact heap_alloc_new _ _)
  have BU := Lib.hid (show Below w1.heap.size w1 u1 by rw [← hu1]; exact (Below.refl _ _).alloc (Nat.le_refl _) _)
  obtain ⟨v1, hv1⟩ : ∃ v, u1.setCells (w1.heap.size) 0 [.int .i64 5, .int .i64 7, .int .i64 9] = v := ⟨_, rfl⟩
  have THz := Lib.hid (show u1.there (w1.heap.size) 0 3 from Back.th ZB.out rfl)
  have ONEz := Lib.hid (show ([.int .i64 5, .int .i64 7, .int .i64 9] : List Value).toArray.all (·.oneCell') = true by simp [Value.oneCell'])
  have HVz := Lib.hid hv1
  have NX := Lib.hid (show v1.heap[w1.heap.size]? = some (.cells ([.int .i64 5, .int .i64 7, .int .i64 9] : List Value).toArray 23 (0, 0)) by rw [← hv1]; exact Back.st ZB.out rfl)
  have BV := Lib.hid (show Below w1.heap.size w1 v1 by rw [← hv1]; exact bel_set BU.out (Nat.le_refl _))
  have BH := hb1.trans (BV.out.mono hb1.size)
  clear hv1
  have NB := Lib.hid (B.out.trans (BH.mono B.out.size))
  clear B 
  have B := Lib.hid NB.out
  clear NB 
  have X1 := Lib.hid NX.out
  have RX1 := Lib.hid (range_box (cs := [.int .i64 5, .int .i64 7, .int .i64 9]) X1.out)
  clear BH BV NX ZB BU hb1
  go_wp2_with (first | (refine wpList_store_at rfl 23 _ _ rfl _ _ _ rfl rfl THz.out (by kernel_rfl) ONEz.out HVz.out ?_))
  refine (HS.out _).mono ?_
  rintro e w2 ⟨rfl, hb2⟩
  obtain ⟨u2, hu2⟩ : ∃ v, w2.alloc (.cells #[.int .i64 0, .int .i64 0, .int .i64 0] 23) = v := ⟨_, rfl⟩
  have ZB := Lib.hid (show u2.heap[w2.heap.size]? = some (.cells #[.int .i64 0, .int .i64 0, .int .i64 0] 23 (0, 0)) by rw [← hu2]; exact heap_alloc_new _ _)
  have BU := Lib.hid (show Below w2.heap.size w2 u2 by rw [← hu2]; exact (Below.refl _ _).alloc (Nat.le_refl _) _)
  obtain ⟨v2, hv2⟩ : ∃ v, u2.setCells (w2.heap.size) 0 [.int .i64 0, .int .i64 0, .int .i64 0] = v := ⟨_, rfl⟩
  have THz := Lib.hid (show u2.there (w2.heap.size) 0 3 from Back.th ZB.out rfl)
  have ONEz := Lib.hid (show ([.int .i64 0, .int .i64 0, .int .i64 0] : List Value).toArray.all (·.oneCell') = true by simp [Value.oneCell'])
  have HVz := Lib.hid hv2
  have NX := Lib.hid (show v2.heap[w2.heap.size]? = some (.cells ([.int .i64 0, .int .i64 0, .int .i64 0] : List Value).toArray 23 (0, 0)) by rw [← hv2]; exact Back.st ZB.out rfl)
  have BV := Lib.hid (show Below w2.heap.size w2 v2 by rw [← hv2]; exact bel_set BU.out (Nat.le_refl _))
  have BH := hb2.trans (BV.out.mono hb2.size)
  clear hv2
  have NX1 := Lib.hid ((BH.block _ (lt_of_at X1.out)).trans X1.out)
  have NB := Lib.hid (B.out.trans (BH.mono B.out.size))
  clear B X1 RX1
  have X1 := Lib.hid NX1.out
  have RX1 := Lib.hid (range_box (cs := [.int .i64 5, .int .i64 7, .int .i64 9]) X1.out)
  have B := Lib.hid NB.out
  clear NB NX1
  have X2 := Lib.hid NX.out
  have RX2 := Lib.hid (range_box (cs := [.int .i64 0, .int .i64 0, .int .i64 0]) X2.out)
  clear BH BV NX ZB BU hb2
  clear HA HS
  have c0 : v2.cell? ⟨w1.heap.size, 0, none⟩ = some (.int .i64 5) := cell_of X1.out 0 rfl
  have c1 : v2.cell? ⟨w1.heap.size, 1, none⟩ = some (.int .i64 7) := cell_of X1.out 1 rfl
  have c2 : v2.cell? ⟨w1.heap.size, 2, none⟩ = some (.int .i64 9) := cell_of X1.out 2 rfl
  go_wp2_with (first | (refine wpList_store_at rfl 23 _ _ rfl _ _ _ rfl rfl THz.out (by kernel_rfl) ONEz.out HVz.out ?_))
  refine (HX.out _ (HT.out.below B.out)).mono ?_
  rintro e w3 ⟨rfl, hb3⟩
  clear c0 c1 c2
  have NX1 := Lib.hid ((hb3.block _ (lt_of_at X1.out)).trans X1.out)
  have NX2 := Lib.hid ((hb3.block _ (lt_of_at X2.out)).trans X2.out)
  have NB := Lib.hid (B.out.trans (hb3.mono B.out.size))
  clear B X1 RX1 X2 RX2
  have X1 := Lib.hid NX1.out
  have RX1 := Lib.hid (range_box (cs := [.int .i64 5, .int .i64 7, .int .i64 9]) X1.out)
  have X2 := Lib.hid NX2.out
  have RX2 := Lib.hid (range_box (cs := [.int .i64 0, .int .i64 0, .int .i64 0]) X2.out)
  have B := Lib.hid NB.out
  clear NB NX1 NX2
  clear hb3
  have c0 : w3.cell? ⟨w1.heap.size, 0, none⟩ = some (.int .i64 5) := cell_of X1.out 0 rfl
  have c1 : w3.cell? ⟨w1.heap.size, 1, none⟩ = some (.int .i64 7) := cell_of X1.out 1 rfl
  have c2 : w3.cell? ⟨w1.heap.size, 2, none⟩ = some (.int .i64 9) := cell_of X1.out 2 rfl
  go_wp2_with fail
  refine (HF.out _).mono ?_
  rintro e w4 ⟨rfl, hb4⟩
  clear c0 c1 c2
  have NX1 := Lib.hid ((hb4.block _ (lt_of_at X1.out)).trans X1.out)
  have NX2 := Lib.hid ((hb4.block _ (lt_of_at X2.out)).trans X2.out)
  have NB := Lib.hid (B.out.trans (hb4.mono B.out.size))
  clear B X1 RX1 X2 RX2
  have X1 := Lib.hid NX1.out
  have RX1 := Lib.hid (range_box (cs := [.int .i64 5, .int .i64 7, .int .i64 9]) X1.out)
  have X2 := Lib.hid NX2.out
  have RX2 := Lib.hid (range_box (cs := [.int .i64 0, .int .i64 0, .int .i64 0]) X2.out)
  have B := Lib.hid NB.out
  clear NB NX1 NX2
  clear hb4
  have c0 : w4.cell? ⟨w1.heap.size, 0, none⟩ = some (.int .i64 5) := cell_of X1.out 0 rfl
  have c1 : w4.cell? ⟨w1.heap.size, 1, none⟩ = some (.int .i64 7) := cell_of X1.out 1 rfl
  have c2 : w4.cell? ⟨w1.heap.size, 2, none⟩ = some (.int .i64 9) := cell_of X1.out 2 rfl
  go_wp2_with fail
  refine (HG.out _).mono ?_
  rintro e w5 ⟨rfl, hb5⟩
  clear c0 c1 c2
  have NX1 := Lib.hid ((hb5.block _ (lt_of_at X1.out)).trans X1.out)
  have NX2 := Lib.hid ((hb5.block _ (lt_of_at X2.out)).trans X2.out)
  have NB := Lib.hid (B.out.trans (hb5.mono B.out.size))
  clear B X1 RX1 X2 RX2
  have X1 := Lib.hid NX1.out
  have RX1 := Lib.hid (range_box (cs := [.int .i64 5, .int .i64 7, .int .i64 9]) X1.out)
  have X2 := Lib.hid NX2.out
  have RX2 := Lib.hid (range_box (cs := [.int .i64 0, .int .i64 0, .int .i64 0]) X2.out)
  have B := Lib.hid NB.out
  clear NB NX1 NX2
  clear hb5
  go_wp2_with fail
  go_ret
  exact ⟨rfl, B.out⟩
end Re
end Go.Proofs.YtpllcnpmjnmcfaaDoor

/-
  What is taken, in memory: a box of two slices, each with a row of its own behind the box; what a call that adds to it leaves as it was; an addition. No condition.
-/
namespace Go.Proofs.YtpllcnpmjnmcfaaDoor
open Go.ChangeShapes Go.WideShapes Go.ChangeAt Go.RowKit Go.Lib
open Sd Lists
namespace SpecOwn

theorem two_cells {w : World} {g : Nat} {u v : Value} {t : TypeId} (h : w.heap[g]? = some (.cells #[u, v] t (0, 0))) :
    w.cell? ⟨g, 0, none⟩ = some u ∧ w.cell? ⟨g, 1, none⟩ = some v ∧ w.frozen? ⟨g, 0, none⟩ = false ∧ w.frozen? ⟨g, 1, none⟩ = false :=
  ⟨by simp [World.cell?, h], by simp [World.cell?, h], by simp [World.frozen?, h], by simp [World.frozen?, h]⟩
theorem two_set0 {w : World} {g : Nat} {u v : Value} {t : TypeId} (h : w.heap[g]? = some (.cells #[u, v] t (0, 0))) (x : Value) : (w.setCell ⟨g, 0, none⟩ x).heap[g]? = some (.cells #[x, v] t (0, 0)) := by
  simpa using heap_setCell_same w g 0 _ _ x h
theorem two_set1 {w : World} {g : Nat} {u v : Value} {t : TypeId} (h : w.heap[g]? = some (.cells #[u, v] t (0, 0))) (x : Value) : (w.setCell ⟨g, 1, none⟩ x).heap[g]? = some (.cells #[u, x] t (0, 0)) := by
  simpa using heap_setCell_same w g 1 _ _ x h
theorem lt_of_block {w : World} {g : Nat} {o : Obj} (h : w.heap[g]? = some o) : g < w.heap.size := by
  rcases Nat.lt_or_ge g w.heap.size with hl | hl
  · exact hl
  · rw [Array.getElem?_eq_none hl] at h; cases h
theorem owns_of {w w' : World} {base : Nat} {e : TypeId} {size n : Nat} {v : Value} {xs : List Value} (h : w.ownsRow base e size v n xs) (hk : ∀ r, v.ownBlock = some r → w'.heap[r]? = w.heap[r]?) : w'.ownsRow base e size v n xs := by
  refine ⟨h.1, ?_⟩
  rcases h.2 with h0 | ⟨g, cap, cur, rfl, h1, h2, h3⟩
  · exact .inl h0
  · exact .inr ⟨g, cap, cur, rfl, h1, (hk g rfl).trans h2, h3⟩
/-- a block of a slice in the box g -/
def InRow (g : Nat) (w : World) (b : Nat) : Prop := ∃ i a n c, w.cell? ⟨g, i, none⟩ = some (.slice (some a) n c) ∧ a.block = b
structure Ok (g : Nat) (w : World) : Prop where
  lt : g < w.heap.size
  rows : ∀ b, InRow g w b → b < w.heap.size
/-- a block that is neither the box nor one of its rows -/
def Off (g : Nat) (w : World) (b : Nat) : Prop := b < w.heap.size ∧ b ≠ g ∧ ¬ InRow g w b
/-- what was there is as it was, but the box g and its rows -/
structure Av (g : Nat) (w w' : World) : Prop where
  os : w'.os = w.os
  tape : w'.tape = w.tape
  output : w'.output = w.output
  size : w.heap.size ≤ w'.heap.size
  low : ∀ k, k < g → k < w.heap.size → w'.heap[k]? = w.heap[k]?
  ok : Ok g w → Ok g w' ∧ ∀ b, Off g w b → Off g w' b ∧ w'.heap[b]? = w.heap[b]?
theorem Av.refl (g : Nat) (w : World) : Av g w w := ⟨rfl, rfl, rfl, Nat.le_refl _, fun _ _ _ => rfl, fun h => ⟨h, fun _ hb => ⟨hb, rfl⟩⟩⟩
theorem Av.trans {g : Nat} {a b c : World} (h : Av g a b) (k : Av g b c) : Av g a c :=
  ⟨k.os.trans h.os, k.tape.trans h.tape, k.output.trans h.output, Nat.le_trans h.size k.size, fun i hi hl => (k.low i hi (Nat.lt_of_lt_of_le hl h.size)).trans (h.low i hi hl), fun hok => ⟨(k.ok (h.ok hok).1).1, fun b hb => by
    obtain ⟨h1, h2⟩ := (h.ok hok).2 b hb
    obtain ⟨h3, h4⟩ := (k.ok (h.ok hok).1).2 b h1
    exact ⟨h3, h4.trans h2⟩⟩⟩
theorem InRow.of_same {g : Nat} {w w' : World} (h : w'.heap[g]? = w.heap[g]?) {b : Nat} (hb : InRow g w' b) : InRow g w b := by
  obtain ⟨i, a, n, c, h1, h2⟩ := hb
  exact ⟨i, a, n, c, (World.cell?_of_block (w := w) (w' := w') (a := ⟨g, i, none⟩) h).symm.trans h1, h2⟩
theorem Av.of_any {g : Nat} {w w' : World} (hb : Below w.heap.size w w') : Av g w w' :=
  ⟨hb.os, hb.tape, hb.output, hb.size, fun k _ hl => hb.block k hl, fun hok => ⟨⟨Nat.lt_of_lt_of_le hok.lt hb.size, fun b h => Nat.lt_of_lt_of_le (hok.rows b (h.of_same (hb.block g hok.lt))) hb.size⟩,
    fun b h => ⟨⟨Nat.lt_of_lt_of_le h.1 hb.size, h.2.1, fun hr => h.2.2 (hr.of_same (hb.block g hok.lt))⟩, hb.block b h.1⟩⟩⟩
theorem Av.of_below {g : Nat} {w w' : World} (hb : Below w.heap.size w w') (_ : g < w.heap.size) : Av g w w' := .of_any hb
/-- what is made new is none of the rows -/
theorem Ok.fresh {g : Nat} {w w' : World} (h : Ok g w) (hb : Below w.heap.size w w') {b : Nat} (h1 : w.heap.size ≤ b) (h2 : b < w'.heap.size) : Off g w' b :=
  ⟨h2, fun e => by have := h.lt; omega, fun hr => by have := h.rows b (hr.of_same (hb.block g h.lt)); omega⟩
/-- what is taken: the names N, the ports P -/
structure TkV (w : World) (g : Nat) (A : Option Addr) (c : Nat) (B : Option Addr) (d : Nat) (N : List ByteArray) (P : List Int) : Prop where
  box : w.heap[g]? = some (.cells #[.slice A N.length c, .slice B P.length d] 67 (0, 0))
  names : w.ownsRow (g + 1) 9 1 (.slice A N.length c) N.length (N.map Value.string)
  ports : w.ownsRow (g + 1) 3 1 (.slice B P.length d) P.length (P.map (Value.int .i64))
def Tk (w : World) (g : Nat) (N : List ByteArray) (P : List Int) : Prop := ∃ A c B d, TkV w g A c B d N P
theorem TkV.lt {w : World} {g : Nat} {A : Option Addr} {c : Nat} {B : Option Addr} {d : Nat} {N : List ByteArray} {P : List Int} (h : TkV w g A c B d N P) : g < w.heap.size := lt_of_block h.box
theorem TkV.ok {w : World} {g : Nat} {A : Option Addr} {c : Nat} {B : Option Addr} {d : Nat} {N : List ByteArray} {P : List Int} (h : TkV w g A c B d N P) : Ok g w := by
  refine ⟨h.lt, ?_⟩
  rintro b ⟨i, a, n, k, h1, rfl⟩
  obtain ⟨c0, c1, _, _⟩ := two_cells h.box
  rcases i with _ | _ | i
  · have e := Option.some.inj (c0.symm.trans h1)
    exact (h.names.lt a.block (by rw [e]; rfl)).2
  · have e := Option.some.inj (c1.symm.trans h1)
    exact (h.ports.lt a.block (by rw [e]; rfl)).2
  · simp [World.cell?, h.box] at h1
theorem TkV.keep {w w' : World} {g : Nat} {A : Option Addr} {c : Nat} {B : Option Addr} {d : Nat} {N : List ByteArray} {P : List Int} (h : TkV w g A c B d N P) (hb : Below w.heap.size w w') : TkV w' g A c B d N P :=
  ⟨(hb.block g h.lt).trans h.box, owns_of h.names fun r hr => hb.block r (h.names.lt r hr).2, owns_of h.ports fun r hr => hb.block r (h.ports.lt r hr).2⟩
theorem Tk.keep {w w' : World} {g : Nat} {N : List ByteArray} {P : List Int} (h : Tk w g N P) (hb : Below w.heap.size w w') : Tk w' g N P := by
  obtain ⟨A, c, B, d, h⟩ := h
  exact ⟨A, c, B, d, h.keep hb⟩
theorem Tk.lt {w : World} {g : Nat} {N : List ByteArray} {P : List Int} (h : Tk w g N P) : g < w.heap.size := by
  obtain ⟨A, c, B, d, h⟩ := h
  exact h.lt
theorem Tk.ok {w : World} {g : Nat} {N : List ByteArray} {P : List Int} (h : Tk w g N P) : Ok g w := by
  obtain ⟨A, c, B, d, h⟩ := h
  exact h.ok
/-- the two rows are not one -/
theorem TkV.apart {w : World} {g : Nat} {A : Option Addr} {c : Nat} {B : Option Addr} {d : Nat} {N : List ByteArray} {P : List Int} (h : TkV w g A c B d N P) {r : Nat} (h1 : (Value.slice A N.length c).ownBlock = some r) (h2 : (Value.slice B P.length d).ownBlock = some r) : False := by
  rcases h.names.2 with ⟨e, _⟩ | ⟨g1, cap, cur, e, _, hh, _⟩
  · rw [e] at h1; cases h1
  · rcases h.ports.2 with ⟨e2, _⟩ | ⟨g2, cap2, cur2, e2, _, hh2, _⟩
    · rw [e2] at h2; cases h2
    · rw [e] at h1
      rw [e2] at h2
      obtain rfl : g1 = r := Option.some.inj h1
      obtain rfl : g2 = g1 := Option.some.inj h2
      rw [hh] at hh2
      injection hh2 with h3
      injection h3 with _ h4 _
      exact absurd h4 (by decide)
theorem own_form {w : World} {base : Nat} {t : TypeId} {size n : Nat} {v : Value} {xs : List Value} (h : w.ownsRow base t size v n xs) : ∃ A c, v = .slice A n c := by
  rcases h.2 with ⟨h1, h0⟩ | ⟨g, cap, cur, h1, _⟩
  · exact ⟨none, 0, by rw [h1, h0]⟩
  · exact ⟨_, _, h1⟩
/-- a name more -/
theorem TkV.push_name {w w2 : World} {g : Nat} {A : Option Addr} {c : Nat} {B : Option Addr} {d : Nat} {N : List ByteArray} {P : List Int} (h : TkV w g A c B d N P) (o : Obj) (s : ByteArray) (v' : Value)
    (hown : w2.ownsRow (g + 1) 9 1 v' (N.length + 1) (N.map Value.string ++ [.string s])) (hg : (w.alloc o).grownBy w2 (Value.slice A N.length c).ownBlock)
    (hloc : v'.ownBlock = (Value.slice A N.length c).ownBlock ∨ v'.ownBlock = some (w.heap.size + 1)) :
    Tk (w2.setCell ⟨g, 0, none⟩ v') g (N ++ [s]) P ∧ Av g w (w2.setCell ⟨g, 0, none⟩ v') := by
  have hb1 : Below w.heap.size w (w.alloc o) := (Below.refl _ _).alloc (Nat.le_refl _) _
  have h1 := h.keep hb1
  have hnew : w.heap.size + 1 = (w.alloc o).heap.size := by simp
  rw [hnew] at hloc
  clear hnew
  generalize hw1 : w.alloc o = w1 at *
  have hN : ∀ k, (Value.slice A N.length c).ownBlock = some k → g + 1 ≤ k ∧ k < w1.heap.size := fun k hk => h1.names.lt k hk
  have hgb : w2.heap[g]? = w1.heap[g]? := hg.block g h1.lt (fun e => by have := hN g e.symm; omega)
  have hbox2 : w2.heap[g]? = some (.cells #[.slice A N.length c, .slice B P.length d] 67 (0, 0)) := hgb.trans h1.box
  have hbox3 := two_set0 hbox2 v'
  have hoth : ∀ k, k ≠ g → (w2.setCell ⟨g, 0, none⟩ v').heap[k]? = w2.heap[k]? := fun k hk => Below.heap_setCell _ _ _ _ hk
  have hsz : (w2.setCell ⟨g, 0, none⟩ v').heap.size = w2.heap.size := by simp [World.setCell]
  obtain ⟨A', c', rfl⟩ := own_form hown
  have hpo : ∀ r, (Value.slice B P.length d).ownBlock = some r → w2.heap[r]? = w1.heap[r]? := fun r hr => hg.block r (h1.ports.lt r hr).2 (fun e => h1.apart e.symm hr)
  have hT : TkV (w2.setCell ⟨g, 0, none⟩ (.slice A' (N.length + 1) c')) g A' c' B d (N ++ [s]) P := by
    refine ⟨?_, ?_, ?_⟩
    · rw [List.length_append]; exact hbox3
    · rw [List.length_append, List.map_append]
      exact owns_of hown fun r hr => hoth r (by have := (hown.lt r hr).1; omega)
    · refine owns_of (owns_of h1.ports hpo) fun r hr => hoth r (by have := (h1.ports.lt r hr).1; omega)
  refine ⟨⟨_, _, _, _, hT⟩, hg.os.trans hb1.os, hg.tape.trans hb1.tape, hg.output.trans hb1.output, by rw [hsz]; exact Nat.le_trans hb1.size hg.size, fun k hk _ => ?_, fun hok => ⟨hT.ok, fun b hb => ?_⟩⟩
  · rw [hoth k (by omega), hg.block k (by have := h1.lt; omega) (fun e => by have := hN k e.symm; omega), hb1.block k (by have := h.lt; omega)]
  · obtain ⟨b1, b2, b3⟩ := hb
    obtain ⟨c0, c1, _, _⟩ := two_cells h.box
    have hne : some b ≠ (Value.slice A N.length c).ownBlock := fun e => by
      cases A with
      | none => cases e
      | some a => exact b3 ⟨0, a, _, _, c0, (Option.some.inj e).symm⟩
    have hne2 : some b ≠ (Value.slice B P.length d).ownBlock := fun e => by
      cases B with
      | none => cases e
      | some a => exact b3 ⟨1, a, _, _, c1, (Option.some.inj e).symm⟩
    refine ⟨⟨by rw [hsz]; have := hb1.size; have := hg.size; omega, b2, ?_⟩, ?_⟩
    · rintro ⟨i, a, n, k, e1, rfl⟩
      obtain ⟨d0, d1, _, _⟩ := two_cells hT.box
      simp only [List.length_append, List.length_singleton] at d0 d1
      rcases i with _ | _ | i
      · have e := Option.some.inj (d0.symm.trans e1)
        have e' : (Value.slice A' (N.length + 1) c').ownBlock = some a.block := congrArg Value.ownBlock e
        rcases hloc with hl | hl
        · exact hne (e'.symm.trans hl)
        · have := Option.some.inj (e'.symm.trans hl)
          have := hb1.size
          omega
      · have e := Option.some.inj (d1.symm.trans e1)
        exact hne2 (congrArg Value.ownBlock e).symm
      · simp [World.cell?, hT.box] at e1
    · rw [hoth b b2, hg.block b (by have := hb1.size; omega) hne, hb1.block b b1]
/-- a port more -/
theorem TkV.push_port {w w2 : World} {g : Nat} {A : Option Addr} {c : Nat} {B : Option Addr} {d : Nat} {N : List ByteArray} {P : List Int} (h : TkV w g A c B d N P) (o : Obj) (z : Int) (v' : Value)
    (hown : w2.ownsRow (g + 1) 3 1 v' (P.length + 1) (P.map (Value.int .i64) ++ [.int .i64 z])) (hg : (w.alloc o).grownBy w2 (Value.slice B P.length d).ownBlock)
    (hloc : v'.ownBlock = (Value.slice B P.length d).ownBlock ∨ v'.ownBlock = some (w.heap.size + 1)) :
    Tk (w2.setCell ⟨g, 1, none⟩ v') g N (P ++ [z]) ∧ Av g w (w2.setCell ⟨g, 1, none⟩ v') := by
  have hb1 : Below w.heap.size w (w.alloc o) := (Below.refl _ _).alloc (Nat.le_refl _) _
  have h1 := h.keep hb1
  have hnew : w.heap.size + 1 = (w.alloc o).heap.size := by simp
  rw [hnew] at hloc
  clear hnew
  generalize hw1 : w.alloc o = w1 at *
  have hN : ∀ k, (Value.slice B P.length d).ownBlock = some k → g + 1 ≤ k ∧ k < w1.heap.size := fun k hk => h1.ports.lt k hk
  have hgb : w2.heap[g]? = w1.heap[g]? := hg.block g h1.lt (fun e => by have := hN g e.symm; omega)
  have hbox2 : w2.heap[g]? = some (.cells #[.slice A N.length c, .slice B P.length d] 67 (0, 0)) := hgb.trans h1.box
  have hbox3 := two_set1 hbox2 v'
  have hoth : ∀ k, k ≠ g → (w2.setCell ⟨g, 1, none⟩ v').heap[k]? = w2.heap[k]? := fun k hk => Below.heap_setCell _ _ _ _ hk
  have hsz : (w2.setCell ⟨g, 1, none⟩ v').heap.size = w2.heap.size := by simp [World.setCell]
  obtain ⟨A', c', rfl⟩ := own_form hown
  have hpo : ∀ r, (Value.slice A N.length c).ownBlock = some r → w2.heap[r]? = w1.heap[r]? := fun r hr => hg.block r (h1.names.lt r hr).2 (fun e => h1.apart hr e.symm)
  have hT : TkV (w2.setCell ⟨g, 1, none⟩ (.slice A' (P.length + 1) c')) g A c A' c' N (P ++ [z]) := by
    refine ⟨?_, ?_, ?_⟩
    · rw [List.length_append]; exact hbox3
    · refine owns_of (owns_of h1.names hpo) fun r hr => hoth r (by have := (h1.names.lt r hr).1; omega)
    · rw [List.length_append, List.map_append]
      exact owns_of hown fun r hr => hoth r (by have := (hown.lt r hr).1; omega)
  refine ⟨⟨_, _, _, _, hT⟩, hg.os.trans hb1.os, hg.tape.trans hb1.tape, hg.output.trans hb1.output, by rw [hsz]; exact Nat.le_trans hb1.size hg.size, fun k hk _ => ?_, fun hok => ⟨hT.ok, fun b hb => ?_⟩⟩
  · rw [hoth k (by omega), hg.block k (by have := h1.lt; omega) (fun e => by have := hN k e.symm; omega), hb1.block k (by have := h.lt; omega)]
  · obtain ⟨b1, b2, b3⟩ := hb
    obtain ⟨c0, c1, _, _⟩ := two_cells h.box
    have hne : some b ≠ (Value.slice A N.length c).ownBlock := fun e => by
      cases A with
      | none => cases e
      | some a => exact b3 ⟨0, a, _, _, c0, (Option.some.inj e).symm⟩
    have hne2 : some b ≠ (Value.slice B P.length d).ownBlock := fun e => by
      cases B with
      | none => cases e
      | some a => exact b3 ⟨1, a, _, _, c1, (Option.some.inj e).symm⟩
    refine ⟨⟨by rw [hsz]; have := hb1.size; have := hg.size; omega, b2, ?_⟩, ?_⟩
    · rintro ⟨i, a, n, k, e1, rfl⟩
      obtain ⟨d0, d1, _, _⟩ := two_cells hT.box
      simp only [List.length_append, List.length_singleton] at d0 d1
      rcases i with _ | _ | i
      · have e := Option.some.inj (d0.symm.trans e1)
        exact hne (congrArg Value.ownBlock e).symm
      · have e := Option.some.inj (d1.symm.trans e1)
        have e' : (Value.slice A' (P.length + 1) c').ownBlock = some a.block := congrArg Value.ownBlock e
        rcases hloc with hl | hl
        · exact hne2 (e'.symm.trans hl)
        · have := Option.some.inj (e'.symm.trans hl)
          have := hb1.size
          omega
      · simp [World.cell?, hT.box] at e1
    · rw [hoth b b2, hg.block b (by have := hb1.size; omega) hne2, hb1.block b b1]
end SpecOwn
end Go.Proofs.YtpllcnpmjnmcfaaDoor

/-
  The contracts of slices.Contains and slices.Index on texts and on numbers: is one of them that? All is left as it was. Condition: the list is a list.
-/
namespace Go.Proofs.YtpllcnpmjnmcfaaDoor
open Go.ChangeShapes Go.WideShapes Go.ChangeAt Go.RowKit Go.Lib
open Sd Lists
namespace SpecOwn

/-- the number of the first for which it holds; -1: none -/
def idxN {α : Type} (p : α → Bool) : Nat → List α → Int
  | _, [] => -1
  | k, x :: l => if p x = true then (k : Int) else idxN p (k + 1) l
theorem idxN_some {α : Type} (p : α → Bool) : ∀ (l : List α) (k : Nat), l.any p = true → 0 ≤ idxN p k l
  | [], _, h => by simp at h
  | x :: l, k, h => by
    rw [idxN]
    split
    · omega
    · rename_i h0
      exact idxN_some p l (k + 1) (by simpa [h0] using h)
theorem idxN_none {α : Type} (p : α → Bool) : ∀ (l : List α) (k : Nat), l.any p = false → idxN p k l = -1
  | [], _, _ => rfl
  | x :: l, k, h => by
    simp only [List.any_cons, Bool.or_eq_false_iff] at h
    rw [idxN, if_neg (by simp [h.1])]
    exact idxN_none p l (k + 1) h.2
theorem index_texts (s : ByteArray) (A : Option Addr) (c : Nat) (N : List ByteArray) (hn : N.length ≤ 9223372036854775807) (w : World) (h : Texts w A N) :
    Calls Tryd.prog 87 #[.slice A N.length c, .string s] w fun e w' => e = .returned (.int .i64 (idxN (fun y => s.toList == y.toList) 0 N)) ∧ w = w' := by
  have H := Lib.hid h
  clear h
  have hn' : (N.length : Int) ≤ 9223372036854775807 := by omega
  obtain ⟨R, hR⟩ : ∃ R, idxN (fun y => s.toList == y.toList) 0 N = R := ⟨_, rfl⟩
  rw [hR]
  have HR := Lib.hid hR
  clear hR
  go_enter Tryd.func87, Tryd.ntmps87
  go_wp2
  go_loop [8] (fun i => ∃ k : Nat, k ≤ N.length ∧ i = .int .i64 k ∧ Hid (R = idxN (fun y => s.toList == y.toList) k (N.drop k))) (fun i => N.length - (RowKit.intOf i).toNat)
  case atStart => exact ⟨0, Nat.zero_le _, rfl, by unfold Hid; rw [← HR.out, List.drop_zero]⟩
  case round =>
    obtain ⟨k, hk, rfl, HK⟩ := hrel
    by_cases hlt : k < N.length
    · obtain ⟨a, rfl, ha, hc⟩ := H.out.at hlt
      have HD := Lib.hid (List.drop_eq_getElem_cons hlt)
      obtain ⟨x, hx⟩ : ∃ x, N[k] = x := ⟨_, rfl⟩
      rw [hx] at hc
      have HX := Lib.hid hx
      have hkn : (k : Int) < (N.length : Int) := by omega
      clear hx
      cases hq : (s.toList == x.toList) with
      | true =>
        have HE := Lib.hid (show R = (k : Int) by rw [HK.out, HD.out, HX.out, idxN, if_pos hq])
        go_wp2
        go_ret
        exact ⟨by rw [HE.out]; rfl, rfl⟩
      | false =>
        have HE := Lib.hid (show R = idxN (fun y => s.toList == y.toList) (k + 1) (N.drop (k + 1)) by rw [HK.out, HD.out, HX.out, idxN, if_neg (by rw [hq]; simp)])
        go_wp2
        go_round
        case rel => exact ⟨k + 1, by omega, by go_num, HE.out⟩
        case measure => simp [RowKit.intOf]; omega
    · have HE := Lib.hid (show R = -1 by rw [HK.out, List.drop_eq_nil_of_le (by omega)]; rfl)
      go_wp2
      go_ret
      exact ⟨by rw [HE.out]; rfl, rfl⟩
theorem index_nums (z : Int) (A : Option Addr) (c : Nat) (P : List Int) (hn : P.length ≤ 9223372036854775807) (w : World) (h : ∀ (k : Nat) (x : Int), P[k]? = some x → ∃ a, A = some a ∧ w.cell? (a.add k) = some (.int .i64 x)) :
    Calls Tryd.prog 90 #[.slice A P.length c, .int .i64 z] w fun e w' => e = .returned (.int .i64 (idxN (fun y => z == y) 0 P)) ∧ w = w' := by
  have H := Lib.hid h
  clear h
  have hn' : (P.length : Int) ≤ 9223372036854775807 := by omega
  obtain ⟨R, hR⟩ : ∃ R, idxN (fun y => z == y) 0 P = R := ⟨_, rfl⟩
  rw [hR]
  have HR := Lib.hid hR
  clear hR
  go_enter Tryd.func90, Tryd.ntmps90
  go_wp2
  go_loop [8] (fun i => ∃ k : Nat, k ≤ P.length ∧ i = .int .i64 k ∧ Hid (R = idxN (fun y => z == y) k (P.drop k))) (fun i => P.length - (RowKit.intOf i).toNat)
  case atStart => exact ⟨0, Nat.zero_le _, rfl, by unfold Hid; rw [← HR.out, List.drop_zero]⟩
  case round =>
    obtain ⟨k, hk, rfl, HK⟩ := hrel
    by_cases hlt : k < P.length
    · obtain ⟨a, rfl, hc⟩ := H.out k P[k] (List.getElem?_eq_getElem hlt)
      have HD := Lib.hid (List.drop_eq_getElem_cons hlt)
      obtain ⟨x, hx⟩ : ∃ x, P[k] = x := ⟨_, rfl⟩
      rw [hx] at hc
      have HX := Lib.hid hx
      have hkn : (k : Int) < (P.length : Int) := by omega
      clear hx
      cases hq : (z == x) with
      | true =>
        have HE := Lib.hid (show R = (k : Int) by rw [HK.out, HD.out, HX.out, idxN, if_pos hq])
        go_wp2
        go_ret
        exact ⟨by rw [HE.out]; rfl, rfl⟩
      | false =>
        have HE := Lib.hid (show R = idxN (fun y => z == y) (k + 1) (P.drop (k + 1)) by rw [HK.out, HD.out, HX.out, idxN, if_neg (by rw [hq]; simp)])
        go_wp2
        go_round
        case rel => exact ⟨k + 1, by omega, by go_num, HE.out⟩
        case measure => simp [RowKit.intOf]; omega
    · have HE := Lib.hid (show R = -1 by rw [HK.out, List.drop_eq_nil_of_le (by omega)]; rfl)
      go_wp2
      go_ret
      exact ⟨by rw [HE.out]; rfl, rfl⟩
theorem contains_texts (s : ByteArray) (A : Option Addr) (c : Nat) (N : List ByteArray) (hn : N.length ≤ 9223372036854775807) (w : World) (h : Texts w A N) :
    Calls Tryd.prog 76 #[.slice A N.length c, .string s] w fun e w' => e = .returned (.bool (N.any fun y => y.toList == s.toList)) ∧ w = w' := by
  have hcm : (N.any fun y => y.toList == s.toList) = N.any fun y => s.toList == y.toList := by congr 1; funext y; exact Bool.beq_comm
  rw [hcm]
  have H := Lib.hid h
  clear h hcm
  obtain ⟨b, hb⟩ : ∃ b, (N.any fun y => s.toList == y.toList) = b := ⟨_, rfl⟩
  rw [hb]
  obtain ⟨z, hz⟩ : ∃ z, idxN (fun y => s.toList == y.toList) 0 N = z := ⟨_, rfl⟩
  have HZ := Lib.hid hz
  cases b with
  | true =>
    have h0 : 0 ≤ z := hz ▸ idxN_some _ N 0 hb
    clear hb hz
    go_enter Tryd.func76, Tryd.ntmps76
    go_wp2_with fail
    refine (index_texts s A c N hn _ H.out).mono ?_
    rw [HZ.out]
    rintro e w1 ⟨rfl, rfl⟩
    go_wp2
    go_ret
    exact ⟨rfl, rfl⟩
  | false =>
    obtain rfl : -1 = z := hz ▸ (idxN_none _ N 0 hb).symm
    clear hb hz
    go_enter Tryd.func76, Tryd.ntmps76
    go_wp2_with fail
    refine (index_texts s A c N hn _ H.out).mono ?_
    rw [HZ.out]
    rintro e w1 ⟨rfl, rfl⟩
    go_wp2
    go_ret
    exact ⟨rfl, rfl⟩
theorem contains_nums (z : Int) (A : Option Addr) (c : Nat) (P : List Int) (hn : P.length ≤ 9223372036854775807) (w : World) (h : ∀ (k : Nat) (x : Int), P[k]? = some x → ∃ a, A = some a ∧ w.cell? (a.add k) = some (.int .i64 x)) :
    Calls Tryd.prog 79 #[.slice A P.length c, .int .i64 z] w fun e w' => e = .returned (.bool (P.contains z)) ∧ w = w' := by
  have hcm : P.contains z = P.any fun y => z == y := by
    rw [List.contains_eq_any_beq]
  rw [hcm]
  have H := Lib.hid h
  clear h hcm
  obtain ⟨b, hb⟩ : ∃ b, (P.any fun y => z == y) = b := ⟨_, rfl⟩
  rw [hb]
  obtain ⟨y, hy⟩ : ∃ y, idxN (fun y => z == y) 0 P = y := ⟨_, rfl⟩
  have HZ := Lib.hid hy
  cases b with
  | true =>
    have h0 : 0 ≤ y := hy ▸ idxN_some _ P 0 hb
    clear hb hy
    go_enter Tryd.func79, Tryd.ntmps79
    go_wp2_with fail
    refine (index_nums z A c P hn _ H.out).mono ?_
    rw [HZ.out]
    rintro e w1 ⟨rfl, rfl⟩
    go_wp2
    go_ret
    exact ⟨rfl, rfl⟩
  | false =>
    obtain rfl : -1 = y := hy ▸ (idxN_none _ P 0 hb).symm
    clear hb hy
    go_enter Tryd.func79, Tryd.ntmps79
    go_wp2_with fail
    refine (index_nums z A c P hn _ H.out).mono ?_
    rw [HZ.out]
    rintro e w1 ⟨rfl, rfl⟩
    go_wp2
    go_ret
    exact ⟨rfl, rfl⟩
end SpecOwn
end Go.Proofs.YtpllcnpmjnmcfaaDoor
