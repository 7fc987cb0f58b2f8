/-
  Facts that stay true through a region: a text in a list of its own, what an error says, a list of errors; a list of errors built, and the first of them. No condition.
-/
import Derived.Test.YtmeilidjomjocaaGreatDoorSpecStepAll
import Derived.Test.YtmeilidjomjocaaGreatDoorRegionLine
import Derived.Great.BuildSlice
namespace Go.Proofs.YtmeilidjomjocaaGreatDoor
open Go.ChangeShapes Go.WideShapes Go.ChangeAt Go.RowKit Go.Lib
open Sd Lists
namespace SpecOwn

theorem put_lit (l : List Value) (ds : List Deferred) (d : Nat) (v : Value) : (Act.mk l.toArray ds).put (some d) v = Act.mk (l.set d v).toArray ds := by
  simp [Act.put]

/-- a list of one text, in a block of K -/
def TextK (K : World → Nat → Prop) (s : ByteArray) (v : Value) (w : World) : Prop := ∃ g, v = .slice (some ⟨g, 0, none⟩) 1 1 ∧ K w g ∧ w.cell? ⟨g, 0, none⟩ = some (.string s)
/-- an error that says y, its steps in blocks of K -/
def SaysK (K : World → Nat → Prop) (y : Say) (v : Value) (w : World) : Prop := Says (K w) w v y
def AllSays (D : Nat → Prop) (w : World) : List Value → List Say → Prop
  | [], [] => True
  | E :: Es, y :: ys => Says D w E y ∧ AllSays D w Es ys
  | _, _ => False
/-- a list of errors, in a block of K -/
def RowK (K : World → Nat → Prop) (ys : List Say) (v : Value) (w : World) : Prop := ∃ g Es, v = .slice (some ⟨g, 0, none⟩) ys.length ys.length ∧ g < w.heap.size ∧ K w g ∧ AllSays (K w) w Es ys ∧ ∀ (k : Nat) (E : Value), Es[k]? = some E → w.cell? ⟨g, k, none⟩ = some E

theorem AllSays.keep {D D' : Nat → Prop} {w w' : World} (hd : ∀ b, D b → b < w.heap.size → D' b ∧ w'.heap[b]? = w.heap[b]?) : ∀ {Es : List Value} {ys : List Say}, AllSays D w Es ys → AllSays D' w' Es ys
  | [], [], _ => trivial
  | _ :: _, _ :: _, h => ⟨h.1.keep hd, AllSays.keep hd h.2⟩
  | [], _ :: _, h => h.elim
  | _ :: _, [], h => h.elim
theorem AllSays.length {D : Nat → Prop} {w : World} : ∀ {Es : List Value} {ys : List Say}, AllSays D w Es ys → Es.length = ys.length
  | [], [], _ => rfl
  | _ :: _, _ :: _, h => by rw [List.length_cons, List.length_cons, AllSays.length h.2]
  | [], _ :: _, h => h.elim
  | _ :: _, [], h => h.elim
theorem AllSays.at {D : Nat → Prop} {w : World} : ∀ {Es : List Value} {ys : List Say}, AllSays D w Es ys → ∀ (k : Nat) (E : Value) (y : Say), Es[k]? = some E → ys[k]? = some y → Says D w E y
  | [], [], _, _, _, _, h, _ => by simp at h
  | E :: Es, y :: ys, h, 0, _, _, h1, h2 => by
    simp at h1 h2
    subst h1 h2
    exact h.1
  | E :: Es, y :: ys, h, k + 1, _, _, h1, h2 => AllSays.at h.2 k _ _ (by simpa using h1) (by simpa using h2)
  | [], _ :: _, h, _, _, _, _, _ => h.elim
  | _ :: _, [], h, _, _, _, _, _ => h.elim

theorem TextK.keep {K : World → Nat → Prop} {s : ByteArray} {v : Value} {w w' : World} (h : TextK K s v w) (hd : ∀ b, K w b → b < w.heap.size → K w' b ∧ w'.heap[b]? = w.heap[b]?) : TextK K s v w' := by
  obtain ⟨g, h1, h2, h3⟩ := h
  obtain ⟨h4, h5⟩ := hd g h2 (Err.lt_of_cell h3)
  exact ⟨g, h1, h4, (World.cell?_of_block (w := w) (a := ⟨g, 0, none⟩) h5).trans h3⟩
theorem SaysK.keep {K : World → Nat → Prop} {y : Say} {v : Value} {w w' : World} (h : SaysK K y v w) (hd : ∀ b, K w b → b < w.heap.size → K w' b ∧ w'.heap[b]? = w.heap[b]?) : SaysK K y v w' := Says.keep h hd
theorem RowK.keep {K : World → Nat → Prop} {ys : List Say} {v : Value} {w w' : World} (h : RowK K ys v w) (hd : ∀ b, K w b → b < w.heap.size → K w' b ∧ w'.heap[b]? = w.heap[b]?) : RowK K ys v w' := by
  obtain ⟨g, Es, h1, hl, h2, h3, h4⟩ := h
  obtain ⟨h5, h6⟩ := hd g h2 hl
  refine ⟨g, Es, h1, ?_, h5, h3.keep hd, fun k E hk => (World.cell?_of_block (w := w) (a := ⟨g, k, none⟩) h6).trans (h4 k E hk)⟩
  rw [Array.getElem?_eq_getElem hl] at h6
  exact (Array.getElem?_eq_some_iff.1 h6).1

theorem cells_form {E : Value} (h : E = .nilIface ∨ ∃ u x, E = .iface u x) : E.cells = #[E] := by
  rcases h with rfl | ⟨u, x, rfl⟩ <;> rfl
theorem info_error : (Tryz.prog.info? 40).map (fun i => (i.zero, i.size, i.bytes)) = some (some .nilIface, 1, 16) := by kernel_rfl
theorem build_errs (n : Nat) (parts : Array (Nat × Value)) (cells : Array Value) (w : World) (hn : 0 < n) (hn2 : n ≤ 1000) (h : Instr.fill (fun i => some (i * 1, 1)) ((Array.range (n * 1)).map (Value.nilIface.cells[· % Value.nilIface.cells.size]!)) parts.toList = some cells) :
    (Instr.buildSlice 143 n parts).run Tryz.prog w = .ok (.slice (some ⟨w.heap.size, 0, none⟩) n n) (w.alloc (.cells cells 40)) := by
  obtain ⟨ie, hie, hz, hs, _⟩ := info_parts info_error
  exact run_buildSlice w _ _ n parts cells ie .nilIface Tryz.underlying143 hie hz (by rw [hs]; omega) (by rw [hs]; omega) (by rw [hs]; exact h)
theorem build2 (E0 E1 : Value) (w : World) (h0 : E0.cells = #[E0]) (h1 : E1.cells = #[E1]) :
    (Instr.buildSlice 143 2 #[(0, E0), (1, E1)]).run Tryz.prog w = .ok (.slice (some ⟨w.heap.size, 0, none⟩) 2 2) (w.alloc (.cells #[E0, E1] 40)) :=
  build_errs 2 _ _ w (by decide) (by decide) (by
    rw [show (Array.range (2 * 1)).map (Value.nilIface.cells[· % Value.nilIface.cells.size]!) = #[.nilIface, .nilIface] from by kernel_rfl]
    simp [Instr.fill, h0, h1])
theorem build3 (E0 E1 E2 : Value) (w : World) (h0 : E0.cells = #[E0]) (h1 : E1.cells = #[E1]) (h2 : E2.cells = #[E2]) :
    (Instr.buildSlice 143 3 #[(0, E0), (1, E1), (2, E2)]).run Tryz.prog w = .ok (.slice (some ⟨w.heap.size, 0, none⟩) 3 3) (w.alloc (.cells #[E0, E1, E2] 40)) :=
  build_errs 3 _ _ w (by decide) (by decide) (by
    rw [show (Array.range (3 * 1)).map (Value.nilIface.cells[· % Value.nilIface.cells.size]!) = #[.nilIface, .nilIface, .nilIface] from by kernel_rfl]
    simp [Instr.fill, h0, h1, h2])
theorem build6 (E0 E1 E2 E3 E4 E5 : Value) (w : World) (h0 : E0.cells = #[E0]) (h1 : E1.cells = #[E1]) (h2 : E2.cells = #[E2]) (h3 : E3.cells = #[E3]) (h4 : E4.cells = #[E4]) (h5 : E5.cells = #[E5]) :
    (Instr.buildSlice 143 6 #[(0, E0), (1, E1), (2, E2), (3, E3), (4, E4), (5, E5)]).run Tryz.prog w = .ok (.slice (some ⟨w.heap.size, 0, none⟩) 6 6) (w.alloc (.cells #[E0, E1, E2, E3, E4, E5] 40)) :=
  build_errs 6 _ _ w (by decide) (by decide) (by
    rw [show (Array.range (6 * 1)).map (Value.nilIface.cells[· % Value.nilIface.cells.size]!) = #[.nilIface, .nilIface, .nilIface, .nilIface, .nilIface, .nilIface] from by kernel_rfl]
    simp [Instr.fill, h0, h1, h2, h3, h4, h5])
theorem build7 (E0 E1 E2 E3 E4 E5 E6 : Value) (w : World) (h0 : E0.cells = #[E0]) (h1 : E1.cells = #[E1]) (h2 : E2.cells = #[E2]) (h3 : E3.cells = #[E3]) (h4 : E4.cells = #[E4]) (h5 : E5.cells = #[E5]) (h6 : E6.cells = #[E6]) :
    (Instr.buildSlice 143 7 #[(0, E0), (1, E1), (2, E2), (3, E3), (4, E4), (5, E5), (6, E6)]).run Tryz.prog w = .ok (.slice (some ⟨w.heap.size, 0, none⟩) 7 7) (w.alloc (.cells #[E0, E1, E2, E3, E4, E5, E6] 40)) :=
  build_errs 7 _ _ w (by decide) (by decide) (by
    rw [show (Array.range (7 * 1)).map (Value.nilIface.cells[· % Value.nilIface.cells.size]!) = #[.nilIface, .nilIface, .nilIface, .nilIface, .nilIface, .nilIface, .nilIface] from by kernel_rfl]
    simp [Instr.fill, h0, h1, h2, h3, h4, h5, h6])

theorem row_made {K : World → Nat → Prop} {w : World} (Es : List Value) (ys : List Say) (n : Nat) (hn : ys.length = n) (hK : K (w.alloc (.cells Es.toArray 40)) w.heap.size)
    (hd : ∀ b, K w b → b < w.heap.size → K (w.alloc (.cells Es.toArray 40)) b ∧ (w.alloc (.cells Es.toArray 40)).heap[b]? = w.heap[b]?) (h : AllSays (K w) w Es ys) : RowK K ys (.slice (some ⟨w.heap.size, 0, none⟩) n n) (w.alloc (.cells Es.toArray 40)) := by
  subst hn
  refine ⟨w.heap.size, Es, rfl, by simp, hK, h.keep hd, fun k E hk => ?_⟩
  simp only [World.cell?, heap_alloc_new]
  simpa using hk
theorem row_first {K : World → Nat → Prop} {w : World} {ys : List Say} {v : Value} (h : RowK K ys v w) (hn : ys.length ≤ 1000) :
    Calls Tryz.prog 47 #[v] w fun e w' => ∃ E, e = .returned E ∧ SaysK K (firstV ys) E w' ∧ Below w.heap.size w w' := by
  obtain ⟨g, Es, rfl, _, _, h1, h2⟩ := h
  have hl := h1.length
  rw [← hl]
  refine (Err.first_any Es (some ⟨g, 0, none⟩) Es.length w ?_ ?_ (by omega)).mono ?_
  · intro k E hk
    have hlt := (List.getElem?_eq_some_iff.1 hk).1
    exact (h1.at k E ys[k] hk (List.getElem?_eq_getElem (by omega))).form
  · intro k E hk
    refine ⟨_, rfl, ?_⟩
    rw [Addr.add_lit, Nat.zero_add]
    exact h2 k E hk
  · rintro e w' ⟨rfl, rfl⟩
    exact ⟨_, rfl, first_says hl h1.at, Below.refl _ _⟩
theorem text_made {K : World → Nat → Prop} {w : World} (s : ByteArray) (hK : K (w.alloc (.cells #[.string s] 9)) w.heap.size) : TextK K s (.slice (some ⟨w.heap.size, 0, none⟩) 1 1) (w.alloc (.cells #[.string s] 9)) :=
  ⟨w.heap.size, rfl, hK, by simp⟩

/-- from block B on -/
def KB (B : Nat) (_ : World) (b : Nat) : Prop := B ≤ b
theorem kb_keep {B : Nat} {w w' : World} (hb : Below w.heap.size w w') : ∀ b, KB B w b → b < w.heap.size → KB B w' b ∧ w'.heap[b]? = w.heap[b]? := fun b h hl => ⟨h, hb.block b hl⟩
theorem kb_tells {B : Nat} {y : Say} {w w' : World} {E : Value} (hB : B ≤ w.heap.size) (h : Says (fun b => w.heap.size ≤ b) w' E y) : SaysK (KB B) y E w' := Says.keep h fun _ hb _ => ⟨Nat.le_trans hB hb, rfl⟩

/-- off what is taken -/
def KO (g : Nat) (w : World) (b : Nat) : Prop := Ok g w ∧ Off g w b
theorem ko_keep {g : Nat} {w w' : World} (hA : Av g w w') : ∀ b, KO g w b → b < w.heap.size → KO g w' b ∧ w'.heap[b]? = w.heap[b]? := fun b h _ =>
  ⟨⟨(hA.ok h.1).1, ((hA.ok h.1).2 b h.2).1⟩, ((hA.ok h.1).2 b h.2).2⟩
theorem ko_new {g : Nat} {w w' : World} (hok : Ok g w) (hb : Below w.heap.size w w') {b : Nat} (h1 : w.heap.size ≤ b) (h2 : b < w'.heap.size) : KO g w' b := ⟨((Av.of_any hb).ok hok).1, hok.fresh hb h1 h2⟩
theorem ko_tells {g : Nat} {y : Say} {w w' : World} {E : Value} (hok : Ok g w) (hb : Below w.heap.size w w') (h : Says (fun b => w.heap.size ≤ b) w' E y) : SaysK (KO g) y E w' := Says.keep h fun _ h1 h2 => ⟨ko_new hok hb h1 h2, rfl⟩
end SpecOwn
end Go.Proofs.YtmeilidjomjocaaGreatDoor
