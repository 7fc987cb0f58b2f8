/-
 Facts that stay true through a region: a text in a list of its own, what an error says, a list of errors; a list of errors built, and the first of them. No condition. And what follows of it, part by part, each with its conditions.
-/
import Derived.Test.YtljbpelogjmciaaGreatDoorSpecStepAll
import Derived.Test.YtljbpelogjmciaaGreatDoorRegionAll
import Derived.Great.BuildSlice
import Derived.Deep.QuietTactic
import Derived.BigQuiet
set_option maxHeartbeats 4000000
set_option maxRecDepth 100000
namespace Go.Proofs.YtljbpelogjmciaaGreatDoor
open Go.ChangeShapes Go.WideShapes Go.ChangeAt Go.RowKit Go.Lib
open Sd Lists
namespace SpecOwn
theorem put_lit (l : List Value) (ds : List Deferred) (d : Nat) (v : Value) : (Act.mk l.toArray ds).put (some d) v = Act.mk (l.set d v).toArray ds := by
 simp [Act.put]
def TextK (K : World → Nat → Prop) (s : ByteArray) (v : Value) (w : World) : Prop := ∃ g, v = .slice (some ⟨g, 0, none⟩) 1 1 ∧ K w g ∧ w.cell? ⟨g, 0, none⟩ = some (.string s)
def SaysK (K : World → Nat → Prop) (y : Say) (v : Value) (w : World) : Prop := Says (K w) w v y
def AllSays (D : Nat → Prop) (w : World) : List Value → List Say → Prop
 | [], [] => True
 | E :: Es, y :: ys => Says D w E y ∧ AllSays D w Es ys
 | _, _ => False
def RowK (K : World → Nat → Prop) (ys : List Say) (v : Value) (w : World) : Prop := ∃ g Es, v = .slice (some ⟨g, 0, none⟩) ys.length ys.length ∧ g < w.heap.size ∧ K w g ∧ AllSays (K w) w Es ys ∧ ∀ (k : Nat) (E : Value), Es[k]? = some E → w.cell? ⟨g, k, none⟩ = some E
theorem AllSays.keep {D D' : Nat → Prop} {w w' : World} (hd : ∀ b, D b → b < w.heap.size → D' b ∧ w'.heap[b]? = w.heap[b]?) : ∀ {Es : List Value} {ys : List Say}, AllSays D w Es ys → AllSays D' w' Es ys
 | [], [], _ => trivial
 | _ :: _, _ :: _, h => ⟨h.1.keep hd, AllSays.keep hd h.2⟩
 | [], _ :: _, h => h.elim
 | _ :: _, [], h => h.elim
theorem AllSays.length {D : Nat → Prop} {w : World} : ∀ {Es : List Value} {ys : List Say}, AllSays D w Es ys → Es.length = ys.length
 | [], [], _ => rfl
 | _ :: _, _ :: _, h => by rw [List.length_cons, List.length_cons, AllSays.length h.2]
 | [], _ :: _, h => h.elim
 | _ :: _, [], h => h.elim
theorem AllSays.at {D : Nat → Prop} {w : World} : ∀ {Es : List Value} {ys : List Say}, AllSays D w Es ys → ∀ (k : Nat) (E : Value) (y : Say), Es[k]? = some E → ys[k]? = some y → Says D w E y
 | [], [], _, _, _, _, h, _ => by simp at h
 | E :: Es, y :: ys, h, 0, _, _, h1, h2 => by
  simp at h1 h2
  subst h1 h2
  exact h.1
 | E :: Es, y :: ys, h, k + 1, _, _, h1, h2 => AllSays.at h.2 k _ _ (by simpa using h1) (by simpa using h2)
 | [], _ :: _, h, _, _, _, _, _ => h.elim
 | _ :: _, [], h, _, _, _, _, _ => h.elim
theorem TextK.keep {K : World → Nat → Prop} {s : ByteArray} {v : Value} {w w' : World} (h : TextK K s v w) (hd : ∀ b, K w b → b < w.heap.size → K w' b ∧ w'.heap[b]? = w.heap[b]?) : TextK K s v w' := by
 obtain ⟨g, h1, h2, h3⟩ := h
 obtain ⟨h4, h5⟩ := hd g h2 (Err.lt_of_cell h3)
 exact ⟨g, h1, h4, (World.cell?_of_block (w := w) (a := ⟨g, 0, none⟩) h5).trans h3⟩
theorem SaysK.keep {K : World → Nat → Prop} {y : Say} {v : Value} {w w' : World} (h : SaysK K y v w) (hd : ∀ b, K w b → b < w.heap.size → K w' b ∧ w'.heap[b]? = w.heap[b]?) : SaysK K y v w' := Says.keep h hd
theorem RowK.keep {K : World → Nat → Prop} {ys : List Say} {v : Value} {w w' : World} (h : RowK K ys v w) (hd : ∀ b, K w b → b < w.heap.size → K w' b ∧ w'.heap[b]? = w.heap[b]?) : RowK K ys v w' := by
 obtain ⟨g, Es, h1, hl, h2, h3, h4⟩ := h
 obtain ⟨h5, h6⟩ := hd g h2 hl
 refine ⟨g, Es, h1, ?_, h5, h3.keep hd, fun k E hk => (World.cell?_of_block (w := w) (a := ⟨g, k, none⟩) h6).trans (h4 k E hk)⟩
 rw [Array.getElem?_eq_getElem hl] at h6
 exact (Array.getElem?_eq_some_iff.1 h6).1
theorem cells_form {E : Value} (h : E = .nilIface ∨ ∃ u x, E = .iface u x) : E.cells = #[E] := by
 rcases h with rfl | ⟨u, x, rfl⟩ <;> rfl
theorem info_error : (Tryz.prog.info? 76).map (fun i => (i.zero, i.size, i.bytes)) = some (some .nilIface, 1, 16) := by kernel_rfl
theorem build_errs (n : Nat) (parts : Array (Nat × Value)) (cells : Array Value) (w : World) (hn : 0 < n) (hn2 : n ≤ 1000) (h : Instr.fill (fun i => some (i * 1, 1)) ((Array.range (n * 1)).map (Value.nilIface.cells[· % Value.nilIface.cells.size]!)) parts.toList = some cells) :
 (Instr.buildSlice 176 n parts).run Tryz.prog w = .ok (.slice (some ⟨w.heap.size, 0, none⟩) n n) (w.alloc (.cells cells 76)) := by
 obtain ⟨ie, hie, hz, hs, _⟩ := info_parts info_error
 exact run_buildSlice w _ _ n parts cells ie .nilIface Tryz.underlying176 hie hz (by rw [hs]; omega) (by rw [hs]; omega) (by rw [hs]; exact h)
theorem build2 (E0 E1 : Value) (w : World) (h0 : E0.cells = #[E0]) (h1 : E1.cells = #[E1]) :
 (Instr.buildSlice 176 2 #[(0, E0), (1, E1)]).run Tryz.prog w = .ok (.slice (some ⟨w.heap.size, 0, none⟩) 2 2) (w.alloc (.cells #[E0, E1] 76)) :=
 build_errs 2 _ _ w (by decide) (by decide) (by
  rw [show (Array.range (2 * 1)).map (Value.nilIface.cells[· % Value.nilIface.cells.size]!) = #[.nilIface, .nilIface] from by kernel_rfl]
  simp [Instr.fill, h0, h1])
theorem build3 (E0 E1 E2 : Value) (w : World) (h0 : E0.cells = #[E0]) (h1 : E1.cells = #[E1]) (h2 : E2.cells = #[E2]) :
 (Instr.buildSlice 176 3 #[(0, E0), (1, E1), (2, E2)]).run Tryz.prog w = .ok (.slice (some ⟨w.heap.size, 0, none⟩) 3 3) (w.alloc (.cells #[E0, E1, E2] 76)) :=
 build_errs 3 _ _ w (by decide) (by decide) (by
  rw [show (Array.range (3 * 1)).map (Value.nilIface.cells[· % Value.nilIface.cells.size]!) = #[.nilIface, .nilIface, .nilIface] from by kernel_rfl]
  simp [Instr.fill, h0, h1, h2])
theorem build6 (E0 E1 E2 E3 E4 E5 : Value) (w : World) (h0 : E0.cells = #[E0]) (h1 : E1.cells = #[E1]) (h2 : E2.cells = #[E2]) (h3 : E3.cells = #[E3]) (h4 : E4.cells = #[E4]) (h5 : E5.cells = #[E5]) :
 (Instr.buildSlice 176 6 #[(0, E0), (1, E1), (2, E2), (3, E3), (4, E4), (5, E5)]).run Tryz.prog w = .ok (.slice (some ⟨w.heap.size, 0, none⟩) 6 6) (w.alloc (.cells #[E0, E1, E2, E3, E4, E5] 76)) :=
 build_errs 6 _ _ w (by decide) (by decide) (by
  rw [show (Array.range (6 * 1)).map (Value.nilIface.cells[· % Value.nilIface.cells.size]!) = #[.nilIface, .nilIface, .nilIface, .nilIface, .nilIface, .nilIface] from by kernel_rfl]
  simp [Instr.fill, h0, h1, h2, h3, h4, h5])
theorem build7 (E0 E1 E2 E3 E4 E5 E6 : Value) (w : World) (h0 : E0.cells = #[E0]) (h1 : E1.cells = #[E1]) (h2 : E2.cells = #[E2]) (h3 : E3.cells = #[E3]) (h4 : E4.cells = #[E4]) (h5 : E5.cells = #[E5]) (h6 : E6.cells = #[E6]) :
 (Instr.buildSlice 176 7 #[(0, E0), (1, E1), (2, E2), (3, E3), (4, E4), (5, E5), (6, E6)]).run Tryz.prog w = .ok (.slice (some ⟨w.heap.size, 0, none⟩) 7 7) (w.alloc (.cells #[E0, E1, E2, E3, E4, E5, E6] 76)) :=
 build_errs 7 _ _ w (by decide) (by decide) (by
  rw [show (Array.range (7 * 1)).map (Value.nilIface.cells[· % Value.nilIface.cells.size]!) = #[.nilIface, .nilIface, .nilIface, .nilIface, .nilIface, .nilIface, .nilIface] from by kernel_rfl]
  simp [Instr.fill, h0, h1, h2, h3, h4, h5, h6])
theorem row_made {K : World → Nat → Prop} {w : World} (Es : List Value) (ys : List Say) (n : Nat) (hn : ys.length = n) (hK : K (w.alloc (.cells Es.toArray 76)) w.heap.size)
 (hd : ∀ b, K w b → b < w.heap.size → K (w.alloc (.cells Es.toArray 76)) b ∧ (w.alloc (.cells Es.toArray 76)).heap[b]? = w.heap[b]?) (h : AllSays (K w) w Es ys) : RowK K ys (.slice (some ⟨w.heap.size, 0, none⟩) n n) (w.alloc (.cells Es.toArray 76)) := by
 subst hn
 refine ⟨w.heap.size, Es, rfl, by simp, hK, h.keep hd, fun k E hk => ?_⟩
 simp only [World.cell?, heap_alloc_new]
 simpa using hk
theorem row_first {K : World → Nat → Prop} {w : World} {ys : List Say} {v : Value} (h : RowK K ys v w) (hn : ys.length ≤ 1000) :
 Calls Tryz.prog 81 #[v] w fun e w' => ∃ E, e = .returned E ∧ SaysK K (firstV ys) E w' ∧ Below w.heap.size w w' := by
 obtain ⟨g, Es, rfl, _, _, h1, h2⟩ := h
 have hl := h1.length
 rw [← hl]
 refine (Err.first_any Es (some ⟨g, 0, none⟩) Es.length w ?_ ?_ (by omega)).mono ?_
 · intro k E hk
   have hlt := (List.getElem?_eq_some_iff.1 hk).1
   exact (h1.at k E ys[k] hk (List.getElem?_eq_getElem (by omega))).form
 · intro k E hk
   refine ⟨_, rfl, ?_⟩
   rw [Addr.add_lit, Nat.zero_add]
   exact h2 k E hk
 · rintro e w' ⟨rfl, rfl⟩
   exact ⟨_, rfl, first_says hl h1.at, Below.refl _ _⟩
theorem text_made {K : World → Nat → Prop} {w : World} (s : ByteArray) (hK : K (w.alloc (.cells #[.string s] 9)) w.heap.size) : TextK K s (.slice (some ⟨w.heap.size, 0, none⟩) 1 1) (w.alloc (.cells #[.string s] 9)) :=
 ⟨w.heap.size, rfl, hK, by simp⟩
def KB (B : Nat) (_ : World) (b : Nat) : Prop := B ≤ b
theorem kb_keep {B : Nat} {w w' : World} (hb : Below w.heap.size w w') : ∀ b, KB B w b → b < w.heap.size → KB B w' b ∧ w'.heap[b]? = w.heap[b]? := fun b h hl => ⟨h, hb.block b hl⟩
theorem kb_tells {B : Nat} {y : Say} {w w' : World} {E : Value} (hB : B ≤ w.heap.size) (h : Says (fun b => w.heap.size ≤ b) w' E y) : SaysK (KB B) y E w' := Says.keep h fun _ hb _ => ⟨Nat.le_trans hB hb, rfl⟩
def KO (g : Nat) (w : World) (b : Nat) : Prop := Ok g w ∧ Off g w b
theorem ko_keep {g : Nat} {w w' : World} (hA : Av g w w') : ∀ b, KO g w b → b < w.heap.size → KO g w' b ∧ w'.heap[b]? = w.heap[b]? := fun b h _ =>
 ⟨⟨(hA.ok h.1).1, ((hA.ok h.1).2 b h.2).1⟩, ((hA.ok h.1).2 b h.2).2⟩
theorem ko_new {g : Nat} {w w' : World} (hok : Ok g w) (hb : Below w.heap.size w w') {b : Nat} (h1 : w.heap.size ≤ b) (h2 : b < w'.heap.size) : KO g w' b := ⟨((Av.of_any hb).ok hok).1, hok.fresh hb h1 h2⟩
theorem ko_tells {g : Nat} {y : Say} {w w' : World} {E : Value} (hok : Ok g w) (hb : Below w.heap.size w w') (h : Says (fun b => w.heap.size ≤ b) w' E y) : SaysK (KO g) y E w' := Says.keep h fun _ h1 h2 => ⟨ko_new hok hb h1 h2, rfl⟩
def Freq (B : Nat) (x0 x1 x2 : Int) : Nat → Value → World → Prop
 | 0 => fun v _ => v = .pointer (some ⟨B, 0, none⟩)
 | 1 => fun v _ => v = .int .i64 x0
 | 2 => SaysK (KB B) (withinV x0 0 big (t_req ++ t_cpu))
 | 3 => fun v _ => v = .pointer (some ⟨B, 1, none⟩)
 | 4 => fun v _ => v = .int .i64 x1
 | 5 => SaysK (KB B) (withinV x1 0 big (t_req ++ t_mem))
 | 6 => fun v _ => v = .pointer (some ⟨B, 2, none⟩)
 | 7 => fun v _ => v = .int .i64 x2
 | 8 => SaysK (KB B) (withinV x2 0 big (t_req ++ t_pids))
 | 9 => RowK (KB B) [withinV x0 0 big (t_req ++ t_cpu), withinV x1 0 big (t_req ++ t_mem), withinV x2 0 big (t_req ++ t_pids)]
 | 10 => SaysK (KB B) (firstV [withinV x0 0 big (t_req ++ t_cpu), withinV x1 0 big (t_req ++ t_mem), withinV x2 0 big (t_req ++ t_pids)])
 | _ => SaysK (KB B) (firstV [withinV x0 0 big (t_req ++ t_cpu), withinV x1 0 big (t_req ++ t_mem), withinV x2 0 big (t_req ++ t_pids)])
theorem Freq_keep (B : Nat) (x0 x1 x2 : Int) (i : Nat) (v : Value) (w w' : World) (h : Freq B x0 x1 x2 i v w) (hb : Below w.heap.size w w') : Freq B x0 x1 x2 i v w' := by
 unfold Freq at h ⊢
 split at h <;> first | exact h | exact TextK.keep h (kb_keep hb) | exact SaysK.keep h (kb_keep hb) | exact RowK.keep h (kb_keep hb)
set_option maxHeartbeats 2000000 in
theorem req_any (x0 x1 x2 : Int) (w : World) : Calls Tryz.prog 196 #[.agg #[.int .i64 x0, .int .i64 x1, .int .i64 x2]] w (Tells (reqN x0 x1 x2) w) := by
 go_enter Tryz.func196, Tryz.ntmps196
 go_wp2
 have HB0 : w.heap.size ≤ (w.alloc (.cells #[.int .i64 x0, .int .i64 x1, .int .i64 x2] 70)).heap.size := by simp <;> omega
 refine Loose.wp_region_walk (by kernel_rfl) (by kernel_rfl) (Freq w.heap.size x0 x1 x2) (Freq_keep w.heap.size x0 x1 x2) ?_ ?_
 · refine ⟨?_, ?_, ?_, ?_, ?_, ?_, ?_, ?_, ?_, ?_, ?_, ?_, trivial⟩
   · intro a w1 hfr hdep
     have f0 : a.tmps.getD 1 undef = .pointer (some ⟨w.heap.size, 0, none⟩) := hfr.slot 1 (by kernel_rfl)
     refine Loose.Step.value rfl (v := .pointer (some ⟨w.heap.size, 0, none⟩)) (w' := w1) ?_ rfl (Below.refl _ _)
     simp [go_sem, Act.eval, f0]
   · intro a w1 hfr hdep
     have e0 : a.tmps.getD 3 undef = .pointer (some ⟨w.heap.size, 0, none⟩) := Loose.dep_of hdep 0 3 (by kernel_rfl)
     have hc : w1.cell? ⟨w.heap.size, 0, none⟩ = some (.int .i64 x0) := (hfr.below.cell (by simp <;> omega)).trans (by simp)
     refine Loose.Step.value rfl (v := .int .i64 x0) (w' := w1) ?_ rfl (Below.refl _ _)
     simp [go_sem, Act.eval, e0, hc]
   · intro a w1 hfr hdep
     have e0 : a.tmps.getD 4 undef = .int .i64 x0 := Loose.dep_of hdep 1 4 (by kernel_rfl)
     refine Loose.Step.call rfl (f := 134) (args := #[.int .i64 x0, .int .i64 0, .int .i64 1099511627776, .string ⟨#[114, 101, 113, 46, 99, 112, 117]⟩]) ?_ ?_
     · simp [go_sem, Act.eval, e0]
     · have HSZ : w.heap.size ≤ w1.heap.size := Nat.le_trans HB0 hfr.below.size
       refine (within_any x0 0 big (t_req ++ t_cpu) (by decide) w1).mono ?_
       rintro e w2 ⟨E, rfl, hE, hb⟩
       exact ⟨E, rfl, kb_tells HSZ hE, hb⟩
   · intro a w1 hfr hdep
     have f0 : a.tmps.getD 1 undef = .pointer (some ⟨w.heap.size, 0, none⟩) := hfr.slot 1 (by kernel_rfl)
     refine Loose.Step.value rfl (v := .pointer (some ⟨w.heap.size, 1, none⟩)) (w' := w1) ?_ rfl (Below.refl _ _)
     simp [go_sem, Act.eval, f0]
   · intro a w1 hfr hdep
     have e0 : a.tmps.getD 6 undef = .pointer (some ⟨w.heap.size, 1, none⟩) := Loose.dep_of hdep 3 6 (by kernel_rfl)
     have hc : w1.cell? ⟨w.heap.size, 1, none⟩ = some (.int .i64 x1) := (hfr.below.cell (by simp <;> omega)).trans (by simp)
     refine Loose.Step.value rfl (v := .int .i64 x1) (w' := w1) ?_ rfl (Below.refl _ _)
     simp [go_sem, Act.eval, e0, hc]
   · intro a w1 hfr hdep
     have e0 : a.tmps.getD 7 undef = .int .i64 x1 := Loose.dep_of hdep 4 7 (by kernel_rfl)
     refine Loose.Step.call rfl (f := 134) (args := #[.int .i64 x1, .int .i64 0, .int .i64 1099511627776, .string ⟨#[114, 101, 113, 46, 109, 101, 109]⟩]) ?_ ?_
     · simp [go_sem, Act.eval, e0]
     · have HSZ : w.heap.size ≤ w1.heap.size := Nat.le_trans HB0 hfr.below.size
       refine (within_any x1 0 big (t_req ++ t_mem) (by decide) w1).mono ?_
       rintro e w2 ⟨E, rfl, hE, hb⟩
       exact ⟨E, rfl, kb_tells HSZ hE, hb⟩
   · intro a w1 hfr hdep
     have f0 : a.tmps.getD 1 undef = .pointer (some ⟨w.heap.size, 0, none⟩) := hfr.slot 1 (by kernel_rfl)
     refine Loose.Step.value rfl (v := .pointer (some ⟨w.heap.size, 2, none⟩)) (w' := w1) ?_ rfl (Below.refl _ _)
     simp [go_sem, Act.eval, f0]
   · intro a w1 hfr hdep
     have e0 : a.tmps.getD 9 undef = .pointer (some ⟨w.heap.size, 2, none⟩) := Loose.dep_of hdep 6 9 (by kernel_rfl)
     have hc : w1.cell? ⟨w.heap.size, 2, none⟩ = some (.int .i64 x2) := (hfr.below.cell (by simp <;> omega)).trans (by simp)
     refine Loose.Step.value rfl (v := .int .i64 x2) (w' := w1) ?_ rfl (Below.refl _ _)
     simp [go_sem, Act.eval, e0, hc]
   · intro a w1 hfr hdep
     have e0 : a.tmps.getD 10 undef = .int .i64 x2 := Loose.dep_of hdep 7 10 (by kernel_rfl)
     refine Loose.Step.call rfl (f := 134) (args := #[.int .i64 x2, .int .i64 0, .int .i64 1099511627776, .string ⟨#[114, 101, 113, 46, 112, 105, 100, 115]⟩]) ?_ ?_
     · simp [go_sem, Act.eval, e0]
     · have HSZ : w.heap.size ≤ w1.heap.size := Nat.le_trans HB0 hfr.below.size
       refine (within_any x2 0 big (t_req ++ t_pids) (by decide) w1).mono ?_
       rintro e w2 ⟨E, rfl, hE, hb⟩
       exact ⟨E, rfl, kb_tells HSZ hE, hb⟩
   · intro a w1 hfr hdep
     have h0 : SaysK (KB w.heap.size) (withinV x0 0 big (t_req ++ t_cpu)) (a.tmps.getD 5 undef) w1 := Loose.dep_of hdep 2 5 (by kernel_rfl)
     have h1 : SaysK (KB w.heap.size) (withinV x1 0 big (t_req ++ t_mem)) (a.tmps.getD 8 undef) w1 := Loose.dep_of hdep 5 8 (by kernel_rfl)
     have h2 : SaysK (KB w.heap.size) (withinV x2 0 big (t_req ++ t_pids)) (a.tmps.getD 11 undef) w1 := Loose.dep_of hdep 8 11 (by kernel_rfl)
     have r := build3 (a.tmps.getD 5 undef) (a.tmps.getD 8 undef) (a.tmps.getD 11 undef) w1 (cells_form (Says.form h0)) (cells_form (Says.form h1)) (cells_form (Says.form h2))
     have hb : Below w1.heap.size w1 (w1.alloc (.cells #[a.tmps.getD 5 undef, a.tmps.getD 8 undef, a.tmps.getD 11 undef] 76)) := (Below.refl _ _).alloc (Nat.le_refl _) _
     refine Loose.Step.value rfl (v := .slice (some ⟨w1.heap.size, 0, none⟩) 3 3) (w' := w1.alloc (.cells #[a.tmps.getD 5 undef, a.tmps.getD 8 undef, a.tmps.getD 11 undef] 76)) ?_ (row_made [a.tmps.getD 5 undef, a.tmps.getD 8 undef, a.tmps.getD 11 undef] _ 3 rfl (Nat.le_trans HB0 hfr.below.size) (kb_keep hb) ⟨h0, h1, h2, trivial⟩) hb
     clear hb h0 h1 h2 hdep
     simp only [Array.getD_eq_getD_getElem?] at r
     simp [execOp, Act.eval, r]
   · intro a w1 hfr hdep
     have h0 : RowK (KB w.heap.size) [withinV x0 0 big (t_req ++ t_cpu), withinV x1 0 big (t_req ++ t_mem), withinV x2 0 big (t_req ++ t_pids)] (a.tmps.getD 12 undef) w1 := Loose.dep_of hdep 9 12 (by kernel_rfl)
     refine Loose.Step.call rfl (f := 81) (args := #[a.tmps.getD 12 undef]) ?_ (row_first h0 (by simp))
     simp [go_sem, Act.eval]
   · intro a w1 hfr hdep
     have h0 : SaysK (KB w.heap.size) (firstV [withinV x0 0 big (t_req ++ t_cpu), withinV x1 0 big (t_req ++ t_mem), withinV x2 0 big (t_req ++ t_pids)]) (a.tmps.getD 13 undef) w1 := Loose.dep_of hdep 10 13 (by kernel_rfl)
     refine Loose.Step.value rfl (v := a.tmps.getD 13 undef) (w' := w1) ?_ h0 (Below.refl _ _)
     simp [go_sem, Act.eval]
 · intro v0 v1 v2 v3 v4 v5 v6 v7 v8 v9 v10 v11 w1 hb hC
   have hE : SaysK (KB w.heap.size) (reqN x0 x1 x2) v11 w1 := hC.2
   clear hC
   have HE := hid hE
   have HB := hid (Below.trans ((Below.refl w.heap.size w).alloc (Nat.le_refl _) _) (hb.mono HB0)); clear hE hb HB0; simp only [put_lit, List.set_cons_succ, List.set_cons_zero]; go_wp2_with fail
   go_ret
   exact ⟨_, rfl, HE.out, HB.out⟩
def Flim (B : Nat) (x0 x1 x2 y0 y1 y2 : Int) : Nat → Value → World → Prop
 | 0 => fun v _ => v = .pointer (some ⟨B, 0, none⟩)
 | 1 => fun v _ => v = .int .i64 x0
 | 2 => fun v _ => v = .pointer (some ⟨B + 1, 0, none⟩)
 | 3 => fun v _ => v = .int .i64 y0
 | 4 => SaysK (KB B) (limitV x0 y0 (t_lim ++ t_cpu))
 | 5 => fun v _ => v = .pointer (some ⟨B, 1, none⟩)
 | 6 => fun v _ => v = .int .i64 x1
 | 7 => fun v _ => v = .pointer (some ⟨B + 1, 1, none⟩)
 | 8 => fun v _ => v = .int .i64 y1
 | 9 => SaysK (KB B) (limitV x1 y1 (t_lim ++ t_mem))
 | 10 => fun v _ => v = .pointer (some ⟨B, 2, none⟩)
 | 11 => fun v _ => v = .int .i64 x2
 | 12 => fun v _ => v = .pointer (some ⟨B + 1, 2, none⟩)
 | 13 => fun v _ => v = .int .i64 y2
 | 14 => SaysK (KB B) (limitV x2 y2 (t_lim ++ t_pids))
 | 15 => RowK (KB B) [limitV x0 y0 (t_lim ++ t_cpu), limitV x1 y1 (t_lim ++ t_mem), limitV x2 y2 (t_lim ++ t_pids)]
 | 16 => SaysK (KB B) (firstV [limitV x0 y0 (t_lim ++ t_cpu), limitV x1 y1 (t_lim ++ t_mem), limitV x2 y2 (t_lim ++ t_pids)])
 | _ => SaysK (KB B) (firstV [limitV x0 y0 (t_lim ++ t_cpu), limitV x1 y1 (t_lim ++ t_mem), limitV x2 y2 (t_lim ++ t_pids)])
theorem Flim_keep (B : Nat) (x0 x1 x2 y0 y1 y2 : Int) (i : Nat) (v : Value) (w w' : World) (h : Flim B x0 x1 x2 y0 y1 y2 i v w) (hb : Below w.heap.size w w') : Flim B x0 x1 x2 y0 y1 y2 i v w' := by
 unfold Flim at h ⊢
 split at h <;> first | exact h | exact TextK.keep h (kb_keep hb) | exact SaysK.keep h (kb_keep hb) | exact RowK.keep h (kb_keep hb)
set_option maxHeartbeats 2000000 in
theorem lim_any (x0 x1 x2 y0 y1 y2 : Int) (w : World) : Calls Tryz.prog 197 #[.agg #[.int .i64 x0, .int .i64 x1, .int .i64 x2], .agg #[.int .i64 y0, .int .i64 y1, .int .i64 y2]] w (Tells (limN x0 x1 x2 y0 y1 y2) w) := by
 go_enter Tryz.func197, Tryz.ntmps197
 go_wp2
 have HB0 : w.heap.size ≤ ((w.alloc (.cells #[.int .i64 x0, .int .i64 x1, .int .i64 x2] 70)).alloc (.cells #[.int .i64 y0, .int .i64 y1, .int .i64 y2] 70)).heap.size := by simp <;> omega
 refine Loose.wp_region_walk (by kernel_rfl) (by kernel_rfl) (Flim w.heap.size x0 x1 x2 y0 y1 y2) (Flim_keep w.heap.size x0 x1 x2 y0 y1 y2) ?_ ?_
 · refine ⟨?_, ?_, ?_, ?_, ?_, ?_, ?_, ?_, ?_, ?_, ?_, ?_, ?_, ?_, ?_, ?_, ?_, ?_, trivial⟩
   · intro a w1 hfr hdep
     have f0 : a.tmps.getD 2 undef = .pointer (some ⟨w.heap.size, 0, none⟩) := hfr.slot 2 (by kernel_rfl)
     refine Loose.Step.value rfl (v := .pointer (some ⟨w.heap.size, 0, none⟩)) (w' := w1) ?_ rfl (Below.refl _ _)
     simp [go_sem, Act.eval, f0]
   · intro a w1 hfr hdep
     have e0 : a.tmps.getD 5 undef = .pointer (some ⟨w.heap.size, 0, none⟩) := Loose.dep_of hdep 0 5 (by kernel_rfl)
     have hc : w1.cell? ⟨w.heap.size, 0, none⟩ = some (.int .i64 x0) := (hfr.below.cell (by simp <;> omega)).trans (by simp)
     refine Loose.Step.value rfl (v := .int .i64 x0) (w' := w1) ?_ rfl (Below.refl _ _)
     simp [go_sem, Act.eval, e0, hc]
   · intro a w1 hfr hdep
     have f0 : a.tmps.getD 3 undef = .pointer (some ⟨w.heap.size + 1, 0, none⟩) := hfr.slot 3 (by kernel_rfl)
     refine Loose.Step.value rfl (v := .pointer (some ⟨w.heap.size + 1, 0, none⟩)) (w' := w1) ?_ rfl (Below.refl _ _)
     simp [go_sem, Act.eval, f0]
   · intro a w1 hfr hdep
     have e0 : a.tmps.getD 7 undef = .pointer (some ⟨w.heap.size + 1, 0, none⟩) := Loose.dep_of hdep 2 7 (by kernel_rfl)
     have hc : w1.cell? ⟨w.heap.size + 1, 0, none⟩ = some (.int .i64 y0) := (hfr.below.cell (by simp <;> omega)).trans (by simp)
     refine Loose.Step.value rfl (v := .int .i64 y0) (w' := w1) ?_ rfl (Below.refl _ _)
     simp [go_sem, Act.eval, e0, hc]
   · intro a w1 hfr hdep
     have e0 : a.tmps.getD 6 undef = .int .i64 x0 := Loose.dep_of hdep 1 6 (by kernel_rfl)
     have e1 : a.tmps.getD 8 undef = .int .i64 y0 := Loose.dep_of hdep 3 8 (by kernel_rfl)
     refine Loose.Step.call rfl (f := 221) (args := #[.int .i64 x0, .int .i64 y0, .string ⟨#[108, 105, 109, 46, 99, 112, 117]⟩]) ?_ ?_
     · simp [go_sem, Act.eval, e0, e1]
     · have HSZ : w.heap.size ≤ w1.heap.size := Nat.le_trans HB0 hfr.below.size
       refine (limit_any x0 y0 (t_lim ++ t_cpu) (by decide) w1).mono ?_
       rintro e w2 ⟨E, rfl, hE, hb⟩
       exact ⟨E, rfl, kb_tells HSZ hE, hb⟩
   · intro a w1 hfr hdep
     have f0 : a.tmps.getD 2 undef = .pointer (some ⟨w.heap.size, 0, none⟩) := hfr.slot 2 (by kernel_rfl)
     refine Loose.Step.value rfl (v := .pointer (some ⟨w.heap.size, 1, none⟩)) (w' := w1) ?_ rfl (Below.refl _ _)
     simp [go_sem, Act.eval, f0]
   · intro a w1 hfr hdep
     have e0 : a.tmps.getD 10 undef = .pointer (some ⟨w.heap.size, 1, none⟩) := Loose.dep_of hdep 5 10 (by kernel_rfl)
     have hc : w1.cell? ⟨w.heap.size, 1, none⟩ = some (.int .i64 x1) := (hfr.below.cell (by simp <;> omega)).trans (by simp)
     refine Loose.Step.value rfl (v := .int .i64 x1) (w' := w1) ?_ rfl (Below.refl _ _)
     simp [go_sem, Act.eval, e0, hc]
   · intro a w1 hfr hdep
     have f0 : a.tmps.getD 3 undef = .pointer (some ⟨w.heap.size + 1, 0, none⟩) := hfr.slot 3 (by kernel_rfl)
     refine Loose.Step.value rfl (v := .pointer (some ⟨w.heap.size + 1, 1, none⟩)) (w' := w1) ?_ rfl (Below.refl _ _)
     simp [go_sem, Act.eval, f0]
   · intro a w1 hfr hdep
     have e0 : a.tmps.getD 12 undef = .pointer (some ⟨w.heap.size + 1, 1, none⟩) := Loose.dep_of hdep 7 12 (by kernel_rfl)
     have hc : w1.cell? ⟨w.heap.size + 1, 1, none⟩ = some (.int .i64 y1) := (hfr.below.cell (by simp <;> omega)).trans (by simp)
     refine Loose.Step.value rfl (v := .int .i64 y1) (w' := w1) ?_ rfl (Below.refl _ _)
     simp [go_sem, Act.eval, e0, hc]
   · intro a w1 hfr hdep
     have e0 : a.tmps.getD 11 undef = .int .i64 x1 := Loose.dep_of hdep 6 11 (by kernel_rfl)
     have e1 : a.tmps.getD 13 undef = .int .i64 y1 := Loose.dep_of hdep 8 13 (by kernel_rfl)
     refine Loose.Step.call rfl (f := 221) (args := #[.int .i64 x1, .int .i64 y1, .string ⟨#[108, 105, 109, 46, 109, 101, 109]⟩]) ?_ ?_
     · simp [go_sem, Act.eval, e0, e1]
     · have HSZ : w.heap.size ≤ w1.heap.size := Nat.le_trans HB0 hfr.below.size
       refine (limit_any x1 y1 (t_lim ++ t_mem) (by decide) w1).mono ?_
       rintro e w2 ⟨E, rfl, hE, hb⟩
       exact ⟨E, rfl, kb_tells HSZ hE, hb⟩
   · intro a w1 hfr hdep
     have f0 : a.tmps.getD 2 undef = .pointer (some ⟨w.heap.size, 0, none⟩) := hfr.slot 2 (by kernel_rfl)
     refine Loose.Step.value rfl (v := .pointer (some ⟨w.heap.size, 2, none⟩)) (w' := w1) ?_ rfl (Below.refl _ _)
     simp [go_sem, Act.eval, f0]
   · intro a w1 hfr hdep
     have e0 : a.tmps.getD 15 undef = .pointer (some ⟨w.heap.size, 2, none⟩) := Loose.dep_of hdep 10 15 (by kernel_rfl)
     have hc : w1.cell? ⟨w.heap.size, 2, none⟩ = some (.int .i64 x2) := (hfr.below.cell (by simp <;> omega)).trans (by simp)
     refine Loose.Step.value rfl (v := .int .i64 x2) (w' := w1) ?_ rfl (Below.refl _ _)
     simp [go_sem, Act.eval, e0, hc]
   · intro a w1 hfr hdep
     have f0 : a.tmps.getD 3 undef = .pointer (some ⟨w.heap.size + 1, 0, none⟩) := hfr.slot 3 (by kernel_rfl)
     refine Loose.Step.value rfl (v := .pointer (some ⟨w.heap.size + 1, 2, none⟩)) (w' := w1) ?_ rfl (Below.refl _ _)
     simp [go_sem, Act.eval, f0]
   · intro a w1 hfr hdep
     have e0 : a.tmps.getD 17 undef = .pointer (some ⟨w.heap.size + 1, 2, none⟩) := Loose.dep_of hdep 12 17 (by kernel_rfl)
     have hc : w1.cell? ⟨w.heap.size + 1, 2, none⟩ = some (.int .i64 y2) := (hfr.below.cell (by simp <;> omega)).trans (by simp)
     refine Loose.Step.value rfl (v := .int .i64 y2) (w' := w1) ?_ rfl (Below.refl _ _)
     simp [go_sem, Act.eval, e0, hc]
   · intro a w1 hfr hdep
     have e0 : a.tmps.getD 16 undef = .int .i64 x2 := Loose.dep_of hdep 11 16 (by kernel_rfl)
     have e1 : a.tmps.getD 18 undef = .int .i64 y2 := Loose.dep_of hdep 13 18 (by kernel_rfl)
     refine Loose.Step.call rfl (f := 221) (args := #[.int .i64 x2, .int .i64 y2, .string ⟨#[108, 105, 109, 46, 112, 105, 100, 115]⟩]) ?_ ?_
     · simp [go_sem, Act.eval, e0, e1]
     · have HSZ : w.heap.size ≤ w1.heap.size := Nat.le_trans HB0 hfr.below.size
       refine (limit_any x2 y2 (t_lim ++ t_pids) (by decide) w1).mono ?_
       rintro e w2 ⟨E, rfl, hE, hb⟩
       exact ⟨E, rfl, kb_tells HSZ hE, hb⟩
   · intro a w1 hfr hdep
     have h0 : SaysK (KB w.heap.size) (limitV x0 y0 (t_lim ++ t_cpu)) (a.tmps.getD 9 undef) w1 := Loose.dep_of hdep 4 9 (by kernel_rfl)
     have h1 : SaysK (KB w.heap.size) (limitV x1 y1 (t_lim ++ t_mem)) (a.tmps.getD 14 undef) w1 := Loose.dep_of hdep 9 14 (by kernel_rfl)
     have h2 : SaysK (KB w.heap.size) (limitV x2 y2 (t_lim ++ t_pids)) (a.tmps.getD 19 undef) w1 := Loose.dep_of hdep 14 19 (by kernel_rfl)
     have r := build3 (a.tmps.getD 9 undef) (a.tmps.getD 14 undef) (a.tmps.getD 19 undef) w1 (cells_form (Says.form h0)) (cells_form (Says.form h1)) (cells_form (Says.form h2))
     have hb : Below w1.heap.size w1 (w1.alloc (.cells #[a.tmps.getD 9 undef, a.tmps.getD 14 undef, a.tmps.getD 19 undef] 76)) := (Below.refl _ _).alloc (Nat.le_refl _) _
     refine Loose.Step.value rfl (v := .slice (some ⟨w1.heap.size, 0, none⟩) 3 3) (w' := w1.alloc (.cells #[a.tmps.getD 9 undef, a.tmps.getD 14 undef, a.tmps.getD 19 undef] 76)) ?_ (row_made [a.tmps.getD 9 undef, a.tmps.getD 14 undef, a.tmps.getD 19 undef] _ 3 rfl (Nat.le_trans HB0 hfr.below.size) (kb_keep hb) ⟨h0, h1, h2, trivial⟩) hb
     clear hb h0 h1 h2 hdep
     simp only [Array.getD_eq_getD_getElem?] at r
     simp [execOp, Act.eval, r]
   · intro a w1 hfr hdep
     have h0 : RowK (KB w.heap.size) [limitV x0 y0 (t_lim ++ t_cpu), limitV x1 y1 (t_lim ++ t_mem), limitV x2 y2 (t_lim ++ t_pids)] (a.tmps.getD 20 undef) w1 := Loose.dep_of hdep 15 20 (by kernel_rfl)
     refine Loose.Step.call rfl (f := 81) (args := #[a.tmps.getD 20 undef]) ?_ (row_first h0 (by simp))
     simp [go_sem, Act.eval]
   · intro a w1 hfr hdep
     have h0 : SaysK (KB w.heap.size) (firstV [limitV x0 y0 (t_lim ++ t_cpu), limitV x1 y1 (t_lim ++ t_mem), limitV x2 y2 (t_lim ++ t_pids)]) (a.tmps.getD 21 undef) w1 := Loose.dep_of hdep 16 21 (by kernel_rfl)
     refine Loose.Step.value rfl (v := a.tmps.getD 21 undef) (w' := w1) ?_ h0 (Below.refl _ _)
     simp [go_sem, Act.eval]
 · intro v0 v1 v2 v3 v4 v5 v6 v7 v8 v9 v10 v11 v12 v13 v14 v15 v16 v17 w1 hb hC
   have hE : SaysK (KB w.heap.size) (limN x0 x1 x2 y0 y1 y2) v17 w1 := hC.2
   clear hC
   have HE := hid hE
   have HB := hid (Below.trans (((Below.refl w.heap.size w).alloc (Nat.le_refl _) _).alloc (by simp) _) (hb.mono HB0)); clear hE hb HB0; simp only [put_lit, List.set_cons_succ, List.set_cons_zero]; go_wp2_with fail
   go_ret
   exact ⟨_, rfl, HE.out, HB.out⟩
def Fprobe0 (B : Nat) (fl every : Int) : Nat → Value → World → Prop
 | 0 => fun v _ => v = .pointer (some ⟨B, 0, none⟩)
 | 1 => fun v _ => v = .int .i64 0
 | 2 => fun v _ => v = .int .i64 every
 | 3 => SaysK (KB B) (withinV 0 0 every t_every)
 | 4 => fun v _ => v = .pointer (some ⟨B, 1, none⟩)
 | 5 => fun v _ => v = .int .i64 fl
 | 6 => fun v _ => v = .int .i64 0
 | 7 => fun v _ => v = .int .i64 0
 | 8 => SaysK (KB B) (withinV fl 0 0 t_fails)
 | 9 => RowK (KB B) [withinV 0 0 every t_every, withinV fl 0 0 t_fails]
 | 10 => SaysK (KB B) (firstV [withinV 0 0 every t_every, withinV fl 0 0 t_fails])
 | _ => SaysK (KB B) (firstV [withinV 0 0 every t_every, withinV fl 0 0 t_fails])
theorem Fprobe0_keep (B : Nat) (fl every : Int) (i : Nat) (v : Value) (w w' : World) (h : Fprobe0 B fl every i v w) (hb : Below w.heap.size w w') : Fprobe0 B fl every i v w' := by
 unfold Fprobe0 at h ⊢
 split at h <;> first | exact h | exact TextK.keep h (kb_keep hb) | exact SaysK.keep h (kb_keep hb) | exact RowK.keep h (kb_keep hb)
set_option maxHeartbeats 2000000 in
theorem probe0_any (fl every : Int) (w : World) : Calls Tryz.prog 199 #[.agg #[.int .i64 0, .int .i64 fl], .int .i64 every] w (Tells (firstV [withinV 0 0 every t_every, withinV fl 0 0 t_fails]) w) := by
 go_enter Tryz.func199, Tryz.ntmps199
 go_wp2
 have HB0 : w.heap.size ≤ (w.alloc (.cells #[.int .i64 0, .int .i64 fl] 72)).heap.size := by simp <;> omega
 refine Loose.wp_region_walk (by kernel_rfl) (by kernel_rfl) (Fprobe0 w.heap.size fl every) (Fprobe0_keep w.heap.size fl every) ?_ ?_
 · refine ⟨?_, ?_, ?_, ?_, ?_, ?_, ?_, ?_, ?_, ?_, ?_, ?_, trivial⟩
   · intro a w1 hfr hdep
     have f0 : a.tmps.getD 2 undef = .pointer (some ⟨w.heap.size, 0, none⟩) := hfr.slot 2 (by kernel_rfl)
     refine Loose.Step.value rfl (v := .pointer (some ⟨w.heap.size, 0, none⟩)) (w' := w1) ?_ rfl (Below.refl _ _)
     simp [go_sem, Act.eval, f0]
   · intro a w1 hfr hdep
     have e0 : a.tmps.getD 10 undef = .pointer (some ⟨w.heap.size, 0, none⟩) := Loose.dep_of hdep 0 10 (by kernel_rfl)
     have hc : w1.cell? ⟨w.heap.size, 0, none⟩ = some (.int .i64 0) := (hfr.below.cell (by simp <;> omega)).trans (by simp)
     refine Loose.Step.value rfl (v := .int .i64 0) (w' := w1) ?_ rfl (Below.refl _ _)
     simp [go_sem, Act.eval, e0, hc]
   · intro a w1 hfr hdep
     have f0 : a.tmps.getD 1 undef = .int .i64 every := hfr.slot 1 (by kernel_rfl)
     refine Loose.Step.value rfl (v := .int .i64 every) (w' := w1) ?_ rfl (Below.refl _ _)
     simp [go_sem, Act.eval, f0]
   · intro a w1 hfr hdep
     have e0 : a.tmps.getD 11 undef = .int .i64 0 := Loose.dep_of hdep 1 11 (by kernel_rfl)
     have e1 : a.tmps.getD 12 undef = .int .i64 every := Loose.dep_of hdep 2 12 (by kernel_rfl)
     refine Loose.Step.call rfl (f := 134) (args := #[.int .i64 0, .int .i64 0, .int .i64 every, .string ⟨#[112, 114, 111, 98, 101, 46, 101, 118, 101, 114, 121]⟩]) ?_ ?_
     · simp [go_sem, Act.eval, e0, e1]
     · have HSZ : w.heap.size ≤ w1.heap.size := Nat.le_trans HB0 hfr.below.size
       refine (within_any 0 0 every t_every (by decide) w1).mono ?_
       rintro e w2 ⟨E, rfl, hE, hb⟩
       exact ⟨E, rfl, kb_tells HSZ hE, hb⟩
   · intro a w1 hfr hdep
     have f0 : a.tmps.getD 2 undef = .pointer (some ⟨w.heap.size, 0, none⟩) := hfr.slot 2 (by kernel_rfl)
     refine Loose.Step.value rfl (v := .pointer (some ⟨w.heap.size, 1, none⟩)) (w' := w1) ?_ rfl (Below.refl _ _)
     simp [go_sem, Act.eval, f0]
   · intro a w1 hfr hdep
     have e0 : a.tmps.getD 14 undef = .pointer (some ⟨w.heap.size, 1, none⟩) := Loose.dep_of hdep 4 14 (by kernel_rfl)
     have hc : w1.cell? ⟨w.heap.size, 1, none⟩ = some (.int .i64 fl) := (hfr.below.cell (by simp <;> omega)).trans (by simp)
     refine Loose.Step.value rfl (v := .int .i64 fl) (w' := w1) ?_ rfl (Below.refl _ _)
     simp [go_sem, Act.eval, e0, hc]
   · intro a w1 hfr hdep
     have f0 : a.tmps.getD 5 undef = .int .i64 0 := hfr.slot 5 (by kernel_rfl)
     refine Loose.Step.value rfl (v := .int .i64 0) (w' := w1) ?_ rfl (Below.refl _ _)
     simp [go_sem, Act.eval, f0]
   · intro a w1 hfr hdep
     have f0 : a.tmps.getD 6 undef = .int .i64 0 := hfr.slot 6 (by kernel_rfl)
     refine Loose.Step.value rfl (v := .int .i64 0) (w' := w1) ?_ rfl (Below.refl _ _)
     simp [go_sem, Act.eval, f0]
   · intro a w1 hfr hdep
     have e0 : a.tmps.getD 15 undef = .int .i64 fl := Loose.dep_of hdep 5 15 (by kernel_rfl)
     have e1 : a.tmps.getD 16 undef = .int .i64 0 := Loose.dep_of hdep 6 16 (by kernel_rfl)
     have e2 : a.tmps.getD 17 undef = .int .i64 0 := Loose.dep_of hdep 7 17 (by kernel_rfl)
     refine Loose.Step.call rfl (f := 134) (args := #[.int .i64 fl, .int .i64 0, .int .i64 0, .string ⟨#[112, 114, 111, 98, 101, 46, 102, 97, 105, 108, 115]⟩]) ?_ ?_
     · simp [go_sem, Act.eval, e0, e1, e2]
     · have HSZ : w.heap.size ≤ w1.heap.size := Nat.le_trans HB0 hfr.below.size
       refine (within_any fl 0 0 t_fails (by decide) w1).mono ?_
       rintro e w2 ⟨E, rfl, hE, hb⟩
       exact ⟨E, rfl, kb_tells HSZ hE, hb⟩
   · intro a w1 hfr hdep
     have h0 : SaysK (KB w.heap.size) (withinV 0 0 every t_every) (a.tmps.getD 13 undef) w1 := Loose.dep_of hdep 3 13 (by kernel_rfl)
     have h1 : SaysK (KB w.heap.size) (withinV fl 0 0 t_fails) (a.tmps.getD 18 undef) w1 := Loose.dep_of hdep 8 18 (by kernel_rfl)
     have r := build2 (a.tmps.getD 13 undef) (a.tmps.getD 18 undef) w1 (cells_form (Says.form h0)) (cells_form (Says.form h1))
     have hb : Below w1.heap.size w1 (w1.alloc (.cells #[a.tmps.getD 13 undef, a.tmps.getD 18 undef] 76)) := (Below.refl _ _).alloc (Nat.le_refl _) _
     refine Loose.Step.value rfl (v := .slice (some ⟨w1.heap.size, 0, none⟩) 2 2) (w' := w1.alloc (.cells #[a.tmps.getD 13 undef, a.tmps.getD 18 undef] 76)) ?_ (row_made [a.tmps.getD 13 undef, a.tmps.getD 18 undef] _ 2 rfl (Nat.le_trans HB0 hfr.below.size) (kb_keep hb) ⟨h0, h1, trivial⟩) hb
     clear hb h0 h1 hdep
     simp only [Array.getD_eq_getD_getElem?] at r
     simp [execOp, Act.eval, r]
   · intro a w1 hfr hdep
     have h0 : RowK (KB w.heap.size) [withinV 0 0 every t_every, withinV fl 0 0 t_fails] (a.tmps.getD 19 undef) w1 := Loose.dep_of hdep 9 19 (by kernel_rfl)
     refine Loose.Step.call rfl (f := 81) (args := #[a.tmps.getD 19 undef]) ?_ (row_first h0 (by simp))
     simp [go_sem, Act.eval]
   · intro a w1 hfr hdep
     have h0 : SaysK (KB w.heap.size) (firstV [withinV 0 0 every t_every, withinV fl 0 0 t_fails]) (a.tmps.getD 20 undef) w1 := Loose.dep_of hdep 10 20 (by kernel_rfl)
     refine Loose.Step.value rfl (v := a.tmps.getD 20 undef) (w' := w1) ?_ h0 (Below.refl _ _)
     simp [go_sem, Act.eval]
 · intro v0 v1 v2 v3 v4 v5 v6 v7 v8 v9 v10 v11 w1 hb hC
   have hE : SaysK (KB w.heap.size) (firstV [withinV 0 0 every t_every, withinV fl 0 0 t_fails]) v11 w1 := hC.2
   clear hC
   have HE := hid hE
   have HB := hid (Below.trans ((Below.refl w.heap.size w).alloc (Nat.le_refl _) _) (hb.mono HB0)); clear hE hb HB0; simp only [put_lit, List.set_cons_succ, List.set_cons_zero]; go_wp2_with fail
   go_ret
   exact ⟨_, rfl, HE.out, HB.out⟩
def Fprobe1 (B : Nat) (ev fl every : Int) : Nat → Value → World → Prop
 | 0 => fun v _ => v = .pointer (some ⟨B, 0, none⟩)
 | 1 => fun v _ => v = .int .i64 ev
 | 2 => fun v _ => v = .int .i64 every
 | 3 => SaysK (KB B) (withinV ev 0 every t_every)
 | 4 => fun v _ => v = .pointer (some ⟨B, 1, none⟩)
 | 5 => fun v _ => v = .int .i64 fl
 | 6 => fun v _ => v = .int .i64 1
 | 7 => fun v _ => v = .int .i64 10
 | 8 => SaysK (KB B) (withinV fl 1 10 t_fails)
 | 9 => RowK (KB B) [withinV ev 0 every t_every, withinV fl 1 10 t_fails]
 | 10 => SaysK (KB B) (firstV [withinV ev 0 every t_every, withinV fl 1 10 t_fails])
 | _ => SaysK (KB B) (firstV [withinV ev 0 every t_every, withinV fl 1 10 t_fails])
theorem Fprobe1_keep (B : Nat) (ev fl every : Int) (i : Nat) (v : Value) (w w' : World) (h : Fprobe1 B ev fl every i v w) (hb : Below w.heap.size w w') : Fprobe1 B ev fl every i v w' := by
 unfold Fprobe1 at h ⊢
 split at h <;> first | exact h | exact TextK.keep h (kb_keep hb) | exact SaysK.keep h (kb_keep hb) | exact RowK.keep h (kb_keep hb)
set_option maxHeartbeats 2000000 in
theorem probe1_any (ev fl every : Int) (h0 : (ev == 0) = false) (w : World) : Calls Tryz.prog 199 #[.agg #[.int .i64 ev, .int .i64 fl], .int .i64 every] w (Tells (firstV [withinV ev 0 every t_every, withinV fl 1 10 t_fails]) w) := by
 go_enter Tryz.func199, Tryz.ntmps199
 go_wp2
 have HB0 : w.heap.size ≤ (w.alloc (.cells #[.int .i64 ev, .int .i64 fl] 72)).heap.size := by simp <;> omega
 refine Loose.wp_region_walk (by kernel_rfl) (by kernel_rfl) (Fprobe1 w.heap.size ev fl every) (Fprobe1_keep w.heap.size ev fl every) ?_ ?_
 · refine ⟨?_, ?_, ?_, ?_, ?_, ?_, ?_, ?_, ?_, ?_, ?_, ?_, trivial⟩
   · intro a w1 hfr hdep
     have f0 : a.tmps.getD 2 undef = .pointer (some ⟨w.heap.size, 0, none⟩) := hfr.slot 2 (by kernel_rfl)
     refine Loose.Step.value rfl (v := .pointer (some ⟨w.heap.size, 0, none⟩)) (w' := w1) ?_ rfl (Below.refl _ _)
     simp [go_sem, Act.eval, f0]
   · intro a w1 hfr hdep
     have e0 : a.tmps.getD 10 undef = .pointer (some ⟨w.heap.size, 0, none⟩) := Loose.dep_of hdep 0 10 (by kernel_rfl)
     have hc : w1.cell? ⟨w.heap.size, 0, none⟩ = some (.int .i64 ev) := (hfr.below.cell (by simp <;> omega)).trans (by simp)
     refine Loose.Step.value rfl (v := .int .i64 ev) (w' := w1) ?_ rfl (Below.refl _ _)
     simp [go_sem, Act.eval, e0, hc]
   · intro a w1 hfr hdep
     have f0 : a.tmps.getD 1 undef = .int .i64 every := hfr.slot 1 (by kernel_rfl)
     refine Loose.Step.value rfl (v := .int .i64 every) (w' := w1) ?_ rfl (Below.refl _ _)
     simp [go_sem, Act.eval, f0]
   · intro a w1 hfr hdep
     have e0 : a.tmps.getD 11 undef = .int .i64 ev := Loose.dep_of hdep 1 11 (by kernel_rfl)
     have e1 : a.tmps.getD 12 undef = .int .i64 every := Loose.dep_of hdep 2 12 (by kernel_rfl)
     refine Loose.Step.call rfl (f := 134) (args := #[.int .i64 ev, .int .i64 0, .int .i64 every, .string ⟨#[112, 114, 111, 98, 101, 46, 101, 118, 101, 114, 121]⟩]) ?_ ?_
     · simp [go_sem, Act.eval, e0, e1]
     · have HSZ : w.heap.size ≤ w1.heap.size := Nat.le_trans HB0 hfr.below.size
       refine (within_any ev 0 every t_every (by decide) w1).mono ?_
       rintro e w2 ⟨E, rfl, hE, hb⟩
       exact ⟨E, rfl, kb_tells HSZ hE, hb⟩
   · intro a w1 hfr hdep
     have f0 : a.tmps.getD 2 undef = .pointer (some ⟨w.heap.size, 0, none⟩) := hfr.slot 2 (by kernel_rfl)
     refine Loose.Step.value rfl (v := .pointer (some ⟨w.heap.size, 1, none⟩)) (w' := w1) ?_ rfl (Below.refl _ _)
     simp [go_sem, Act.eval, f0]
   · intro a w1 hfr hdep
     have e0 : a.tmps.getD 14 undef = .pointer (some ⟨w.heap.size, 1, none⟩) := Loose.dep_of hdep 4 14 (by kernel_rfl)
     have hc : w1.cell? ⟨w.heap.size, 1, none⟩ = some (.int .i64 fl) := (hfr.below.cell (by simp <;> omega)).trans (by simp)
     refine Loose.Step.value rfl (v := .int .i64 fl) (w' := w1) ?_ rfl (Below.refl _ _)
     simp [go_sem, Act.eval, e0, hc]
   · intro a w1 hfr hdep
     have f0 : a.tmps.getD 5 undef = .int .i64 1 := hfr.slot 5 (by kernel_rfl)
     refine Loose.Step.value rfl (v := .int .i64 1) (w' := w1) ?_ rfl (Below.refl _ _)
     simp [go_sem, Act.eval, f0]
   · intro a w1 hfr hdep
     have f0 : a.tmps.getD 6 undef = .int .i64 10 := hfr.slot 6 (by kernel_rfl)
     refine Loose.Step.value rfl (v := .int .i64 10) (w' := w1) ?_ rfl (Below.refl _ _)
     simp [go_sem, Act.eval, f0]
   · intro a w1 hfr hdep
     have e0 : a.tmps.getD 15 undef = .int .i64 fl := Loose.dep_of hdep 5 15 (by kernel_rfl)
     have e1 : a.tmps.getD 16 undef = .int .i64 1 := Loose.dep_of hdep 6 16 (by kernel_rfl)
     have e2 : a.tmps.getD 17 undef = .int .i64 10 := Loose.dep_of hdep 7 17 (by kernel_rfl)
     refine Loose.Step.call rfl (f := 134) (args := #[.int .i64 fl, .int .i64 1, .int .i64 10, .string ⟨#[112, 114, 111, 98, 101, 46, 102, 97, 105, 108, 115]⟩]) ?_ ?_
     · simp [go_sem, Act.eval, e0, e1, e2]
     · have HSZ : w.heap.size ≤ w1.heap.size := Nat.le_trans HB0 hfr.below.size
       refine (within_any fl 1 10 t_fails (by decide) w1).mono ?_
       rintro e w2 ⟨E, rfl, hE, hb⟩
       exact ⟨E, rfl, kb_tells HSZ hE, hb⟩
   · intro a w1 hfr hdep
     have h0 : SaysK (KB w.heap.size) (withinV ev 0 every t_every) (a.tmps.getD 13 undef) w1 := Loose.dep_of hdep 3 13 (by kernel_rfl)
     have h1 : SaysK (KB w.heap.size) (withinV fl 1 10 t_fails) (a.tmps.getD 18 undef) w1 := Loose.dep_of hdep 8 18 (by kernel_rfl)
     have r := build2 (a.tmps.getD 13 undef) (a.tmps.getD 18 undef) w1 (cells_form (Says.form h0)) (cells_form (Says.form h1))
     have hb : Below w1.heap.size w1 (w1.alloc (.cells #[a.tmps.getD 13 undef, a.tmps.getD 18 undef] 76)) := (Below.refl _ _).alloc (Nat.le_refl _) _
     refine Loose.Step.value rfl (v := .slice (some ⟨w1.heap.size, 0, none⟩) 2 2) (w' := w1.alloc (.cells #[a.tmps.getD 13 undef, a.tmps.getD 18 undef] 76)) ?_ (row_made [a.tmps.getD 13 undef, a.tmps.getD 18 undef] _ 2 rfl (Nat.le_trans HB0 hfr.below.size) (kb_keep hb) ⟨h0, h1, trivial⟩) hb
     clear hb h0 h1 hdep
     simp only [Array.getD_eq_getD_getElem?] at r
     simp [execOp, Act.eval, r]
   · intro a w1 hfr hdep
     have h0 : RowK (KB w.heap.size) [withinV ev 0 every t_every, withinV fl 1 10 t_fails] (a.tmps.getD 19 undef) w1 := Loose.dep_of hdep 9 19 (by kernel_rfl)
     refine Loose.Step.call rfl (f := 81) (args := #[a.tmps.getD 19 undef]) ?_ (row_first h0 (by simp))
     simp [go_sem, Act.eval]
   · intro a w1 hfr hdep
     have h0 : SaysK (KB w.heap.size) (firstV [withinV ev 0 every t_every, withinV fl 1 10 t_fails]) (a.tmps.getD 20 undef) w1 := Loose.dep_of hdep 10 20 (by kernel_rfl)
     refine Loose.Step.value rfl (v := a.tmps.getD 20 undef) (w' := w1) ?_ h0 (Below.refl _ _)
     simp [go_sem, Act.eval]
 · intro v0 v1 v2 v3 v4 v5 v6 v7 v8 v9 v10 v11 w1 hb hC
   have hE : SaysK (KB w.heap.size) (firstV [withinV ev 0 every t_every, withinV fl 1 10 t_fails]) v11 w1 := hC.2
   clear hC
   have HE := hid hE
   have HB := hid (Below.trans ((Below.refl w.heap.size w).alloc (Nat.le_refl _) _) (hb.mono HB0)); clear hE hb HB0; simp only [put_lit, List.set_cons_succ, List.set_cons_zero]; go_wp2_with fail
   go_ret
   exact ⟨_, rfl, HE.out, HB.out⟩
theorem probe_any (ev fl every : Int) (w : World) : Calls Tryz.prog 199 #[.agg #[.int .i64 ev, .int .i64 fl], .int .i64 every] w (Tells (probeN ev fl every) w) := by
 by_cases h0 : ev = 0
 · subst h0
   unfold probeN
   rw [if_pos rfl, if_pos rfl]
   exact probe0_any fl every w
 · unfold probeN
   rw [if_neg h0, if_neg h0]
   exact probe1_any ev fl every (by simpa using h0) w
def FBox (g b1 b2 : Nat) (x : Ctr) (N : List ByteArray) (P : List Int) (PA : Option Addr) (pc : Nat) (mp me : Int) : Nat → Value → World → Prop
 | 0 => fun v _ => v = .pointer (some ⟨g, 0, none⟩)
 | 1 => fun v _ => v = .pointer (some ⟨b1, 0, none⟩)
 | 2 => fun v _ => v = .string x.name
 | 3 => SaysK (KO g) (nameN x.name N)
 | 4 => fun v _ => v = .pointer (some ⟨b1, 1, none⟩)
 | 5 => fun v _ => v = .string x.image
 | 6 => fun v _ => v = .int .i64 (Text.codeN (Text.imageB x.image) 33)
 | 7 => TextK (KO g) t_image
 | 8 => SaysK (KO g) (newV (Text.codeN (Text.imageB x.image) 33) t_image)
 | 9 => fun v _ => v = .pointer (some ⟨b1, 2, none⟩)
 | 10 => fun v _ => v = .agg #[.int .i64 x.rc, .int .i64 x.rm, .int .i64 x.rp]
 | 11 => SaysK (KO g) (reqN x.rc x.rm x.rp)
 | 12 => fun v _ => v = .pointer (some ⟨b1, 5, none⟩)
 | 13 => fun v _ => v = .agg #[.int .i64 x.lc, .int .i64 x.lm, .int .i64 x.lp]
 | 14 => fun v _ => v = .pointer (some ⟨b1, 2, none⟩)
 | 15 => fun v _ => v = .agg #[.int .i64 x.rc, .int .i64 x.rm, .int .i64 x.rp]
 | 16 => SaysK (KO g) (limN x.lc x.lm x.lp x.rc x.rm x.rp)
 | 17 => fun v _ => v = .pointer (some ⟨g, 0, none⟩)
 | 18 => fun v _ => v = .pointer (some ⟨b1, 8, none⟩)
 | 19 => fun v _ => v = .slice PA x.ports.length pc
 | 20 => fun v _ => v = .pointer (some ⟨b2, 2, none⟩)
 | 21 => fun v _ => v = .int .i64 mp
 | 22 => SaysK (KO g) (portsL P mp x.ports)
 | 23 => fun v _ => v = .pointer (some ⟨b1, 9, none⟩)
 | 24 => fun v _ => v = .agg #[.int .i64 x.ev, .int .i64 x.fl]
 | 25 => fun v _ => v = .pointer (some ⟨b2, 3, none⟩)
 | 26 => fun v _ => v = .int .i64 me
 | 27 => SaysK (KO g) (probeN x.ev x.fl me)
 | 28 => RowK (KO g) [nameN x.name N, newV (Text.codeN (Text.imageB x.image) 33) t_image, reqN x.rc x.rm x.rp, limN x.lc x.lm x.lp x.rc x.rm x.rp, portsL P mp x.ports, probeN x.ev x.fl me]
 | 29 => SaysK (KO g) (firstV [nameN x.name N, newV (Text.codeN (Text.imageB x.image) 33) t_image, reqN x.rc x.rm x.rp, limN x.lc x.lm x.lp x.rc x.rm x.rp, portsL P mp x.ports, probeN x.ev x.fl me])
 | _ => SaysK (KO g) (firstV [nameN x.name N, newV (Text.codeN (Text.imageB x.image) 33) t_image, reqN x.rc x.rm x.rp, limN x.lc x.lm x.lp x.rc x.rm x.rp, portsL P mp x.ports, probeN x.ev x.fl me])
theorem FBox_keep (g b1 b2 : Nat) (x : Ctr) (N : List ByteArray) (P : List Int) (PA : Option Addr) (pc : Nat) (mp me : Int) (i : Nat) (v : Value) (w w' : World) (h : FBox g b1 b2 x N P PA pc mp me i v w) (hb : Av g w w') : FBox g b1 b2 x N P PA pc mp me i v w' := by
 unfold FBox at h ⊢
 split at h <;> first | exact h | exact TextK.keep h (ko_keep hb) | exact SaysK.keep h (ko_keep hb) | exact RowK.keep h (ko_keep hb)
def boxPlan (g b1 b2 : Nat) (x : Ctr) (N : List ByteArray) (P : List Int) (PA : Option Addr) (pc : Nat) (mp me : Int) : Line.Plan where
 A := Av g
 refl := Av.refl g
 trans := Av.trans
 below := Av.of_any
 cs := [3, 6, 8, 11, 16, 22]
 G := fun j w => match j with
  | 0 => Tk w g N P
  | 1 | 2 | 3 | 4 | 5 => Tk w g (nameAfter x.name N) P
  | _ => Tk w g (nameAfter x.name N) (portsLAfter P mp x.ports)
 F := FBox g b1 b2 x N P PA pc mp me
 keepG := fun j w w' hg hb => by
  match j, hg with
  | 0, hg => exact Tk.keep hg hb
  | 1, hg => exact Tk.keep hg hb
  | 2, hg => exact Tk.keep hg hb
  | 3, hg => exact Tk.keep hg hb
  | 4, hg => exact Tk.keep hg hb
  | 5, hg => exact Tk.keep hg hb
  | _ + 6, hg => exact Tk.keep hg hb
 keepF := fun i v w w' hf hb => FBox_keep g b1 b2 x N P PA pc mp me i v w w' hf hb
theorem ctr_quiet {g b1 b2 : Nat} {x : Ctr} {N : List ByteArray} {P : List Int} {PA : Option Addr} {pc : Nat} {mp me : Int} {i : Nat} (hi : i ≠ 3 ∧ i ≠ 6 ∧ i ≠ 8 ∧ i ≠ 11 ∧ i ≠ 16 ∧ i ≠ 22) : i ∉ (boxPlan g b1 b2 x N P PA pc mp me).cs := by simpa [boxPlan] using hi
theorem container_any (wb : World) (hL : SLaid wb) (g : Nat) (hg0 : wb.heap.size ≤ g) (x : Ctr) (PA : Option Addr) (pc : Nat) (hp : Nums .i64 wb PA x.ports) (hs0 : x.name.size ≤ 1000) (hs1 : x.image.size ≤ 1000) (hs2 : x.ports.length ≤ 1000) (lo hi mp me : Int)
 (N : List ByteArray) (P : List Int) (hN : N.length ≤ 1000) (hP : P.length ≤ 1000) (w : World) (hb0 : Below wb.heap.size wb w) (hT : Tk w g N P) :
 Calls Tryz.prog 164 #[.pointer (some ⟨g, 0, none⟩), .agg #[.string x.name, .string x.image, .int .i64 x.rc, .int .i64 x.rm, .int .i64 x.rp, .int .i64 x.lc, .int .i64 x.lm, .int .i64 x.lp, .slice PA x.ports.length pc, .int .i64 x.ev, .int .i64 x.fl], .agg #[.int .i64 lo, .int .i64 hi, .int .i64 mp, .int .i64 me]] w
  (Took g (oneN x N P mp me) (nameAfter x.name N) (portsLAfter P mp x.ports) w) := by
 have HL := hid hL
 have HT := hid hT
 have HN := hid hp
 have HBW := hid hb0
 clear hL hT hp hb0
 go_enter Tryz.func164, Tryz.ntmps164
 go_wp2_with fail
 obtain ⟨w3, hw3⟩ : ∃ w3, (w.alloc (.cells #[.string x.name, .string x.image, .int .i64 x.rc, .int .i64 x.rm, .int .i64 x.rp, .int .i64 x.lc, .int .i64 x.lm, .int .i64 x.lp, .slice PA x.ports.length pc, .int .i64 x.ev, .int .i64 x.fl] 74)).alloc (.cells #[.int .i64 lo, .int .i64 hi, .int .i64 mp, .int .i64 me] 182) = w3 := ⟨_, rfl⟩
 have hb3 : Below w.heap.size w w3 := by rw [← hw3]; exact ((Below.refl _ _).alloc (Nat.le_refl _) _).alloc (by simp) _
 have HB3 := hid hb3
 have HT3 := hid (HT.out.keep hb3)
 have HOK := hid HT3.out.ok
 have HB0 := hid (HBW.out.trans (hb3.mono HBW.out.size))
 have HB1 := hid (show w3.heap[w.heap.size]? = some (.cells #[.string x.name, .string x.image, .int .i64 x.rc, .int .i64 x.rm, .int .i64 x.rp, .int .i64 x.lc, .int .i64 x.lm, .int .i64 x.lp, .slice PA x.ports.length pc, .int .i64 x.ev, .int .i64 x.fl] 74 (0, 0)) by
  rw [← hw3, Below.heap_alloc _ _ _ (by simp)]; exact heap_alloc_new w _)
 have HB2 := hid (show w3.heap[w.heap.size + 1]? = some (.cells #[.int .i64 lo, .int .i64 hi, .int .i64 mp, .int .i64 me] 182 (0, 0)) by
  have e : (w.alloc (.cells #[.string x.name, .string x.image, .int .i64 x.rc, .int .i64 x.rm, .int .i64 x.rp, .int .i64 x.lc, .int .i64 x.lm, .int .i64 x.lp, .slice PA x.ports.length pc, .int .i64 x.ev, .int .i64 x.fl] 74)).heap.size = w.heap.size + 1 := by simp
  rw [← hw3, ← e]; exact heap_alloc_new _ _)
 have hsz3 : w3.heap.size = w.heap.size + 2 := by rw [← hw3]; simp
 have HO1 := hid (HT.out.ok.fresh hb3 (b := w.heap.size) (Nat.le_refl _) (by omega))
 have HO2 := hid (HT.out.ok.fresh hb3 (b := w.heap.size + 1) (by omega) (by omega))
 rw [hw3]
 obtain ⟨b1, hb1⟩ : ∃ b, w.heap.size = b := ⟨_, rfl⟩
 have HBB := hid hb1
 rw [hb1] at HB1 HB2 HO1 HO2 ⊢
 obtain ⟨b2, hb2⟩ : ∃ b, b1 + 1 = b := ⟨_, rfl⟩
 rw [hb2] at HB2 HO2 ⊢
 clear hw3 hb1 hb2 hb3 hsz3
 refine Line.wp_region_walk (by kernel_rfl) (by kernel_rfl) (boxPlan g b1 b2 x N P PA pc mp me) (by kernel_rfl) (by kernel_rfl) HT3.out ?_ ?_
 · refine ⟨?_, ?_, ?_, ?_, ?_, ?_, ?_, ?_, ?_, ?_, ?_, ?_, ?_, ?_, ?_, ?_, ?_, ?_, ?_, ?_, ?_, ?_, ?_, ?_, ?_, ?_, ?_, ?_, ?_, ?_, ?_, trivial⟩
   · intro a w1 hfr hdep hG
     have hok := (hfr.kept.ok HOK.out).1
     have f0 : a.tmps.getD 0 undef = .pointer (some ⟨g, 0, none⟩) := hfr.slot 0 (by kernel_rfl)
     refine Line.Step.value (ctr_quiet (by decide)) (Line.wanted_free rfl) (v := .pointer (some ⟨g, 0, none⟩)) (w' := w1) ?_ rfl (Below.refl _ _)
     simp [go_sem, Act.eval, f0]
   · intro a w1 hfr hdep hG
     have hok := (hfr.kept.ok HOK.out).1
     have f0 : a.tmps.getD 4 undef = .pointer (some ⟨b1, 0, none⟩) := hfr.slot 4 (by kernel_rfl)
     refine Line.Step.value (ctr_quiet (by decide)) (Line.wanted_free rfl) (v := .pointer (some ⟨b1, 0, none⟩)) (w' := w1) ?_ rfl (Below.refl _ _)
     simp [go_sem, Act.eval, f0]
   · intro a w1 hfr hdep hG
     have hok := (hfr.kept.ok HOK.out).1
     have e0 : a.tmps.getD 8 undef = .pointer (some ⟨b1, 0, none⟩) := Loose.dep_of hdep 1 8 (by kernel_rfl)
     have hbk := ((hfr.kept.ok HOK.out).2 b1 HO1.out).2.trans HB1.out
     have hc0 : w1.cell? ⟨b1, 0, none⟩ = some (.string x.name) := by simp [World.cell?, hbk]
     clear hbk
     refine Line.Step.value (ctr_quiet (by decide)) (Line.wanted_free rfl) (v := .string x.name) (w' := w1) ?_ rfl (Below.refl _ _)
     simp [go_sem, Act.eval, e0, hc0]
   · intro a w1 hfr hdep hG
     have hok := (hfr.kept.ok HOK.out).1
     have e0 : a.tmps.getD 7 undef = .pointer (some ⟨g, 0, none⟩) := Loose.dep_of hdep 0 7 (by kernel_rfl)
     have e1 : a.tmps.getD 9 undef = .string x.name := Loose.dep_of hdep 2 9 (by kernel_rfl)
     refine Line.Step.write 0 rfl (Line.wanted_free rfl) (f := 194) (args := #[.pointer (some ⟨g, 0, none⟩), .string x.name]) ?_ ?_
     · simp [go_sem, Act.eval, e0, e1]
     · refine (takeName_any g x.name N P hs0 hN w1 (HL.out.below (hfr.kept.base HB0.out hg0)) (hG 0 rfl)).mono ?_
       rintro e w2 ⟨E, rfl, hE, hA, hT⟩
       exact ⟨E, rfl, Says.keep hE fun b h1 _ => ⟨⟨hT.ok, h1⟩, rfl⟩, hA, hT⟩
   · intro a w1 hfr hdep hG
     have hok := (hfr.kept.ok HOK.out).1
     have f0 : a.tmps.getD 4 undef = .pointer (some ⟨b1, 0, none⟩) := hfr.slot 4 (by kernel_rfl)
     refine Line.Step.value (ctr_quiet (by decide)) (Line.wanted_free rfl) (v := .pointer (some ⟨b1, 1, none⟩)) (w' := w1) ?_ rfl (Below.refl _ _)
     simp [go_sem, Act.eval, f0]
   · intro a w1 hfr hdep hG
     have hok := (hfr.kept.ok HOK.out).1
     have e0 : a.tmps.getD 11 undef = .pointer (some ⟨b1, 1, none⟩) := Loose.dep_of hdep 4 11 (by kernel_rfl)
     have hbk := ((hfr.kept.ok HOK.out).2 b1 HO1.out).2.trans HB1.out
     have hc0 : w1.cell? ⟨b1, 1, none⟩ = some (.string x.image) := by simp [World.cell?, hbk]
     clear hbk
     refine Line.Step.value (ctr_quiet (by decide)) (Line.wanted_free rfl) (v := .string x.image) (w' := w1) ?_ rfl (Below.refl _ _)
     simp [go_sem, Act.eval, e0, hc0]
   · intro a w1 hfr hdep hG
     have hok := (hfr.kept.ok HOK.out).1
     have e0 : a.tmps.getD 12 undef = .string x.image := Loose.dep_of hdep 5 12 (by kernel_rfl)
     refine Line.Step.write 1 rfl (Line.wanted_free rfl) (f := 195) (args := #[.string x.image]) ?_ ?_
     · simp [go_sem, Act.eval, e0]
     · refine (Text.image_any x.image (by omega) w1 (HL.out.below (hfr.kept.base HB0.out hg0)).text).mono ?_
       rintro e w2 ⟨rfl, hb⟩
       exact ⟨_, rfl, rfl, .of_any hb, Tk.keep (hG 1 rfl) hb⟩
   · intro a w1 hfr hdep hG
     have hok := (hfr.kept.ok HOK.out).1
     have hb : Below w1.heap.size w1 (w1.alloc (.cells #[.string t_image] 9)) := (Below.refl _ _).alloc (Nat.le_refl _) _
     refine Line.Step.value (ctr_quiet (by decide)) (Line.wanted_free rfl) (v := .slice (some ⟨w1.heap.size, 0, none⟩) 1 1) (w' := w1.alloc (.cells #[.string t_image] 9)) ?_ (text_made _ (ko_new hok hb (Nat.le_refl _) (by simp))) hb
     simp [go_sem, t_image]
   · intro a w1 hfr hdep hG
     have hok := (hfr.kept.ok HOK.out).1
     have e0 : a.tmps.getD 13 undef = .int .i64 (Text.codeN (Text.imageB x.image) 33) := Loose.dep_of hdep 6 13 (by kernel_rfl)
     obtain ⟨gg, e1, _, hcg⟩ : TextK (KO g) t_image (a.tmps.getD 14 undef) w1 := Loose.dep_of hdep 7 14 (by kernel_rfl)
     refine Line.Step.write 2 rfl (Line.wanted_free rfl) (f := 82) (args := #[.int .i64 (Text.codeN (Text.imageB x.image) 33), .slice (some ⟨gg, 0, none⟩) 1 1]) ?_ ?_
     · simp [go_sem, Act.eval, e0, e1]
     · refine (new_says (Text.codeN (Text.imageB x.image) 33) t_image gg 1 w1 (by decide) hcg).mono ?_
       rintro e w2 ⟨E, rfl, hE, hb⟩
       exact ⟨E, rfl, ko_tells hok hb hE, .of_any hb, Tk.keep (hG 2 rfl) hb⟩
   · intro a w1 hfr hdep hG
     have hok := (hfr.kept.ok HOK.out).1
     have f0 : a.tmps.getD 4 undef = .pointer (some ⟨b1, 0, none⟩) := hfr.slot 4 (by kernel_rfl)
     refine Line.Step.value (ctr_quiet (by decide)) (Line.wanted_free rfl) (v := .pointer (some ⟨b1, 2, none⟩)) (w' := w1) ?_ rfl (Below.refl _ _)
     simp [go_sem, Act.eval, f0]
   · intro a w1 hfr hdep hG
     have hok := (hfr.kept.ok HOK.out).1
     have e0 : a.tmps.getD 16 undef = .pointer (some ⟨b1, 2, none⟩) := Loose.dep_of hdep 9 16 (by kernel_rfl)
     have hbk := ((hfr.kept.ok HOK.out).2 b1 HO1.out).2.trans HB1.out
     have hc0 : w1.cell? ⟨b1, 2, none⟩ = some (.int .i64 x.rc) := by simp [World.cell?, hbk]
     have hc1 : w1.cell? ⟨b1, 3, none⟩ = some (.int .i64 x.rm) := by simp [World.cell?, hbk]
     have hc2 : w1.cell? ⟨b1, 4, none⟩ = some (.int .i64 x.rp) := by simp [World.cell?, hbk]
     clear hbk
     refine Line.Step.value (ctr_quiet (by decide)) (Line.wanted_free rfl) (v := .agg #[.int .i64 x.rc, .int .i64 x.rm, .int .i64 x.rp]) (w' := w1) ?_ rfl (Below.refl _ _)
     simp [go_sem, Act.eval, e0, hc0, hc1, hc2]
   · intro a w1 hfr hdep hG
     have hok := (hfr.kept.ok HOK.out).1
     have e0 : a.tmps.getD 17 undef = .agg #[.int .i64 x.rc, .int .i64 x.rm, .int .i64 x.rp] := Loose.dep_of hdep 10 17 (by kernel_rfl)
     refine Line.Step.write 3 rfl (Line.wanted_free rfl) (f := 196) (args := #[.agg #[.int .i64 x.rc, .int .i64 x.rm, .int .i64 x.rp]]) ?_ ?_
     · simp [go_sem, Act.eval, e0]
     · refine (req_any x.rc x.rm x.rp w1).mono ?_
       rintro e w2 ⟨E, rfl, hE, hb⟩
       exact ⟨E, rfl, ko_tells hok hb hE, .of_any hb, Tk.keep (hG 3 rfl) hb⟩
   · intro a w1 hfr hdep hG
     have hok := (hfr.kept.ok HOK.out).1
     have f0 : a.tmps.getD 4 undef = .pointer (some ⟨b1, 0, none⟩) := hfr.slot 4 (by kernel_rfl)
     refine Line.Step.value (ctr_quiet (by decide)) (Line.wanted_free rfl) (v := .pointer (some ⟨b1, 5, none⟩)) (w' := w1) ?_ rfl (Below.refl _ _)
     simp [go_sem, Act.eval, f0]
   · intro a w1 hfr hdep hG
     have hok := (hfr.kept.ok HOK.out).1
     have e0 : a.tmps.getD 19 undef = .pointer (some ⟨b1, 5, none⟩) := Loose.dep_of hdep 12 19 (by kernel_rfl)
     have hbk := ((hfr.kept.ok HOK.out).2 b1 HO1.out).2.trans HB1.out
     have hc0 : w1.cell? ⟨b1, 5, none⟩ = some (.int .i64 x.lc) := by simp [World.cell?, hbk]
     have hc1 : w1.cell? ⟨b1, 6, none⟩ = some (.int .i64 x.lm) := by simp [World.cell?, hbk]
     have hc2 : w1.cell? ⟨b1, 7, none⟩ = some (.int .i64 x.lp) := by simp [World.cell?, hbk]
     clear hbk
     refine Line.Step.value (ctr_quiet (by decide)) (Line.wanted_free rfl) (v := .agg #[.int .i64 x.lc, .int .i64 x.lm, .int .i64 x.lp]) (w' := w1) ?_ rfl (Below.refl _ _)
     simp [go_sem, Act.eval, e0, hc0, hc1, hc2]
   · intro a w1 hfr hdep hG
     have hok := (hfr.kept.ok HOK.out).1
     have f0 : a.tmps.getD 4 undef = .pointer (some ⟨b1, 0, none⟩) := hfr.slot 4 (by kernel_rfl)
     refine Line.Step.value (ctr_quiet (by decide)) (Line.wanted_free rfl) (v := .pointer (some ⟨b1, 2, none⟩)) (w' := w1) ?_ rfl (Below.refl _ _)
     simp [go_sem, Act.eval, f0]
   · intro a w1 hfr hdep hG
     have hok := (hfr.kept.ok HOK.out).1
     have e0 : a.tmps.getD 21 undef = .pointer (some ⟨b1, 2, none⟩) := Loose.dep_of hdep 14 21 (by kernel_rfl)
     have hbk := ((hfr.kept.ok HOK.out).2 b1 HO1.out).2.trans HB1.out
     have hc0 : w1.cell? ⟨b1, 2, none⟩ = some (.int .i64 x.rc) := by simp [World.cell?, hbk]
     have hc1 : w1.cell? ⟨b1, 3, none⟩ = some (.int .i64 x.rm) := by simp [World.cell?, hbk]
     have hc2 : w1.cell? ⟨b1, 4, none⟩ = some (.int .i64 x.rp) := by simp [World.cell?, hbk]
     clear hbk
     refine Line.Step.value (ctr_quiet (by decide)) (Line.wanted_free rfl) (v := .agg #[.int .i64 x.rc, .int .i64 x.rm, .int .i64 x.rp]) (w' := w1) ?_ rfl (Below.refl _ _)
     simp [go_sem, Act.eval, e0, hc0, hc1, hc2]
   · intro a w1 hfr hdep hG
     have hok := (hfr.kept.ok HOK.out).1
     have e0 : a.tmps.getD 20 undef = .agg #[.int .i64 x.lc, .int .i64 x.lm, .int .i64 x.lp] := Loose.dep_of hdep 13 20 (by kernel_rfl)
     have e1 : a.tmps.getD 22 undef = .agg #[.int .i64 x.rc, .int .i64 x.rm, .int .i64 x.rp] := Loose.dep_of hdep 15 22 (by kernel_rfl)
     refine Line.Step.write 4 rfl (Line.wanted_free rfl) (f := 197) (args := #[.agg #[.int .i64 x.lc, .int .i64 x.lm, .int .i64 x.lp], .agg #[.int .i64 x.rc, .int .i64 x.rm, .int .i64 x.rp]]) ?_ ?_
     · simp [go_sem, Act.eval, e0, e1]
     · refine (lim_any x.lc x.lm x.lp x.rc x.rm x.rp w1).mono ?_
       rintro e w2 ⟨E, rfl, hE, hb⟩
       exact ⟨E, rfl, ko_tells hok hb hE, .of_any hb, Tk.keep (hG 4 rfl) hb⟩
   · intro a w1 hfr hdep hG
     have hok := (hfr.kept.ok HOK.out).1
     have f0 : a.tmps.getD 0 undef = .pointer (some ⟨g, 0, none⟩) := hfr.slot 0 (by kernel_rfl)
     refine Line.Step.value (ctr_quiet (by decide)) (Line.wanted_free rfl) (v := .pointer (some ⟨g, 0, none⟩)) (w' := w1) ?_ rfl (Below.refl _ _)
     simp [go_sem, Act.eval, f0]
   · intro a w1 hfr hdep hG
     have hok := (hfr.kept.ok HOK.out).1
     have f0 : a.tmps.getD 4 undef = .pointer (some ⟨b1, 0, none⟩) := hfr.slot 4 (by kernel_rfl)
     refine Line.Step.value (ctr_quiet (by decide)) (Line.wanted_free rfl) (v := .pointer (some ⟨b1, 8, none⟩)) (w' := w1) ?_ rfl (Below.refl _ _)
     simp [go_sem, Act.eval, f0]
   · intro a w1 hfr hdep hG
     have hok := (hfr.kept.ok HOK.out).1
     have e0 : a.tmps.getD 25 undef = .pointer (some ⟨b1, 8, none⟩) := Loose.dep_of hdep 18 25 (by kernel_rfl)
     have hbk := ((hfr.kept.ok HOK.out).2 b1 HO1.out).2.trans HB1.out
     have hc0 : w1.cell? ⟨b1, 8, none⟩ = some (.slice PA x.ports.length pc) := by simp [World.cell?, hbk]
     clear hbk
     refine Line.Step.value (ctr_quiet (by decide)) (Line.wanted_free rfl) (v := .slice PA x.ports.length pc) (w' := w1) ?_ rfl (Below.refl _ _)
     simp [go_sem, Act.eval, e0, hc0]
   · intro a w1 hfr hdep hG
     have hok := (hfr.kept.ok HOK.out).1
     have f0 : a.tmps.getD 5 undef = .pointer (some ⟨b2, 0, none⟩) := hfr.slot 5 (by kernel_rfl)
     refine Line.Step.value (ctr_quiet (by decide)) (Line.wanted_free rfl) (v := .pointer (some ⟨b2, 2, none⟩)) (w' := w1) ?_ rfl (Below.refl _ _)
     simp [go_sem, Act.eval, f0]
   · intro a w1 hfr hdep hG
     have hok := (hfr.kept.ok HOK.out).1
     have e0 : a.tmps.getD 27 undef = .pointer (some ⟨b2, 2, none⟩) := Loose.dep_of hdep 20 27 (by kernel_rfl)
     have hbk := ((hfr.kept.ok HOK.out).2 b2 HO2.out).2.trans HB2.out
     have hc0 : w1.cell? ⟨b2, 2, none⟩ = some (.int .i64 mp) := by simp [World.cell?, hbk]
     clear hbk
     refine Line.Step.value (ctr_quiet (by decide)) (Line.wanted_free rfl) (v := .int .i64 mp) (w' := w1) ?_ rfl (Below.refl _ _)
     simp [go_sem, Act.eval, e0, hc0]
   · intro a w1 hfr hdep hG
     have hok := (hfr.kept.ok HOK.out).1
     have e0 : a.tmps.getD 24 undef = .pointer (some ⟨g, 0, none⟩) := Loose.dep_of hdep 17 24 (by kernel_rfl)
     have e1 : a.tmps.getD 26 undef = .slice PA x.ports.length pc := Loose.dep_of hdep 19 26 (by kernel_rfl)
     have e2 : a.tmps.getD 28 undef = .int .i64 mp := Loose.dep_of hdep 21 28 (by kernel_rfl)
     refine Line.Step.write 5 rfl (Line.wanted_free rfl) (f := 198) (args := #[.pointer (some ⟨g, 0, none⟩), .slice PA x.ports.length pc, .int .i64 mp]) ?_ ?_
     · simp [go_sem, Act.eval, e0, e1, e2]
     · refine (takePorts_any wb HL.out g hg0 PA pc x.ports mp HN.out hs2 (nameAfter x.name N) P hP w1 (hfr.kept.base HB0.out hg0) (hG 5 rfl)).mono ?_
       rintro e w2 ⟨E, rfl, hE, hA, hT⟩
       exact ⟨E, rfl, Says.keep hE fun b h1 _ => ⟨⟨hT.ok, h1⟩, rfl⟩, hA, hT⟩
   · intro a w1 hfr hdep hG
     have hok := (hfr.kept.ok HOK.out).1
     have f0 : a.tmps.getD 4 undef = .pointer (some ⟨b1, 0, none⟩) := hfr.slot 4 (by kernel_rfl)
     refine Line.Step.value (ctr_quiet (by decide)) (Line.wanted_free rfl) (v := .pointer (some ⟨b1, 9, none⟩)) (w' := w1) ?_ rfl (Below.refl _ _)
     simp [go_sem, Act.eval, f0]
   · intro a w1 hfr hdep hG
     have hok := (hfr.kept.ok HOK.out).1
     have e0 : a.tmps.getD 30 undef = .pointer (some ⟨b1, 9, none⟩) := Loose.dep_of hdep 23 30 (by kernel_rfl)
     have hbk := ((hfr.kept.ok HOK.out).2 b1 HO1.out).2.trans HB1.out
     have hc0 : w1.cell? ⟨b1, 9, none⟩ = some (.int .i64 x.ev) := by simp [World.cell?, hbk]
     have hc1 : w1.cell? ⟨b1, 10, none⟩ = some (.int .i64 x.fl) := by simp [World.cell?, hbk]
     clear hbk
     refine Line.Step.value (ctr_quiet (by decide)) (Line.wanted_free rfl) (v := .agg #[.int .i64 x.ev, .int .i64 x.fl]) (w' := w1) ?_ rfl (Below.refl _ _)
     simp [go_sem, Act.eval, e0, hc0, hc1]
   · intro a w1 hfr hdep hG
     have hok := (hfr.kept.ok HOK.out).1
     have f0 : a.tmps.getD 5 undef = .pointer (some ⟨b2, 0, none⟩) := hfr.slot 5 (by kernel_rfl)
     refine Line.Step.value (ctr_quiet (by decide)) (Line.wanted_free rfl) (v := .pointer (some ⟨b2, 3, none⟩)) (w' := w1) ?_ rfl (Below.refl _ _)
     simp [go_sem, Act.eval, f0]
   · intro a w1 hfr hdep hG
     have hok := (hfr.kept.ok HOK.out).1
     have e0 : a.tmps.getD 32 undef = .pointer (some ⟨b2, 3, none⟩) := Loose.dep_of hdep 25 32 (by kernel_rfl)
     have hbk := ((hfr.kept.ok HOK.out).2 b2 HO2.out).2.trans HB2.out
     have hc0 : w1.cell? ⟨b2, 3, none⟩ = some (.int .i64 me) := by simp [World.cell?, hbk]
     clear hbk
     refine Line.Step.value (ctr_quiet (by decide)) (Line.wanted_free rfl) (v := .int .i64 me) (w' := w1) ?_ rfl (Below.refl _ _)
     simp [go_sem, Act.eval, e0, hc0]
   · intro a w1 hfr hdep hG
     have hok := (hfr.kept.ok HOK.out).1
     have e0 : a.tmps.getD 31 undef = .agg #[.int .i64 x.ev, .int .i64 x.fl] := Loose.dep_of hdep 24 31 (by kernel_rfl)
     have e1 : a.tmps.getD 33 undef = .int .i64 me := Loose.dep_of hdep 26 33 (by kernel_rfl)
     refine Line.Step.call (ctr_quiet (by decide)) (Line.wanted_free rfl) (f := 199) (args := #[.agg #[.int .i64 x.ev, .int .i64 x.fl], .int .i64 me]) ?_ ?_
     · simp [go_sem, Act.eval, e0, e1]
     · refine (probe_any x.ev x.fl me w1).mono ?_
       rintro e w2 ⟨E, rfl, hE, hb⟩
       exact ⟨E, rfl, ko_tells hok hb hE, hb⟩
   · intro a w1 hfr hdep hG
     have hok := (hfr.kept.ok HOK.out).1
     have h0 : SaysK (KO g) (nameN x.name N) (a.tmps.getD 10 undef) w1 := Loose.dep_of hdep 3 10 (by kernel_rfl)
     have h1 : SaysK (KO g) (newV (Text.codeN (Text.imageB x.image) 33) t_image) (a.tmps.getD 15 undef) w1 := Loose.dep_of hdep 8 15 (by kernel_rfl)
     have h2 : SaysK (KO g) (reqN x.rc x.rm x.rp) (a.tmps.getD 18 undef) w1 := Loose.dep_of hdep 11 18 (by kernel_rfl)
     have h3 : SaysK (KO g) (limN x.lc x.lm x.lp x.rc x.rm x.rp) (a.tmps.getD 23 undef) w1 := Loose.dep_of hdep 16 23 (by kernel_rfl)
     have h4 : SaysK (KO g) (portsL P mp x.ports) (a.tmps.getD 29 undef) w1 := Loose.dep_of hdep 22 29 (by kernel_rfl)
     have h5 : SaysK (KO g) (probeN x.ev x.fl me) (a.tmps.getD 34 undef) w1 := Loose.dep_of hdep 27 34 (by kernel_rfl)
     have r := build6 (a.tmps.getD 10 undef) (a.tmps.getD 15 undef) (a.tmps.getD 18 undef) (a.tmps.getD 23 undef) (a.tmps.getD 29 undef) (a.tmps.getD 34 undef) w1 (cells_form (Says.form h0)) (cells_form (Says.form h1)) (cells_form (Says.form h2)) (cells_form (Says.form h3)) (cells_form (Says.form h4)) (cells_form (Says.form h5))
     have hb : Below w1.heap.size w1 (w1.alloc (.cells #[a.tmps.getD 10 undef, a.tmps.getD 15 undef, a.tmps.getD 18 undef, a.tmps.getD 23 undef, a.tmps.getD 29 undef, a.tmps.getD 34 undef] 76)) := (Below.refl _ _).alloc (Nat.le_refl _) _
     refine Line.Step.value (ctr_quiet (by decide)) (Line.wanted_free rfl) (v := .slice (some ⟨w1.heap.size, 0, none⟩) 6 6) (w' := w1.alloc (.cells #[a.tmps.getD 10 undef, a.tmps.getD 15 undef, a.tmps.getD 18 undef, a.tmps.getD 23 undef, a.tmps.getD 29 undef, a.tmps.getD 34 undef] 76)) ?_ (row_made [a.tmps.getD 10 undef, a.tmps.getD 15 undef, a.tmps.getD 18 undef, a.tmps.getD 23 undef, a.tmps.getD 29 undef, a.tmps.getD 34 undef] _ 6 rfl (ko_new hok hb (Nat.le_refl _) (by simp)) (ko_keep (.of_any hb)) ⟨h0, h1, h2, h3, h4, h5, trivial⟩) hb
     clear hb h0 h1 h2 h3 h4 h5 hdep
     simp only [Array.getD_eq_getD_getElem?] at r
     simp [execOp, Act.eval, r]
   · intro a w1 hfr hdep hG
     have hok := (hfr.kept.ok HOK.out).1
     have h0 : RowK (KO g) [nameN x.name N, newV (Text.codeN (Text.imageB x.image) 33) t_image, reqN x.rc x.rm x.rp, limN x.lc x.lm x.lp x.rc x.rm x.rp, portsL P mp x.ports, probeN x.ev x.fl me] (a.tmps.getD 35 undef) w1 := Loose.dep_of hdep 28 35 (by kernel_rfl)
     refine Line.Step.call (ctr_quiet (by decide)) (Line.wanted_free rfl) (f := 81) (args := #[a.tmps.getD 35 undef]) ?_ (row_first h0 (by simp))
     simp [go_sem, Act.eval]
   · intro a w1 hfr hdep hG
     have hok := (hfr.kept.ok HOK.out).1
     have h0 : SaysK (KO g) (firstV [nameN x.name N, newV (Text.codeN (Text.imageB x.image) 33) t_image, reqN x.rc x.rm x.rp, limN x.lc x.lm x.lp x.rc x.rm x.rp, portsL P mp x.ports, probeN x.ev x.fl me]) (a.tmps.getD 36 undef) w1 := Loose.dep_of hdep 29 36 (by kernel_rfl)
     refine Line.Step.value (ctr_quiet (by decide)) (Line.wanted_free rfl) (v := a.tmps.getD 36 undef) (w' := w1) ?_ h0 (Below.refl _ _)
     simp [go_sem, Act.eval]
 · intro v0 v1 v2 v3 v4 v5 v6 v7 v8 v9 v10 v11 v12 v13 v14 v15 v16 v17 v18 v19 v20 v21 v22 v23 v24 v25 v26 v27 v28 v29 v30 w6 hk6 hC hG6
   have hE : SaysK (KO g) (firstV [nameN x.name N, newV (Text.codeN (Text.imageB x.image) 33) t_image, reqN x.rc x.rm x.rp, limN x.lc x.lm x.lp x.rc x.rm x.rp, portsL P mp x.ports, probeN x.ev x.fl me]) v30 w6 := hC.2
   have hT6 : Tk w6 g (nameAfter x.name N) (portsLAfter P mp x.ports) := hG6
   have HX := hid (show Took g (oneN x N P mp me) (nameAfter x.name N) (portsLAfter P mp x.ports) w (.returned v30) w6 from ⟨_, rfl, Says.keep hE fun _ h1 _ => ⟨h1.2, rfl⟩, (Av.of_any HB3.out).trans hk6, hT6⟩); clear hC hE hT6 hG6 hk6; simp only [put_lit, List.set_cons_succ, List.set_cons_zero]; go_wp2_with fail
   go_ret
   exact HX.out
theorem firstV_size {n : Nat} : ∀ {l : List Say}, (∀ y ∈ l, y.2.size ≤ n) → (firstV l).2.size ≤ n
 | [], _ => by show (0 : Nat) ≤ n; omega
 | y :: l, h => by
  rw [firstV_cons]
  split
  · exact firstV_size fun z hz => h z (by simp [hz])
  · exact h y (by simp)
theorem withinV_size (n l m : Int) (s : ByteArray) (k : Nat) (h : s.size ≤ k) : (withinV n l m s).2.size ≤ k := by
 unfold withinV
 split
 · exact h
 · show (0 : Nat) ≤ k; omega
theorem limitV_size (n l : Int) (s : ByteArray) (k : Nat) (h : s.size ≤ k) : (limitV n l s).2.size ≤ k := by
 unfold limitV
 split
 · show (0 : Nat) ≤ k; omega
 · exact withinV_size _ _ _ _ _ h
theorem portsN_size : ∀ (l : List Int) (P : List Int) (k : Nat), k + l.length ≤ 1000 → (portsN P k l).2.size ≤ 40
 | [], _, _, _ => by show (0 : Nat) ≤ 40; omega
 | z :: zs, P, k, h => by
  have ha : (atB t_ports k).size ≤ 40 := Nat.le_trans (SpecRef.atB_size t_ports k (by simp at h; omega)) (by decide)
  rw [portsN]
  split
  · exact ha
  · split
    · exact ha
    · exact portsN_size zs _ (k + 1) (by simp at h; omega)
theorem oneN_size (x : Ctr) (N : List ByteArray) (P : List Int) (mp me : Int) (hp : x.ports.length ≤ 1000) : (oneN x N P mp me).2.size ≤ 40 := by
 unfold oneN
 refine firstV_size fun y hy => ?_
 simp only [List.mem_cons, List.not_mem_nil, or_false] at hy
 rcases hy with rfl | rfl | rfl | rfl | rfl | rfl
 · unfold nameN
   split
   · decide
   · split <;> decide
 · unfold imageN newV
   split <;> (split <;> decide)
 · unfold reqN
   refine firstV_size fun y hy => ?_
   simp only [List.mem_cons, List.not_mem_nil, or_false] at hy
   rcases hy with rfl | rfl | rfl <;> exact withinV_size _ _ _ _ _ (by decide)
 · unfold limN
   refine firstV_size fun y hy => ?_
   simp only [List.mem_cons, List.not_mem_nil, or_false] at hy
   rcases hy with rfl | rfl | rfl <;> exact limitV_size _ _ _ _ (by decide)
 · unfold portsL
   split
   · decide
   · exact portsN_size _ _ _ (by omega)
 · unfold probeN
   refine firstV_size fun y hy => ?_
   simp only [List.mem_cons, List.not_mem_nil, or_false] at hy
   rcases hy with rfl | rfl <;> exact withinV_size _ _ _ _ _ (by decide)
def LsHere (name : ByteArray) (mp me : Int) (N : List ByteArray) (P : List Int) (l : List Ctr) (k : Nat) : Prop :=
 listFrom name mp me 0 N P l = listFrom name mp me k (N ++ (l.take k).map (·.name)) (P ++ (l.take k).flatMap (·.ports)) (l.drop k)
theorem ls_zero (name : ByteArray) (mp me : Int) (N : List ByteArray) (P : List Int) (l : List Ctr) : LsHere name mp me N P l 0 := by
 unfold LsHere; simp
theorem ls_at {name : ByteArray} {mp me : Int} {N : List ByteArray} {P : List Int} {l : List Ctr} {k : Nat} (h : LsHere name mp me N P l k) (hk : k < l.length) :
 listFrom name mp me 0 N P l = if (oneN l[k] (N ++ (l.take k).map (·.name)) (P ++ (l.take k).flatMap (·.ports)) mp me).1 = 0 then
  listFrom name mp me (k + 1) (N ++ (l.take k).map (·.name) ++ [l[k].name]) (P ++ (l.take k).flatMap (·.ports) ++ l[k].ports) (l.drop (k + 1)) else inV (atB name k) (oneN l[k] (N ++ (l.take k).map (·.name)) (P ++ (l.take k).flatMap (·.ports)) mp me) := by
 unfold LsHere at h
 rw [h, List.drop_eq_getElem_cons hk, listFrom]
theorem take_next (N : List ByteArray) (P : List Int) (l : List Ctr) {k : Nat} (hk : k < l.length) : N ++ (l.take (k + 1)).map (·.name) = N ++ (l.take k).map (·.name) ++ [l[k].name] ∧ P ++ (l.take (k + 1)).flatMap (·.ports) = P ++ (l.take k).flatMap (·.ports) ++ l[k].ports := by
 rw [List.take_succ_eq_append_getElem hk, List.map_append, List.flatMap_append, ← List.append_assoc, ← List.append_assoc]
 exact ⟨rfl, by simp⟩
theorem ls_next {name : ByteArray} {mp me : Int} {N : List ByteArray} {P : List Int} {l : List Ctr} {k : Nat} (h : LsHere name mp me N P l k) (hk : k < l.length)
 (h0 : (oneN l[k] (N ++ (l.take k).map (·.name)) (P ++ (l.take k).flatMap (·.ports)) mp me).1 = 0) : LsHere name mp me N P l (k + 1) := by
 have := ls_at h hk
 rw [if_pos h0] at this
 unfold LsHere
 rw [this, (take_next N P l hk).1, (take_next N P l hk).2]
theorem ls_end {name : ByteArray} {mp me : Int} {N : List ByteArray} {P : List Int} {l : List Ctr} {k : Nat} (h : LsHere name mp me N P l k) (hk : l.length ≤ k) : listFrom name mp me 0 N P l = fine := by
 unfold LsHere at h
 rw [h, List.drop_eq_nil_of_le hk]; rfl
theorem flat_len (l : List Ctr) (h : ∀ x ∈ l, x.ports.length ≤ 10) : (l.flatMap (·.ports)).length ≤ 10 * l.length := by
 induction l with
 | nil => simp
 | cons x l ih =>
  have h1 := h x (by simp)
  have h2 := ih fun y hy => h y (by simp [hy])
  simp only [List.flatMap_cons, List.length_append, List.length_cons]
  omega
def TookList (g : Nat) (y : Say) (N : List ByteArray) (P : List Int) (n p : Nat) (w : World) (e : Ending) (w' : World) : Prop :=
 ∃ N' P', Took g y N' P' w e w' ∧ (y.1 = 0 → N' = N ∧ P' = P) ∧ N'.length ≤ n ∧ P'.length ≤ p
theorem list_any (wb : World) (hL : SLaid wb) (g : Nat) (hg0 : wb.heap.size ≤ g) (name : ByteArray) (hn : name.size ≤ 100) (IA : Option Addr) (ic : Nat) (l : List Ctr) (hl : Ctrs wb IA l) (hlight : ∀ x ∈ l, x.name.size ≤ 100 ∧ x.image.size ≤ 100 ∧ x.ports.length ≤ 10)
 (least most mp me : Int) (hmost : most ≤ 10) (hmp0 : 0 ≤ mp) (hmp : mp ≤ 10) (N : List ByteArray) (P : List Int) (hN : N.length ≤ 200) (hP : P.length ≤ 400) (w : World) (hb0 : Below wb.heap.size wb w) (hT : Tk w g N P) :
 Calls Tryz.prog 131 #[.pointer (some ⟨g, 0, none⟩), .string name, .slice IA l.length ic, .agg #[.int .i64 least, .int .i64 most, .int .i64 mp, .int .i64 me]] w
  (TookList g (listN name least most mp me N P l) (N ++ l.map (·.name)) (P ++ l.flatMap (·.ports)) (N.length + 20) (P.length + 200) w) := by
 have HL := hid hL
 have HT := hid hT
 have HC := hid hl
 have HBW := hid hb0
 have HLI := hid hlight
 have HOK := hid hT.ok
 have hlt := hT.lt
 clear hL hT hl hb0 hlight
 have long : ∀ w1 : World, Below w.heap.size w w1 → (l.length : Int) < least ∨ most < (l.length : Int) → ∀ e w2, Tells (newV 2 name) w1 e w2 → TookList g (listN name least most mp me N P l) (N ++ l.map (·.name)) (P ++ l.flatMap (·.ports)) (N.length + 20) (P.length + 200) w e w2 := by
  intro w1 h1 hc e w2 ht
  obtain ⟨E, rfl, h2, h3⟩ := ht
  have hE : listN name least most mp me N P l = newV 2 name := by unfold listN newV; rw [if_pos hc, if_neg (by decide)]
  rw [hE]
  exact ⟨N, P, tells_on (HT.out.keep h1) (.of_any h1) ⟨E, rfl, h2, h3⟩, fun h => by simp [newV] at h, by omega, by omega⟩
 have LONG := hid long
 clear long
 by_cases h1 : (l.length : Int) < least
 · go_enter Tryz.func131, Tryz.ntmps131
   go_wp2_with fail
   refine (new_says 2 name (w.heap.size + 1) 1 _ (by omega) (by simp)).mono ?_
   rintro e w2 hE
   have HX := hid (LONG.out _ (((Below.refl w.heap.size w).alloc (Nat.le_refl _) _).alloc (by simp) _) (.inl h1) e w2 hE)
   obtain ⟨E, rfl, _⟩ := hE
   go_wp2_with fail
   go_ret
   exact HX.out
 · by_cases h2 : most < (l.length : Int)
   · go_enter Tryz.func131, Tryz.ntmps131
     go_wp2_with fail
     refine (new_says 2 name (w.heap.size + 1) 1 _ (by omega) (by simp)).mono ?_
     rintro e w2 hE
     have HX := hid (LONG.out _ (((Below.refl w.heap.size w).alloc (Nat.le_refl _) _).alloc (by simp) _) (.inr h2) e w2 hE)
     obtain ⟨E, rfl, _⟩ := hE
     go_wp2_with fail
     go_ret
     exact HX.out
   · have HE := hid (show listN name least most mp me N P l = listFrom name mp me 0 N P l by unfold listN; rw [if_neg (by omega)])
     clear LONG
     go_enter Tryz.func131, Tryz.ntmps131
     go_wp2_with fail
     obtain ⟨w3, hw3⟩ : ∃ w3, w.alloc (.cells #[.int .i64 least, .int .i64 most, .int .i64 mp, .int .i64 me] 182) = w3 := ⟨_, rfl⟩
     have hb3 : Below w.heap.size w w3 := by rw [← hw3]; exact (Below.refl _ _).alloc (Nat.le_refl _) _
     have HB3 := hid hb3
     have HT3 := hid (HT.out.keep hb3)
     have HOK3 := hid HT3.out.ok
     have HB0 := hid (HBW.out.trans (hb3.mono HBW.out.size))
     have HB2 := hid (show w3.heap[w.heap.size]? = some (.cells #[.int .i64 least, .int .i64 most, .int .i64 mp, .int .i64 me] 182 (0, 0)) by
      rw [← hw3]; exact heap_alloc_new w _)
     have HO2 := hid (HT.out.ok.fresh hb3 (b := w.heap.size) (Nat.le_refl _) (by rw [← hw3]; simp)); rw [hw3]; obtain ⟨b2, hb2⟩ : ∃ b, w.heap.size = b := ⟨_, rfl⟩
     rw [hb2] at HB2 HO2 ⊢
     clear hw3 hb2 hb3
     go_loopw [29] (fun i wr => ∃ k : Nat, k ≤ l.length ∧ i = .int .i64 k ∧ Hid (Tk wr g (N ++ (l.take k).map (·.name)) (P ++ (l.take k).flatMap (·.ports))) ∧ Hid (Av g w3 wr) ∧ Hid (LsHere name mp me N P l k)) (fun i _ => l.length - (RowKit.intOf i).toNat)
     case atStart => exact ⟨0, Nat.zero_le _, rfl, by unfold Hid; simpa using HT3.out, Av.refl _ _, ls_zero _ _ _ _ _ _⟩
     case round =>
      obtain ⟨k, hk, rfl, HTk, HAv, HLs⟩ := hrel
      by_cases hkl : k < l.length
      · have hkn : (k : Int) < (l.length : Int) := by omega
        have HBr := hid (HAv.out.base HB0.out hg0)
        obtain ⟨hfit, a, PA, pc, hIA, ha, hcell, hnum⟩ := (HC.out).at hkl
        have HNX := hid hnum
        have hcr := hcell.keep (w' := wr) (by rw [add_block]; exact HBr.out.block _ ha)
        have hlx := HLI.out _ (List.getElem_mem hkl)
        have HAT := hid (ls_at HLs.out hkl); have HNEXT := hid (ls_next HLs.out hkl); have HTN := hid (take_next N P l hkl)
        have hlen1 : (N ++ (l.take k).map (·.name)).length ≤ N.length + 10 := by simp [List.length_take]; omega
        have hlen2 : (P ++ (l.take k).flatMap (·.ports)).length ≤ P.length + 100 := by
         have := flat_len (l.take k) (fun x hx => (HLI.out x (List.mem_of_mem_take hx)).2.2)
         rw [List.length_take] at this
         rw [List.length_append]; omega
        obtain ⟨x, hx⟩ : ∃ x, l[k] = x := ⟨_, rfl⟩
        rw [hx] at hcr hlx HAT HNEXT HNX HTN
        obtain ⟨Nk, hNk⟩ : ∃ Nk, N ++ (l.take k).map (·.name) = Nk := ⟨_, rfl⟩; obtain ⟨Pk, hPk⟩ : ∃ Pk, P ++ (l.take k).flatMap (·.ports) = Pk := ⟨_, rfl⟩
        rw [hNk] at HTk HAT HNEXT hlen1 HTN
        rw [hPk] at HTk HAT HNEXT hlen2 HTN
        have hbk := ((HAv.out.ok HOK3.out).2 b2 HO2.out).2.trans HB2.out
        have hbl := SpecOwn.lt_of_block hbk
        have HALL := hid (fun o => (Below.heap_alloc wr o b2 hbl).trans hbk)
        have g0 : ∀ o, (wr.alloc o).cell? ⟨b2, 0, none⟩ = some (.int .i64 least) := fun o => by simp [World.cell?, HALL.out o]
        have g1 : ∀ o, (wr.alloc o).cell? ⟨b2, 1, none⟩ = some (.int .i64 most) := fun o => by simp [World.cell?, HALL.out o]
        have g2 : ∀ o, (wr.alloc o).cell? ⟨b2, 2, none⟩ = some (.int .i64 mp) := fun o => by simp [World.cell?, HALL.out o]
        have g3 : ∀ o, (wr.alloc o).cell? ⟨b2, 3, none⟩ = some (.int .i64 me) := fun o => by simp [World.cell?, HALL.out o]
        obtain ⟨y0, y1, y2⟩ := hlx
        have hrun := fun (wn : World) (h1 : Below wb.heap.size wb wn) (h2 : Tk wn g Nk Pk) => container_any wb HL.out g hg0 x PA pc HNX.out (by omega) (by omega) (by omega) least most mp me Nk Pk (by omega) (by omega) wn h1 h2
        have hsz := oneN_size x Nk Pk mp me (by omega)
        obtain ⟨f0, f1, f2, f3, f4, f5, f6, f7, f8, f9, f10, _⟩ := hcr
        subst hIA; clear hcell hnum hx hNk hPk hbk; go_wp2_with fail
        have hal : Below wr.heap.size wr (wr.alloc (.cells #[.string x.name, .string x.image, .int .i64 x.rc, .int .i64 x.rm, .int .i64 x.rp, .int .i64 x.lc, .int .i64 x.lm, .int .i64 x.lp, .slice PA x.ports.length pc, .int .i64 x.ev, .int .i64 x.fl] 74)) := (Below.refl _ _).alloc (Nat.le_refl _) _
        have HAL := hid hal
        refine (hrun _ (HBr.out.trans (hal.mono HBr.out.size)) (HTk.out.keep hal)).mono ?_
        rintro e w5 ⟨E, rfl, hE, hA, hT⟩; have HAV5 := hid (HAv.out.trans ((Av.of_any hal).trans hA))
        have HT5 := hid hT
        have HE5 := hid hE
        have hnil := hE.nil_iff
        clear hrun hal hA hT g0 g1 g2 g3 f0 f1 f2 f3 f4 f5 f6 f7 f8 f9 f10; obtain ⟨y, hy⟩ : ∃ y, oneN x Nk Pk mp me = y := ⟨_, rfl⟩
        rw [hy] at HE5 HAT HNEXT hsz hnil
        have HY := hid hy
        by_cases hz : y.1 = 0
        · obtain rfl := hnil.2 hz
          have HNX2 := hid (HNEXT.out hz)
          have hna : nameAfter x.name Nk = Nk ++ [x.name] := by
           refine nameAfter_fine (firstV_fine (l := [nameN x.name Nk, imageN x.image, reqN x.rc x.rm x.rp, limN x.lc x.lm x.lp x.rc x.rm x.rp, portsL Pk mp x.ports, probeN x.ev x.fl me]) (show (oneN x Nk Pk mp me).1 = 0 by rw [hy]; exact hz) _ (by simp))
          have hpa : portsLAfter Pk mp x.ports = Pk ++ x.ports := by
           refine portsLAfter_fine (firstV_fine (l := [nameN x.name Nk, imageN x.image, reqN x.rc x.rm x.rp, limN x.lc x.lm x.lp x.rc x.rm x.rp, portsL Pk mp x.ports, probeN x.ev x.fl me]) (show (oneN x Nk Pk mp me).1 = 0 by rw [hy]; exact hz) _ (by simp))
          have HT6 := hid (show Tk w5 g (N ++ (l.take (k + 1)).map (·.name)) (P ++ (l.take (k + 1)).flatMap (·.ports)) by
           rw [HTN.out.1, HTN.out.2, ← hna, ← hpa]; exact HT5.out)
          clear hE hy hnil hna hpa; go_wp2
          go_roundw
          case rel => exact ⟨k + 1, by omega, by go_num, HT6.out, HAV5.out, HNX2.out⟩
          case measure => simp [RowKit.intOf]; omega
        · obtain ⟨uu, xx, rfl⟩ : ∃ uu xx, E = .iface uu xx := by
           rcases hE.form with h | h
           · exact absurd (hnil.1 h) hz
           · exact h
          have HF := hid (show listFrom name mp me 0 N P l = inV (atB name k) y by rw [HAT.out, if_neg hz])
          have HZ := hid hz
          have asz := SpecRef.atB_size name k (by omega)
          have hN2 := nameAfter_len x.name Nk
          have hP2 := portsLAfter_len x.ports Pk mp hmp0
          have HB5 := hid (HAV5.out.base HB0.out hg0); clear hE hy hnil hz; go_wp2_with fail
          refine (member_any name k (by omega) (by omega) w5 (HL.out.below HB5.out).tab).mono ?_
          rintro e w6 ⟨rfl, hb6⟩; obtain ⟨u, hu⟩ : ∃ u, atB name k = u := ⟨_, rfl⟩
          rw [hu] at HF asz ⊢
          have HT6 := hid (HT5.out.keep hb6); have HE6 := hid (Says.keep (D' := Off g w6) (w' := w6) HE5.out fun b h _ => ((Av.of_any hb6).ok HT5.out.ok).2 b h); have HAV6 := hid (HAV5.out.trans (.of_any hb6)); clear hb6 hu; go_wp2_with fail
          refine (in_says HE6.out u (by omega)).mono ?_
          rintro e w7 ⟨E', rfl, hE7, hb7⟩
          have HX := hid (show TookList g (inV u y) (N ++ l.map (·.name)) (P ++ l.flatMap (·.ports)) (N.length + 20) (P.length + 200) w (.returned E') w7 from
           ⟨_, _, ⟨_, rfl, Says.keep hE7 fun b hd hlt => ⟨hd.elim (fun h => ((Av.of_any hb7).ok HT6.out.ok).2 b h |>.1) fun h => HT6.out.ok.fresh hb7 h hlt, rfl⟩, (Av.of_any HB3.out).trans (HAV6.out.trans (.of_any hb7)), HT6.out.keep hb7⟩,
            fun h => absurd h (by unfold inV; rw [if_neg HZ.out]; exact HZ.out), by omega, by omega⟩)
          clear hE7 hb7; go_wp2
          go_ret
          rw [HE.out, HF.out]
          exact HX.out
      · have HF := hid (show listFrom name mp me 0 N P l = fine from ls_end HLs.out (by omega))
        have hkk : k = l.length := by omega
        subst hkk; go_wp2
        go_ret
        rw [HE.out, HF.out]
        have ht := HTk.out
        rw [List.take_length] at ht
        refine ⟨_, _, ⟨_, rfl, .inl ⟨rfl, rfl⟩, (Av.of_any HB3.out).trans HAv.out, ht⟩, fun _ => ⟨rfl, rfl⟩, ?_, ?_⟩
        · simp; omega
        · have := flat_len l (fun x hx => (HLI.out x hx).2.2)
          rw [List.length_append]; omega
theorem cell_new (w : World) (v : Value) (t : TypeId) : (w.alloc (.cells #[v] t)).cell? ⟨w.heap.size, 0, none⟩ = some v := by simp
theorem less_total : ∀ a b : List UInt8, (Op.bytesLess a b || (a == b)) = !(Op.bytesLess b a)
 | [], [] => rfl
 | [], b :: y => by simp [Op.bytesLess]
 | a :: x, [] => by simp [Op.bytesLess]
 | a :: x, b :: y => by
  have ih := less_total x y
  simp only [Op.bytesLess]
  by_cases h1 : a = b
  · subst h1
    simpa using ih
  · have h2 : (a == b) = false := by simpa using h1
    have h3 : (b == a) = false := by simpa using fun e => h1 e.symm
    have h4 : (a :: x == b :: y) = false := by simp [h1]
    rw [h4]; simp only [h2, h3, Bool.false_and, Bool.or_false]
    have : ¬ (a < b) ↔ b < a := by
     constructor
     · intro h; exact UInt8.lt_of_le_of_ne (UInt8.not_lt.1 h) (fun e => h1 e.symm)
     · intro h h'; exact absurd (UInt8.lt_trans h h') (UInt8.lt_irrefl _)
    by_cases h : a < b
    · have h' : ¬ b < a := fun e => (this.2 e) h
      simp [h, h']
    · have h' : b < a := this.1 h
      simp [h, h']
def LBox (x : Lbl) (w : World) (b : Nat) : Prop := w.heap[b]? = some (.cells #[.string x.key, .string x.val] 140 (0, 0))
theorem LBox.keep {x : Lbl} {w w' : World} {b : Nat} (h : LBox x w b) (hb : Below w.heap.size w w') : LBox x w' b := (hb.block b (lt_of_block h)).trans h
theorem labels_gen (name : ByteArray) (A : Option Addr) (cap : Nat) (l : List Lbl) (hn : name.size ≤ 1000) (hl : l.length ≤ 9223372036854775807) (hlight : ∀ x ∈ l, x.key.size < 4294967281 ∧ x.val.size ≤ 4294967281) (w : World) (hL : SLaid w) (h : Lbls w A l) :
 Calls Tryz.prog 133 #[.string name, .slice A l.length cap] w (Tells (labelsV name l) w) := by
 have H := hid h
 have HLI := hid hlight
 have HN := hid hn
 have HL := hid hL
 have hl' : (l.length : Int) ≤ 9223372036854775807 := by omega
 clear h hlight hL
 have said : ∀ (c : Int) (s : ByteArray) (w1 : World), c ≠ 0 → labelsV name l = (c, s) → Below w.heap.size w w1 → ∀ e w2, Tells (newV c s) w1 e w2 → Tells (labelsV name l) w e w2 := by
  intro c s w1 h0 he hb e w2 ht
  rw [he]
  have : newV c s = (c, s) := if_neg h0
  rw [← this]
  exact tells_mono ht hb
 have SAID := hid said
 clear said
 by_cases h4 : 4 < l.length
 · have HE := hid (show labelsV name l = (2, name) by unfold labelsV; rw [if_pos h4])
   go_enter Tryz.func133, Tryz.ntmps133
   go_wp2_with fail
   refine (new_says 2 name w.heap.size 1 _ (by omega) (by simp)).mono ?_
   rintro e w2 hE
   have HX := hid (SAID.out 2 name _ (by decide) HE.out ((Below.refl w.heap.size w).alloc (Nat.le_refl _) _) e w2 hE)
   obtain ⟨E, rfl, _⟩ := hE
   go_wp2_with fail
   go_ret
   exact HX.out
 · have HE := hid (show SpecRef.LHere name l 0 by unfold SpecRef.LHere labelsV; rw [if_neg h4]; rfl)
   have H4 := hid h4
   go_enter Tryz.func133, Tryz.ntmps133
   go_wp2_with fail
   go_loopw [18] (fun i wr => ∃ k : Nat, k ≤ l.length ∧ i = .int .i64 k ∧ Hid (SpecRef.LHere name l k) ∧ Hid (Below w.heap.size w wr)) (fun i _ => l.length - (RowKit.intOf i).toNat)
   case atStart => exact ⟨0, Nat.zero_le _, rfl, HE.out, Below.refl _ _⟩
   case round =>
    obtain ⟨k, hk, rfl, HK, HW⟩ := hrel
    by_cases hlt : k < l.length
    · obtain ⟨p, rfl, hp, hc⟩ := (H.out.below HW.out).at hlt
      obtain ⟨x, hx⟩ : ∃ x, l[k] = x := ⟨_, rfl⟩
      rw [hx] at hc
      have hxm : x ∈ l := hx ▸ List.getElem_mem hlt
      have hkx := (HLI.out x hxm).1
      have hvx := (HLI.out x hxm).2
      obtain ⟨c0, c1⟩ := hc
      have HX := hid hx
      clear hx hxm
      have hkn : (k : Int) < (l.length : Int) := by omega
      have HS := hid (show labelsV name l = labelsFrom name k (if k = 0 then none else l[k - 1]?) (x :: l.drop (k + 1)) by
       have := HK.out
       unfold SpecRef.LHere at this
       rw [this, List.drop_eq_getElem_cons hlt, HX.out])
      have hks := HN.out
      have hasz := SpecRef.atB_size name k (by omega)
      go_wp2_with fail
      obtain ⟨w3, hw3⟩ : ∃ w3, wr.alloc (.cells #[.string x.key, .string x.val] 140) = w3 := ⟨_, rfl⟩
      have hb3 : Below wr.heap.size wr w3 := by rw [← hw3]; exact (Below.refl _ _).alloc (Nat.le_refl _) _
      have HBX3 := hid (show LBox x w3 wr.heap.size by rw [← hw3]; exact heap_alloc_new wr _); have HW3 := hid (HW.out.trans (hb3.mono HW.out.size)); rw [hw3]; obtain ⟨bx, hbx⟩ : ∃ b, wr.heap.size = b := ⟨_, rfl⟩
      rw [hbx] at HBX3 ⊢
      clear hw3 hbx hb3 c0 c1 hp
      refine (member_any name k (by omega) (by omega) w3 (HL.out.below HW3.out).tab).mono ?_
      rintro e w4 ⟨rfl, hb4⟩; have HBX4 := hid (HBX3.out.keep hb4); have HW4 := hid (HW3.out.trans (hb4.mono HW3.out.size)); obtain ⟨u, hu⟩ : ∃ u, atB name k = u := ⟨_, rfl⟩
      rw [hu] at hasz ⊢
      have HU := hid hu
      have hadd1 : ∀ v, (Op.stringOp .add u ⟨#[46, 107, 101, 121]⟩).run Tryz.prog v = .ok (.string (u ++ ⟨#[46, 107, 101, 121]⟩)) v := fun v => run_string_add_sum v _ _ (by show _ + 4 ≤ _; omega)
      have hadd2 : ∀ v, (Op.stringOp .add u ⟨#[46, 118, 97, 108]⟩).run Tryz.prog v = .ok (.string (u ++ ⟨#[46, 118, 97, 108]⟩)) v := fun v => run_string_add_sum v _ _ (by show _ + 4 ≤ _; omega)
      have hkz : (u ++ ⟨#[46, 107, 101, 121]⟩ : ByteArray).size ≤ 100000 := by rw [ByteArray.size_append]; show _ + 4 ≤ _; omega
      have hvz : (u ++ ⟨#[46, 118, 97, 108]⟩ : ByteArray).size ≤ 100000 := by rw [ByteArray.size_append]; show _ + 4 ≤ _; omega
      obtain ⟨d0, d1, _, _⟩ := two_cells HBX4.out
      clear hb4 hu; go_wp2_with fail
      refine (Text.key_any x.key (by omega) w4 (HL.out.below HW4.out).text).mono ?_
      rintro e w5 ⟨rfl, hb5⟩; have HBX5 := hid (HBX4.out.keep hb5); have HW5 := hid (HW4.out.trans (hb5.mono HW4.out.size)); clear hb5 d0 d1
      cases hkey : TextPure.keyL x.key.data.toList with
      | false =>
       have HC : Hid (Text.codeN false 31 = 31) := hid rfl
       rw [HC.out]; have HD := hid (show labelsV name l = (31, u ++ t_key) by rw [HS.out, labelsFrom_cons, if_pos (show isKey x.key = false from hkey), HU.out]); clear hkey; go_wp2_with fail
       refine (new_says 31 (u ++ t_key) w5.heap.size 1 _ hkz (by simp [t_key])).mono ?_
       rintro e w6 hE
       have HF := hid (SAID.out 31 _ _ (by decide) HD.out (HW5.out.alloc HW5.out.size _) e w6 hE)
       obtain ⟨E, rfl, _⟩ := hE
       go_wp2_with fail
       go_ret
       exact HF.out
      | true =>
       have HC : Hid (Text.codeN true 31 = 0) := hid rfl
       rw [HC.out]
       have HKEY := hid hkey
       clear hkey
       obtain ⟨d0, d1, _, _⟩ := two_cells HBX5.out
       obtain ⟨o, ho⟩ : ∃ o, notMore (if k = 0 then none else l[k - 1]?) x = o := ⟨_, rfl⟩
       have HO := hid ho
       rcases k with _ | m
       · have ho' : o = false := by rw [← ho]; rfl
         subst ho'
         clear ho; go_wp2_with fail
         go_quiet (fail)
         go_wp2_with fail
         refine (Text.val_any x.val (by unfold maxLen; omega) _ (HL.out.below (HW5.out.trans ((Kit.below_drewN _ _ _).mono HW5.out.size))).text).mono ?_
         rintro e w6 ⟨rfl, rfl⟩
         cases hval : TextPure.valL x.val.data.toList with
         | false =>
          have HC2 : Hid (Text.codeN false 32 = 32) := hid rfl
          rw [HC2.out]; have HD := hid (show labelsV name l = (32, u ++ t_val) by rw [HS.out, labelsFrom_cons, if_neg (show ¬ isKey x.key = false by show ¬ TextPure.keyL _ = _; rw [HKEY.out]; simp), if_neg (show ¬ notMore _ x = true by rw [HO.out]; simp), if_pos (show isVal x.val = false from hval), HU.out]); clear hval; go_wp2_with fail
          refine (new_says 32 (u ++ t_val) _ 1 _ hvz (cell_new _ _ _)).mono ?_
          rintro e w7 hE
          have HF := hid (SAID.out 32 _ _ (by decide) HD.out (HW5.out.trans (((Kit.below_drewN _ _ _).alloc (Nat.le_refl _) _).mono HW5.out.size)) e w7 hE)
          obtain ⟨E, rfl, _⟩ := hE
          go_wp2_with fail
          go_ret
          exact HF.out
         | true =>
          have HC2 : Hid (Text.codeN true 32 = 0) := hid rfl
          rw [HC2.out]
          have HNX := hid (show SpecRef.LHere name l (0 + 1) by
           unfold SpecRef.LHere
           rw [HS.out, labelsFrom_cons, if_neg (show ¬ isKey x.key = false by show ¬ TextPure.keyL _ = _; rw [HKEY.out]; simp), if_neg (show ¬ notMore _ x = true by rw [HO.out]; simp), if_neg (show ¬ isVal x.val = false by show ¬ TextPure.valL _ = _; rw [hval]; simp), if_neg (by omega), show 0 + 1 - 1 = 0 by omega, List.getElem?_eq_getElem hlt, HX.out])
          clear hval; go_wp2
          go_roundw
          case rel => exact ⟨0 + 1, by omega, by go_num, HNX.out, HW5.out.trans ((Kit.below_drewN _ _ _).mono HW5.out.size)⟩
          case measure => simp [RowKit.intOf]; omega
       · obtain ⟨p', hpp, hpb, hcp⟩ := (H.out.below HW5.out).at (k := m) (by omega)
         injection hpp with hpp
         subst hpp; obtain ⟨y, hy⟩ : ∃ y, l[m] = y := ⟨_, rfl⟩
         have ho' : o = !(Op.bytesLess y.key.toList x.key.toList) := by
          rw [← ho, if_neg (by omega), show m + 1 - 1 = m by omega, List.getElem?_eq_getElem (by omega), hy]; rfl
         rw [hy] at hcp
         obtain ⟨g0, g1⟩ := hcp
         have hwr : IntKind.i64.wrap (m : Int) = (m : Int) := IntWalk.i64_in _ (by omega)
         have hm0 : (0 : Int) ≤ (m : Int) := by omega
         have hmn : (m : Int) < (l.length : Int) := by omega
         have hmn1 : (m : Int) + 1 < (l.length : Int) := by omega
         have hmn2 : m < l.length := by omega
         have hp0 : (0 : Int) ≤ (m : Int) + 1 := by omega
         have hp1 : ((m : Int) + 1).toNat = m + 1 := by omega
         clear ho hy g1
         cases o with
         | true =>
          have hbl : Op.bytesLess y.key.toList x.key.toList = false := by simpa using ho'.symm
          have hge : ∀ v, (binOp .leq 9 (.string x.key) (.string y.key)).run Tryz.prog v = .ok (.bool true) v := fun v => by
           have ht := less_total x.key.toList y.key.toList
           rw [hbl] at ht
           simp [binOp, Op.stringOp]; simpa using ht
          clear ho' hbl; go_wp2_with fail
          go_quiet (fail)
          have HD := hid (show labelsV name l = (4, u ++ t_key) by rw [HS.out, labelsFrom_cons, if_neg (show ¬ isKey x.key = false by show ¬ TextPure.keyL _ = _; rw [HKEY.out]; simp), if_pos HO.out, HU.out]); go_wp2_with fail
          refine (new_says 4 (u ++ t_key) _ 1 _ hkz (cell_new _ _ _)).mono ?_
          rintro e w7 hE
          have HF := hid (SAID.out 4 _ _ (by decide) HD.out (HW5.out.trans (((Kit.below_drewN _ _ _).alloc (Nat.le_refl _) _).mono HW5.out.size)) e w7 hE)
          obtain ⟨E, rfl, _⟩ := hE
          go_wp2_with fail
          go_ret
          exact HF.out
         | false =>
          have hbl : Op.bytesLess y.key.toList x.key.toList = true := by simpa using ho'.symm
          have hge : ∀ v, (binOp .leq 9 (.string x.key) (.string y.key)).run Tryz.prog v = .ok (.bool false) v := fun v => by
           have ht := less_total x.key.toList y.key.toList
           rw [hbl] at ht
           simp [binOp, Op.stringOp]; simpa using ht
          clear ho' hbl; go_wp2_with fail
          go_quiet (fail)
          go_wp2_with fail
          refine (Text.val_any x.val (by unfold maxLen; omega) _ (HL.out.below (HW5.out.trans ((Kit.below_drewN _ _ _).mono HW5.out.size))).text).mono ?_
          rintro e w6 ⟨rfl, rfl⟩
          cases hval : TextPure.valL x.val.data.toList with
          | false =>
           have HC2 : Hid (Text.codeN false 32 = 32) := hid rfl
           rw [HC2.out]; have HD := hid (show labelsV name l = (32, u ++ t_val) by rw [HS.out, labelsFrom_cons, if_neg (show ¬ isKey x.key = false by show ¬ TextPure.keyL _ = _; rw [HKEY.out]; simp), if_neg (show ¬ notMore _ x = true by rw [HO.out]; simp), if_pos (show isVal x.val = false from hval), HU.out]); clear hval; go_wp2_with fail
           refine (new_says 32 (u ++ t_val) _ 1 _ hvz (cell_new _ _ _)).mono ?_
           rintro e w7 hE
           have HF := hid (SAID.out 32 _ _ (by decide) HD.out (HW5.out.trans (((Kit.below_drewN _ _ _).alloc (Nat.le_refl _) _).mono HW5.out.size)) e w7 hE)
           obtain ⟨E, rfl, _⟩ := hE
           go_wp2_with fail
           go_ret
           exact HF.out
          | true =>
           have HC2 : Hid (Text.codeN true 32 = 0) := hid rfl
           rw [HC2.out]
           have HNX := hid (show SpecRef.LHere name l ((m + 1) + 1) by
            unfold SpecRef.LHere
            rw [HS.out, labelsFrom_cons, if_neg (show ¬ isKey x.key = false by show ¬ TextPure.keyL _ = _; rw [HKEY.out]; simp), if_neg (show ¬ notMore _ x = true by rw [HO.out]; simp), if_neg (show ¬ isVal x.val = false by show ¬ TextPure.valL _ = _; rw [hval]; simp), if_neg (by omega), show (m + 1) + 1 - 1 = (m + 1) by omega, List.getElem?_eq_getElem hlt, HX.out])
           clear hval; go_wp2
           go_roundw
           case rel => exact ⟨(m + 1) + 1, by omega, by go_num, HNX.out, HW5.out.trans ((Kit.below_drewN _ _ _).mono HW5.out.size)⟩
           case measure => simp [RowKit.intOf]; omega
    · have HD := hid (show labelsV name l = fine by have := HK.out; unfold SpecRef.LHere at this; rw [this, List.drop_eq_nil_of_le (by omega)]; rfl)
      go_wp2
      go_ret
      rw [HD.out]
      exact told_fine _ _ HW.out
theorem labels_any (name : ByteArray) (A : Option Addr) (cap : Nat) (l : List Lbl) (hn : name.size ≤ 1000) (hl : l.length ≤ 9223372036854775807) (hlight : ∀ x ∈ l, x.key.size ≤ 100 ∧ x.val.size ≤ 100) (w : World) (hL : SLaid w) (h : Lbls w A l) :
 Calls Tryz.prog 133 #[.string name, .slice A l.length cap] w (Tells (labelsV name l) w) :=
 labels_gen name A cap l hn hl (fun x hx => by have := hlight x hx; omega) w hL h
end SpecOwn
end Go.Proofs.YtljbpelogjmciaaGreatDoor
