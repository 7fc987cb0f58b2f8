/-
  Facts that stay true through a region: a text in a list of its own, what an error says, a list of errors; a list of errors built, and the first of them. No condition. And what follows of it, part by part, each with its conditions.
-/
import Derived.Test.YtaegknpijgjioaaGreatDoorSpecStepAll
import Derived.Test.YtaegknpijgjioaaGreatDoorRegionAll
import Derived.Great.BuildSlice
import Derived.Deep.QuietTactic
import Derived.BigQuiet
/- Facts that stay true through a region: a text in a list of its own, what an error says, a list of errors; a list of errors built, and the first of them. No condition. -/
namespace Go.Proofs.YtaegknpijgjioaaGreatDoor
open Go.ChangeShapes Go.WideShapes Go.ChangeAt Go.RowKit Go.Lib
open Sd Lists
namespace SpecOwn

theorem put_lit (l : List Value) (ds : List Deferred) (d : Nat) (v : Value) : (Act.mk l.toArray ds).put (some d) v = Act.mk (l.set d v).toArray ds := by
  simp [Act.put]
/-- a list of one text, in a block of K -/
def TextK (K : World → Nat → Prop) (s : ByteArray) (v : Value) (w : World) : Prop := ∃ g, v = .slice (some ⟨g, 0, none⟩) 1 1 ∧ K w g ∧ w.cell? ⟨g, 0, none⟩ = some (.string s)
/-- an error that says y, its steps in blocks of K -/
def SaysK (K : World → Nat → Prop) (y : Say) (v : Value) (w : World) : Prop := Says (K w) w v y
def AllSays (D : Nat → Prop) (w : World) : List Value → List Say → Prop
  | [], [] => True
  | E :: Es, y :: ys => Says D w E y ∧ AllSays D w Es ys
  | _, _ => False
/-- a list of errors, in a block of K -/
def RowK (K : World → Nat → Prop) (ys : List Say) (v : Value) (w : World) : Prop := ∃ g Es, v = .slice (some ⟨g, 0, none⟩) ys.length ys.length ∧ g < w.heap.size ∧ K w g ∧ AllSays (K w) w Es ys ∧ ∀ (k : Nat) (E : Value), Es[k]? = some E → w.cell? ⟨g, k, none⟩ = some E
theorem AllSays.keep {D D' : Nat → Prop} {w w' : World} (hd : ∀ b, D b → b < w.heap.size → D' b ∧ w'.heap[b]? = w.heap[b]?) : ∀ {Es : List Value} {ys : List Say}, AllSays D w Es ys → AllSays D' w' Es ys
  | [], [], _ => trivial
  | _ :: _, _ :: _, h => ⟨h.1.keep hd, AllSays.keep hd h.2⟩
  | [], _ :: _, h => h.elim
  | _ :: _, [], h => h.elim
theorem AllSays.length {D : Nat → Prop} {w : World} : ∀ {Es : List Value} {ys : List Say}, AllSays D w Es ys → Es.length = ys.length
  | [], [], _ => rfl
  | _ :: _, _ :: _, h => by rw [List.length_cons, List.length_cons, AllSays.length h.2]
  | [], _ :: _, h => h.elim
  | _ :: _, [], h => h.elim
theorem AllSays.at {D : Nat → Prop} {w : World} : ∀ {Es : List Value} {ys : List Say}, AllSays D w Es ys → ∀ (k : Nat) (E : Value) (y : Say), Es[k]? = some E → ys[k]? = some y → Says D w E y
  | [], [], _, _, _, _, h, _ => by simp at h
  | E :: Es, y :: ys, h, 0, _, _, h1, h2 => by
    simp at h1 h2
    subst h1 h2
    exact h.1
  | E :: Es, y :: ys, h, k + 1, _, _, h1, h2 => AllSays.at h.2 k _ _ (by simpa using h1) (by simpa using h2)
  | [], _ :: _, h, _, _, _, _, _ => h.elim
  | _ :: _, [], h, _, _, _, _, _ => h.elim
theorem TextK.keep {K : World → Nat → Prop} {s : ByteArray} {v : Value} {w w' : World} (h : TextK K s v w) (hd : ∀ b, K w b → b < w.heap.size → K w' b ∧ w'.heap[b]? = w.heap[b]?) : TextK K s v w' := by
  obtain ⟨g, h1, h2, h3⟩ := h
  obtain ⟨h4, h5⟩ := hd g h2 (Err.lt_of_cell h3)
  exact ⟨g, h1, h4, (World.cell?_of_block (w := w) (a := ⟨g, 0, none⟩) h5).trans h3⟩
theorem SaysK.keep {K : World → Nat → Prop} {y : Say} {v : Value} {w w' : World} (h : SaysK K y v w) (hd : ∀ b, K w b → b < w.heap.size → K w' b ∧ w'.heap[b]? = w.heap[b]?) : SaysK K y v w' := Says.keep h hd
theorem RowK.keep {K : World → Nat → Prop} {ys : List Say} {v : Value} {w w' : World} (h : RowK K ys v w) (hd : ∀ b, K w b → b < w.heap.size → K w' b ∧ w'.heap[b]? = w.heap[b]?) : RowK K ys v w' := by
  obtain ⟨g, Es, h1, hl, h2, h3, h4⟩ := h
  obtain ⟨h5, h6⟩ := hd g h2 hl
  refine ⟨g, Es, h1, ?_, h5, h3.keep hd, fun k E hk => (World.cell?_of_block (w := w) (a := ⟨g, k, none⟩) h6).trans (h4 k E hk)⟩
  rw [Array.getElem?_eq_getElem hl] at h6
  exact (Array.getElem?_eq_some_iff.1 h6).1
theorem cells_form {E : Value} (h : E = .nilIface ∨ ∃ u x, E = .iface u x) : E.cells = #[E] := by
  rcases h with rfl | ⟨u, x, rfl⟩ <;> rfl
theorem info_error : (Tryz.prog.info? 66).map (fun i => (i.zero, i.size, i.bytes)) = some (some .nilIface, 1, 16) := by kernel_rfl
theorem build_errs (n : Nat) (parts : Array (Nat × Value)) (cells : Array Value) (w : World) (hn : 0 < n) (hn2 : n ≤ 1000) (h : Instr.fill (fun i => some (i * 1, 1)) ((Array.range (n * 1)).map (Value.nilIface.cells[· % Value.nilIface.cells.size]!)) parts.toList = some cells) :
    (Instr.buildSlice 171 n parts).run Tryz.prog w = .ok (.slice (some ⟨w.heap.size, 0, none⟩) n n) (w.alloc (.cells cells 66)) := by
  obtain ⟨ie, hie, hz, hs, _⟩ := info_parts info_error
  exact run_buildSlice w _ _ n parts cells ie .nilIface Tryz.underlying171 hie hz (by rw [hs]; omega) (by rw [hs]; omega) (by rw [hs]; exact h)
theorem build2 (E0 E1 : Value) (w : World) (h0 : E0.cells = #[E0]) (h1 : E1.cells = #[E1]) :
    (Instr.buildSlice 171 2 #[(0, E0), (1, E1)]).run Tryz.prog w = .ok (.slice (some ⟨w.heap.size, 0, none⟩) 2 2) (w.alloc (.cells #[E0, E1] 66)) :=
  build_errs 2 _ _ w (by decide) (by decide) (by
    rw [show (Array.range (2 * 1)).map (Value.nilIface.cells[· % Value.nilIface.cells.size]!) = #[.nilIface, .nilIface] from by kernel_rfl]
    simp [Instr.fill, h0, h1])
theorem build3 (E0 E1 E2 : Value) (w : World) (h0 : E0.cells = #[E0]) (h1 : E1.cells = #[E1]) (h2 : E2.cells = #[E2]) :
    (Instr.buildSlice 171 3 #[(0, E0), (1, E1), (2, E2)]).run Tryz.prog w = .ok (.slice (some ⟨w.heap.size, 0, none⟩) 3 3) (w.alloc (.cells #[E0, E1, E2] 66)) :=
  build_errs 3 _ _ w (by decide) (by decide) (by
    rw [show (Array.range (3 * 1)).map (Value.nilIface.cells[· % Value.nilIface.cells.size]!) = #[.nilIface, .nilIface, .nilIface] from by kernel_rfl]
    simp [Instr.fill, h0, h1, h2])
theorem build6 (E0 E1 E2 E3 E4 E5 : Value) (w : World) (h0 : E0.cells = #[E0]) (h1 : E1.cells = #[E1]) (h2 : E2.cells = #[E2]) (h3 : E3.cells = #[E3]) (h4 : E4.cells = #[E4]) (h5 : E5.cells = #[E5]) :
    (Instr.buildSlice 171 6 #[(0, E0), (1, E1), (2, E2), (3, E3), (4, E4), (5, E5)]).run Tryz.prog w = .ok (.slice (some ⟨w.heap.size, 0, none⟩) 6 6) (w.alloc (.cells #[E0, E1, E2, E3, E4, E5] 66)) :=
  build_errs 6 _ _ w (by decide) (by decide) (by
    rw [show (Array.range (6 * 1)).map (Value.nilIface.cells[· % Value.nilIface.cells.size]!) = #[.nilIface, .nilIface, .nilIface, .nilIface, .nilIface, .nilIface] from by kernel_rfl]
    simp [Instr.fill, h0, h1, h2, h3, h4, h5])
theorem build7 (E0 E1 E2 E3 E4 E5 E6 : Value) (w : World) (h0 : E0.cells = #[E0]) (h1 : E1.cells = #[E1]) (h2 : E2.cells = #[E2]) (h3 : E3.cells = #[E3]) (h4 : E4.cells = #[E4]) (h5 : E5.cells = #[E5]) (h6 : E6.cells = #[E6]) :
    (Instr.buildSlice 171 7 #[(0, E0), (1, E1), (2, E2), (3, E3), (4, E4), (5, E5), (6, E6)]).run Tryz.prog w = .ok (.slice (some ⟨w.heap.size, 0, none⟩) 7 7) (w.alloc (.cells #[E0, E1, E2, E3, E4, E5, E6] 66)) :=
  build_errs 7 _ _ w (by decide) (by decide) (by
    rw [show (Array.range (7 * 1)).map (Value.nilIface.cells[· % Value.nilIface.cells.size]!) = #[.nilIface, .nilIface, .nilIface, .nilIface, .nilIface, .nilIface, .nilIface] from by kernel_rfl]
    simp [Instr.fill, h0, h1, h2, h3, h4, h5, h6])
theorem row_made {K : World → Nat → Prop} {w : World} (Es : List Value) (ys : List Say) (n : Nat) (hn : ys.length = n) (hK : K (w.alloc (.cells Es.toArray 66)) w.heap.size)
    (hd : ∀ b, K w b → b < w.heap.size → K (w.alloc (.cells Es.toArray 66)) b ∧ (w.alloc (.cells Es.toArray 66)).heap[b]? = w.heap[b]?) (h : AllSays (K w) w Es ys) : RowK K ys (.slice (some ⟨w.heap.size, 0, none⟩) n n) (w.alloc (.cells Es.toArray 66)) := by
  subst hn
  refine ⟨w.heap.size, Es, rfl, by simp, hK, h.keep hd, fun k E hk => ?_⟩
  simp only [World.cell?, heap_alloc_new]
  simpa using hk
theorem text_made {K : World → Nat → Prop} {w : World} (s : ByteArray) (hK : K (w.alloc (.cells #[.string s] 9)) w.heap.size) : TextK K s (.slice (some ⟨w.heap.size, 0, none⟩) 1 1) (w.alloc (.cells #[.string s] 9)) :=
  ⟨w.heap.size, rfl, hK, by simp⟩
/-- from block B on -/
def KB (B : Nat) (_ : World) (b : Nat) : Prop := B ≤ b
theorem kb_keep {B : Nat} {w w' : World} (hb : Below w.heap.size w w') : ∀ b, KB B w b → b < w.heap.size → KB B w' b ∧ w'.heap[b]? = w.heap[b]? := fun b h hl => ⟨h, hb.block b hl⟩
theorem kb_tells {B : Nat} {y : Say} {w w' : World} {E : Value} (hB : B ≤ w.heap.size) (h : Says (fun b => w.heap.size ≤ b) w' E y) : SaysK (KB B) y E w' := Says.keep h fun _ hb _ => ⟨Nat.le_trans hB hb, rfl⟩
/-- off what is taken -/
def KO (g : Nat) (w : World) (b : Nat) : Prop := Ok g w ∧ Off g w b
theorem ko_keep {g : Nat} {w w' : World} (hA : Av g w w') : ∀ b, KO g w b → b < w.heap.size → KO g w' b ∧ w'.heap[b]? = w.heap[b]? := fun b h _ =>
  ⟨⟨(hA.ok h.1).1, ((hA.ok h.1).2 b h.2).1⟩, ((hA.ok h.1).2 b h.2).2⟩
theorem ko_new {g : Nat} {w w' : World} (hok : Ok g w) (hb : Below w.heap.size w w') {b : Nat} (h1 : w.heap.size ≤ b) (h2 : b < w'.heap.size) : KO g w' b := ⟨((Av.of_any hb).ok hok).1, hok.fresh hb h1 h2⟩
theorem ko_tells {g : Nat} {y : Say} {w w' : World} {E : Value} (hok : Ok g w) (hb : Below w.heap.size w w') (h : Says (fun b => w.heap.size ≤ b) w' E y) : SaysK (KO g) y E w' := Says.keep h fun _ h1 h2 => ⟨ko_new hok hb h1 h2, rfl⟩
end SpecOwn
end Go.Proofs.YtaegknpijgjioaaGreatDoor

/- The contract of spec.Labels: what is said of labels. All that was there is left as it was. Conditions: as SpecStep; the texts are short. -/
namespace Go.Proofs.YtaegknpijgjioaaGreatDoor
open Go.ChangeShapes Go.WideShapes Go.ChangeAt Go.RowKit Go.Lib
open Sd Lists
namespace SpecOwn

theorem cell_new (w : World) (v : Value) (t : TypeId) : (w.alloc (.cells #[v] t)).cell? ⟨w.heap.size, 0, none⟩ = some v := by simp
theorem less_total : ∀ a b : List UInt8, (Op.bytesLess a b || (a == b)) = !(Op.bytesLess b a)
  | [], [] => rfl
  | [], b :: y => by simp [Op.bytesLess]
  | a :: x, [] => by simp [Op.bytesLess]
  | a :: x, b :: y => by
    have ih := less_total x y
    simp only [Op.bytesLess]
    by_cases h1 : a = b
    · subst h1
      simpa using ih
    · have h2 : (a == b) = false := by simpa using h1
      have h3 : (b == a) = false := by simpa using fun e => h1 e.symm
      have h4 : (a :: x == b :: y) = false := by simp [h1]
      rw [h4]
      simp only [h2, h3, Bool.false_and, Bool.or_false]
      have : ¬ (a < b) ↔ b < a := by
        constructor
        · intro h; exact UInt8.lt_of_le_of_ne (UInt8.not_lt.1 h) (fun e => h1 e.symm)
        · intro h h'; exact absurd (UInt8.lt_trans h h') (UInt8.lt_irrefl _)
      by_cases h : a < b
      · have h' : ¬ b < a := fun e => (this.2 e) h
        simp [h, h']
      · have h' : b < a := this.1 h
        simp [h, h']
def LBox (x : Lbl) (w : World) (b : Nat) : Prop := w.heap[b]? = some (.cells #[.string x.key, .string x.val] 49 (0, 0))
theorem LBox.keep {x : Lbl} {w w' : World} {b : Nat} (h : LBox x w b) (hb : Below w.heap.size w w') : LBox x w' b := (hb.block b (lt_of_block h)).trans h
set_option maxRecDepth 100000 in
set_option maxHeartbeats 4000000 in
theorem labels_gen (name : ByteArray) (A : Option Addr) (cap : Nat) (l : List Lbl) (hn : name.size ≤ 1000) (hl : l.length ≤ 9223372036854775807) (hlight : ∀ x ∈ l, x.key.size < 4294967281 ∧ x.val.size ≤ 4294967281) (w : World) (hL : SLaid w) (h : Lbls w A l) :
    Calls Tryz.prog 35 #[.string name, .slice A l.length cap] w (Tells (labelsV name l) w) := by
  have H := Lib.hid h
  have HLI := Lib.hid hlight
  have HN := Lib.hid hn
  have HL := Lib.hid hL
  have hl' : (l.length : Int) ≤ 9223372036854775807 := by omega
  clear h hlight hL
  have said : ∀ (c : Int) (s : ByteArray) (w1 : World), c ≠ 0 → labelsV name l = (c, s) → Below w.heap.size w w1 → ∀ e w2, Tells (newV c s) w1 e w2 → Tells (labelsV name l) w e w2 := by
    intro c s w1 h0 he hb e w2 ht
    rw [he]
    have : newV c s = (c, s) := if_neg h0
    rw [← this]
    exact tells_mono ht hb
  have SAID := Lib.hid said
  clear said
  by_cases h4 : 4 < l.length
  · have HE := Lib.hid (show labelsV name l = (2, name) by unfold labelsV; rw [if_pos h4])
    go_enter Tryz.func35, Tryz.ntmps35
    go_wp2_with fail
    refine (new_says 2 name w.heap.size 1 _ (by omega) (by simp)).mono ?_
    rintro e w2 hE
    have HX := Lib.hid (SAID.out 2 name _ (by decide) HE.out ((Below.refl w.heap.size w).alloc (Nat.le_refl _) _) e w2 hE)
    obtain ⟨E, rfl, _⟩ := hE
    go_wp2_with fail
    go_ret
    exact HX.out
  · have HE := Lib.hid (show SpecRef.LHere name l 0 by unfold SpecRef.LHere labelsV; rw [if_neg h4]; rfl)
    have H4 := Lib.hid h4
    go_enter Tryz.func35, Tryz.ntmps35
    go_wp2_with fail
    go_loopw [18] (fun i wr => ∃ k : Nat, k ≤ l.length ∧ i = .int .i64 k ∧ Hid (SpecRef.LHere name l k) ∧ Hid (Below w.heap.size w wr)) (fun i _ => l.length - (RowKit.intOf i).toNat)
    case atStart => exact ⟨0, Nat.zero_le _, rfl, HE.out, Below.refl _ _⟩
    case round =>
      obtain ⟨k, hk, rfl, HK, HW⟩ := hrel
      by_cases hlt : k < l.length
      · obtain ⟨p, rfl, hp, hc⟩ := (H.out.below HW.out).at hlt
        obtain ⟨x, hx⟩ : ∃ x, l[k] = x := ⟨_, rfl⟩
        rw [hx] at hc
        have hxm : x ∈ l := hx ▸ List.getElem_mem hlt
        have hkx := (HLI.out x hxm).1
        have hvx := (HLI.out x hxm).2
        obtain ⟨c0, c1⟩ := hc
        have HX := Lib.hid hx
        clear hx hxm
        have hkn : (k : Int) < (l.length : Int) := by omega
        have HS := Lib.hid (show labelsV name l = labelsFrom name k (if k = 0 then none else l[k - 1]?) (x :: l.drop (k + 1)) by
          have := HK.out
          unfold SpecRef.LHere at this
          rw [this, List.drop_eq_getElem_cons hlt, HX.out])
        have hks := HN.out
        have hasz := SpecRef.atB_size name k (by omega)
        go_wp2_with fail
        obtain ⟨w3, hw3⟩ : ∃ w3, wr.alloc (.cells #[.string x.key, .string x.val] 49) = w3 := ⟨_, rfl⟩
        have hb3 : Below wr.heap.size wr w3 := by rw [← hw3]; exact (Below.refl _ _).alloc (Nat.le_refl _) _
        have HBX3 := Lib.hid (show LBox x w3 wr.heap.size by rw [← hw3]; exact heap_alloc_new wr _)
        have HW3 := Lib.hid (HW.out.trans (hb3.mono HW.out.size))
        rw [hw3]
        obtain ⟨bx, hbx⟩ : ∃ b, wr.heap.size = b := ⟨_, rfl⟩
        rw [hbx] at HBX3 ⊢
        clear hw3 hbx hb3 c0 c1 hp
        refine (member_any name k (by omega) (by omega) w3 (HL.out.below HW3.out).tab).mono ?_
        rintro e w4 ⟨rfl, hb4⟩
        have HBX4 := Lib.hid (HBX3.out.keep hb4)
        have HW4 := Lib.hid (HW3.out.trans (hb4.mono HW3.out.size))
        obtain ⟨u, hu⟩ : ∃ u, atB name k = u := ⟨_, rfl⟩
        rw [hu] at hasz ⊢
        have HU := Lib.hid hu
        have hadd1 : ∀ v, (Op.stringOp .add u ⟨#[46, 107, 101, 121]⟩).run Tryz.prog v = .ok (.string (u ++ ⟨#[46, 107, 101, 121]⟩)) v := fun v => run_string_add_sum v _ _ (by show _ + 4 ≤ _; omega)
        have hadd2 : ∀ v, (Op.stringOp .add u ⟨#[46, 118, 97, 108]⟩).run Tryz.prog v = .ok (.string (u ++ ⟨#[46, 118, 97, 108]⟩)) v := fun v => run_string_add_sum v _ _ (by show _ + 4 ≤ _; omega)
        have hkz : (u ++ ⟨#[46, 107, 101, 121]⟩ : ByteArray).size ≤ 100000 := by rw [ByteArray.size_append]; show _ + 4 ≤ _; omega
        have hvz : (u ++ ⟨#[46, 118, 97, 108]⟩ : ByteArray).size ≤ 100000 := by rw [ByteArray.size_append]; show _ + 4 ≤ _; omega
        obtain ⟨d0, d1, _, _⟩ := two_cells HBX4.out
        clear hb4 hu
        go_wp2_with fail
        refine (Text.key_any x.key (by omega) w4 (HL.out.below HW4.out).text).mono ?_
        rintro e w5 ⟨rfl, hb5⟩
        have HBX5 := Lib.hid (HBX4.out.keep hb5)
        have HW5 := Lib.hid (HW4.out.trans (hb5.mono HW4.out.size))
        clear hb5 d0 d1
        cases hkey : TextPure.keyL x.key.data.toList with
        | false =>
          have HC : Hid (Text.codeN false 31 = 31) := Lib.hid rfl
          rw [HC.out]
          have HD := Lib.hid (show labelsV name l = (31, u ++ t_key) by rw [HS.out, labelsFrom_cons, if_pos (show isKey x.key = false from hkey), HU.out])
          clear hkey
          go_wp2_with fail
          refine (new_says 31 (u ++ t_key) w5.heap.size 1 _ hkz (by simp [t_key])).mono ?_
          rintro e w6 hE
          have HF := Lib.hid (SAID.out 31 _ _ (by decide) HD.out (HW5.out.alloc HW5.out.size _) e w6 hE)
          obtain ⟨E, rfl, _⟩ := hE
          go_wp2_with fail
          go_ret
          exact HF.out
        | true =>
          have HC : Hid (Text.codeN true 31 = 0) := Lib.hid rfl
          rw [HC.out]
          have HKEY := Lib.hid hkey
          clear hkey
          obtain ⟨d0, d1, _, _⟩ := two_cells HBX5.out
          obtain ⟨o, ho⟩ : ∃ o, notMore (if k = 0 then none else l[k - 1]?) x = o := ⟨_, rfl⟩
          have HO := Lib.hid ho
          rcases k with _ | m
          · have ho' : o = false := by rw [← ho]; rfl
            subst ho'
            clear ho
            go_wp2_with fail
            go_quiet (fail)
            go_wp2_with fail
            refine (Text.val_any x.val (by unfold maxLen; omega) _ (HL.out.below (HW5.out.trans ((Kit.below_drewN _ _ _).mono HW5.out.size))).text).mono ?_
            rintro e w6 ⟨rfl, rfl⟩
            cases hval : TextPure.valL x.val.data.toList with
            | false =>
              have HC2 : Hid (Text.codeN false 32 = 32) := Lib.hid rfl
              rw [HC2.out]
              have HD := Lib.hid (show labelsV name l = (32, u ++ t_val) by rw [HS.out, labelsFrom_cons, if_neg (show ¬ isKey x.key = false by show ¬ TextPure.keyL _ = _; rw [HKEY.out]; simp), if_neg (show ¬ notMore _ x = true by rw [HO.out]; simp), if_pos (show isVal x.val = false from hval), HU.out])
              clear hval
              go_wp2_with fail
              refine (new_says 32 (u ++ t_val) _ 1 _ hvz (cell_new _ _ _)).mono ?_
              rintro e w7 hE
              have HF := Lib.hid (SAID.out 32 _ _ (by decide) HD.out (HW5.out.trans (((Kit.below_drewN _ _ _).alloc (Nat.le_refl _) _).mono HW5.out.size)) e w7 hE)
              obtain ⟨E, rfl, _⟩ := hE
              go_wp2_with fail
              go_ret
              exact HF.out
            | true =>
              have HC2 : Hid (Text.codeN true 32 = 0) := Lib.hid rfl
              rw [HC2.out]
              have HNX := Lib.hid (show SpecRef.LHere name l (0 + 1) by
                unfold SpecRef.LHere
                rw [HS.out, labelsFrom_cons, if_neg (show ¬ isKey x.key = false by show ¬ TextPure.keyL _ = _; rw [HKEY.out]; simp), if_neg (show ¬ notMore _ x = true by rw [HO.out]; simp), if_neg (show ¬ isVal x.val = false by show ¬ TextPure.valL _ = _; rw [hval]; simp), if_neg (by omega), show 0 + 1 - 1 = 0 by omega, List.getElem?_eq_getElem hlt, HX.out])
              clear hval
              go_wp2
              go_roundw
              case rel => exact ⟨0 + 1, by omega, by go_num, HNX.out, HW5.out.trans ((Kit.below_drewN _ _ _).mono HW5.out.size)⟩
              case measure => simp [RowKit.intOf]; omega
          · obtain ⟨p', hpp, hpb, hcp⟩ := (H.out.below HW5.out).at (k := m) (by omega)
            injection hpp with hpp
            subst hpp
            obtain ⟨y, hy⟩ : ∃ y, l[m] = y := ⟨_, rfl⟩
            have ho' : o = !(Op.bytesLess y.key.toList x.key.toList) := by
              rw [← ho, if_neg (by omega), show m + 1 - 1 = m by omega, List.getElem?_eq_getElem (by omega), hy]; rfl
            rw [hy] at hcp
            obtain ⟨g0, g1⟩ := hcp
            have hwr : IntKind.i64.wrap (m : Int) = (m : Int) := IntWalk.i64_in _ (by omega)
            have hm0 : (0 : Int) ≤ (m : Int) := by omega
            have hmn : (m : Int) < (l.length : Int) := by omega
            have hmn1 : (m : Int) + 1 < (l.length : Int) := by omega
            have hmn2 : m < l.length := by omega
            have hp0 : (0 : Int) ≤ (m : Int) + 1 := by omega
            have hp1 : ((m : Int) + 1).toNat = m + 1 := by omega
            clear ho hy g1
            cases o with
            | true =>
              have hbl : Op.bytesLess y.key.toList x.key.toList = false := by simpa using ho'.symm
              have hge : ∀ v, (binOp .leq 9 (.string x.key) (.string y.key)).run Tryz.prog v = .ok (.bool true) v := fun v => by
                have ht := less_total x.key.toList y.key.toList
                rw [hbl] at ht
                simp [binOp, Op.stringOp]; simpa using ht
              clear ho' hbl
              go_wp2_with fail
              go_quiet (fail)
              have HD := Lib.hid (show labelsV name l = (4, u ++ t_key) by rw [HS.out, labelsFrom_cons, if_neg (show ¬ isKey x.key = false by show ¬ TextPure.keyL _ = _; rw [HKEY.out]; simp), if_pos HO.out, HU.out])
              go_wp2_with fail
              refine (new_says 4 (u ++ t_key) _ 1 _ hkz (cell_new _ _ _)).mono ?_
              rintro e w7 hE
              have HF := Lib.hid (SAID.out 4 _ _ (by decide) HD.out (HW5.out.trans (((Kit.below_drewN _ _ _).alloc (Nat.le_refl _) _).mono HW5.out.size)) e w7 hE)
              obtain ⟨E, rfl, _⟩ := hE
              go_wp2_with fail
              go_ret
              exact HF.out
            | false =>
              have hbl : Op.bytesLess y.key.toList x.key.toList = true := by simpa using ho'.symm
              have hge : ∀ v, (binOp .leq 9 (.string x.key) (.string y.key)).run Tryz.prog v = .ok (.bool false) v := fun v => by
                have ht := less_total x.key.toList y.key.toList
                rw [hbl] at ht
                simp [binOp, Op.stringOp]; simpa using ht
              clear ho' hbl
              go_wp2_with fail
              go_quiet (fail)
              go_wp2_with fail
              refine (Text.val_any x.val (by unfold maxLen; omega) _ (HL.out.below (HW5.out.trans ((Kit.below_drewN _ _ _).mono HW5.out.size))).text).mono ?_
              rintro e w6 ⟨rfl, rfl⟩
              cases hval : TextPure.valL x.val.data.toList with
              | false =>
                have HC2 : Hid (Text.codeN false 32 = 32) := Lib.hid rfl
                rw [HC2.out]
                have HD := Lib.hid (show labelsV name l = (32, u ++ t_val) by rw [HS.out, labelsFrom_cons, if_neg (show ¬ isKey x.key = false by show ¬ TextPure.keyL _ = _; rw [HKEY.out]; simp), if_neg (show ¬ notMore _ x = true by rw [HO.out]; simp), if_pos (show isVal x.val = false from hval), HU.out])
                clear hval
                go_wp2_with fail
                refine (new_says 32 (u ++ t_val) _ 1 _ hvz (cell_new _ _ _)).mono ?_
                rintro e w7 hE
                have HF := Lib.hid (SAID.out 32 _ _ (by decide) HD.out (HW5.out.trans (((Kit.below_drewN _ _ _).alloc (Nat.le_refl _) _).mono HW5.out.size)) e w7 hE)
                obtain ⟨E, rfl, _⟩ := hE
                go_wp2_with fail
                go_ret
                exact HF.out
              | true =>
                have HC2 : Hid (Text.codeN true 32 = 0) := Lib.hid rfl
                rw [HC2.out]
                have HNX := Lib.hid (show SpecRef.LHere name l ((m + 1) + 1) by
                  unfold SpecRef.LHere
                  rw [HS.out, labelsFrom_cons, if_neg (show ¬ isKey x.key = false by show ¬ TextPure.keyL _ = _; rw [HKEY.out]; simp), if_neg (show ¬ notMore _ x = true by rw [HO.out]; simp), if_neg (show ¬ isVal x.val = false by show ¬ TextPure.valL _ = _; rw [hval]; simp), if_neg (by omega), show (m + 1) + 1 - 1 = (m + 1) by omega, List.getElem?_eq_getElem hlt, HX.out])
                clear hval
                go_wp2
                go_roundw
                case rel => exact ⟨(m + 1) + 1, by omega, by go_num, HNX.out, HW5.out.trans ((Kit.below_drewN _ _ _).mono HW5.out.size)⟩
                case measure => simp [RowKit.intOf]; omega
      · have HD := Lib.hid (show labelsV name l = fine by have := HK.out; unfold SpecRef.LHere at this; rw [this, List.drop_eq_nil_of_le (by omega)]; rfl)
        go_wp2
        go_ret
        rw [HD.out]
        exact told_fine _ _ HW.out
theorem labels_any (name : ByteArray) (A : Option Addr) (cap : Nat) (l : List Lbl) (hn : name.size ≤ 1000) (hl : l.length ≤ 9223372036854775807) (hlight : ∀ x ∈ l, x.key.size ≤ 100 ∧ x.val.size ≤ 100) (w : World) (hL : SLaid w) (h : Lbls w A l) :
    Calls Tryz.prog 35 #[.string name, .slice A l.length cap] w (Tells (labelsV name l) w) :=
  labels_gen name A cap l hn hl (fun x hx => by have := hlight x hx; omega) w hL h
end SpecOwn
end Go.Proofs.YtaegknpijgjioaaGreatDoor
