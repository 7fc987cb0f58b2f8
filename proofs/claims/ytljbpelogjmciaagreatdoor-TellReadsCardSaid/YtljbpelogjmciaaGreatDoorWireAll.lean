/-
 What a writer and a reader are in memory, what a call leaves of the rest, and the append of a text to a writer's row. No condition. And what follows of it, part by part, each with its conditions.
-/
import Derived.Test.YtljbpelogjmciaaGreatDoorChecked
import Derived.Test.YtljbpelogjmciaaGreatDoorKit
import Derived.Test.YtljbpelogjmciaaGreatDoorLebAll
import Derived.Test.YtljbpelogjmciaaGreatDoorShelf
import Derived.WalkKit
import Derived.ProofKit
import Derived.Lib.Hide
import Derived.Lib.AppendStr
import Derived.Laws.Rows
import Derived.Laws.BytesArg
import Derived.Deep.QuietTactic
import Derived.BigQuiet
import Derived.StillTailTactics
namespace Go.Proofs.YtljbpelogjmciaaGreatDoor
open Go.ChangeShapes Go.WideShapes Go.ChangeAt Go.RowKit Go.Lib
namespace Wire
structure Kept (D : Nat → Prop) (w w' : World) : Prop where
 os : w'.os = w.os
 tape : w'.tape = w.tape
 output : w'.output = w.output
 size : w.heap.size ≤ w'.heap.size
 block : ∀ k, D k → w'.heap[k]? = w.heap[k]?
theorem Kept.refl (D : Nat → Prop) (w : World) : Kept D w w := ⟨rfl, rfl, rfl, Nat.le_refl _, fun _ _ => rfl⟩
theorem Kept.trans {D : Nat → Prop} {a b c : World} (h : Kept D a b) (k : Kept D b c) : Kept D a c :=
 ⟨k.os.trans h.os, k.tape.trans h.tape, k.output.trans h.output, Nat.le_trans h.size k.size, fun i hi => (k.block i hi).trans (h.block i hi)⟩
theorem Kept.mono {D D' : Nat → Prop} {w w' : World} (h : Kept D w w') (hD : ∀ k, D' k → D k) : Kept D' w w' := ⟨h.os, h.tape, h.output, h.size, fun k hk => h.block k (hD k hk)⟩
theorem Kept.of_below {D : Nat → Prop} {B : Nat} {w w' : World} (h : Below B w w') (hD : ∀ k, D k → k < B) : Kept D w w' := ⟨h.os, h.tape, h.output, h.size, fun k hk => h.block k (hD k hk)⟩
theorem Kept.below {D : Nat → Prop} {B : Nat} {w w' : World} (h : Kept D w w') (hD : ∀ k, k < B → D k) : Below B w w' := ⟨h.os, h.tape, h.output, h.size, fun k hk => h.block k (hD k hk)⟩
theorem Kept.setCell {D : Nat → Prop} {a w : World} (h : Kept D a w) {p : Addr} (hp : ¬ D p.block) (u : Value) : Kept D a (w.setCell p u) :=
 h.trans ⟨rfl, rfl, rfl, by simp [World.setCell], fun k hk => Below.heap_setCell _ _ _ _ (fun e => hp (e ▸ hk))⟩
theorem Kept.cell {D : Nat → Prop} {w w' : World} (h : Kept D w w') {p : Addr} (hp : D p.block) : w'.cell? p = w.cell? p := World.cell?_of_block (w := w) (h.block p.block hp)
def cell8 (b : UInt8) : Value := .int .u8 (b.toNat : Int)
def Wr (w : World) (g : Nat) (D : Nat → Prop) (c : Int) (xs : List UInt8) : Prop :=
 (∀ k, D k → k < w.heap.size ∧ k ≠ g) ∧ ∃ A cap, w.heap[g]? = some (.cells #[.int .i64 c, .slice A xs.length cap] 161 (0, 0)) ∧
  w.ownsRow (g + 1) 5 1 (.slice A xs.length cap) xs.length (xs.map cell8) ∧ ∀ r, (Value.slice A xs.length cap).ownBlock = some r → ¬ D r
def Rd (w : World) (g : Nat) (c : Int) (l : List UInt8) : Prop := w.heap[g]? = some (.cells #[.int .i64 c, .string ⟨l.toArray⟩] 85 (0, 0))
theorem lt_of_block {w : World} {g : Nat} {o : Obj} (h : w.heap[g]? = some o) : g < w.heap.size := by
 rcases Nat.lt_or_ge g w.heap.size with hl | hl
 · exact hl
 · rw [Array.getElem?_eq_none hl] at h; cases h
theorem Rd.lt {w : World} {g : Nat} {c : Int} {l : List UInt8} (h : Rd w g c l) : g < w.heap.size := lt_of_block h
theorem Wr.lt {w : World} {g : Nat} {D : Nat → Prop} {c : Int} {xs : List UInt8} (h : Wr w g D c xs) : g < w.heap.size := by
 obtain ⟨_, A, cap, h1, _⟩ := h; exact lt_of_block h1
theorem Wr.not {w : World} {g : Nat} {D : Nat → Prop} {c : Int} {xs : List UInt8} (h : Wr w g D c xs) : ¬ D g := fun hd => (h.1 g hd).2 rfl
theorem two_cells {w : World} {g : Nat} {u v : Value} {t : TypeId} (h : w.heap[g]? = some (.cells #[u, v] t (0, 0))) :
 w.cell? ⟨g, 0, none⟩ = some u ∧ w.cell? ⟨g, 1, none⟩ = some v ∧ w.frozen? ⟨g, 0, none⟩ = false ∧ w.frozen? ⟨g, 1, none⟩ = false :=
 ⟨by simp [World.cell?, h], by simp [World.cell?, h], by simp [World.frozen?, h], by simp [World.frozen?, h]⟩
theorem two_set0 {w : World} {g : Nat} {u v : Value} {t : TypeId} (h : w.heap[g]? = some (.cells #[u, v] t (0, 0))) (x : Value) : (w.setCell ⟨g, 0, none⟩ x).heap[g]? = some (.cells #[x, v] t (0, 0)) := by
 simpa using heap_setCell_same w g 0 _ _ x h
theorem two_set1 {w : World} {g : Nat} {u v : Value} {t : TypeId} (h : w.heap[g]? = some (.cells #[u, v] t (0, 0))) (x : Value) : (w.setCell ⟨g, 1, none⟩ x).heap[g]? = some (.cells #[u, x] t (0, 0)) := by
 simpa using heap_setCell_same w g 1 _ _ x h
theorem owns_of {w w' : World} {base : Nat} {e : TypeId} {size n : Nat} {v : Value} {xs : List Value} (h : w.ownsRow base e size v n xs) (hk : ∀ r, v.ownBlock = some r → w'.heap[r]? = w.heap[r]?) : w'.ownsRow base e size v n xs := by
 refine ⟨h.1, ?_⟩
 rcases h.2 with h0 | ⟨g, cap, cur, rfl, h1, h2, h3⟩
 · exact .inl h0
 · exact .inr ⟨g, cap, cur, rfl, h1, (hk g rfl).trans h2, h3⟩
theorem owns_lt {w : World} {base : Nat} {e : TypeId} {size n : Nat} {v : Value} {xs : List Value} (h : w.ownsRow base e size v n xs) {r : Nat} (hr : v.ownBlock = some r) : base ≤ r ∧ r < w.heap.size := by
 rcases h.2 with ⟨rfl, _⟩ | ⟨g, cap, cur, rfl, h1, h2, h3⟩
 · cases hr
 · injection hr with hr; subst hr; exact ⟨h1, lt_of_block h2⟩
theorem Wr.keep {w w' : World} {g : Nat} {D E : Nat → Prop} {c : Int} {xs : List UInt8} (h : Wr w g D c xs) (hk : Kept E w w') (hg : E g) (hE : ∀ k, k < w.heap.size → g < k → ¬ D k → E k) : Wr w' g D c xs := by
 obtain ⟨hD, A, cap, h1, h2, h3⟩ := h
 refine ⟨fun k hd => ⟨Nat.lt_of_lt_of_le (hD k hd).1 hk.size, (hD k hd).2⟩, A, cap, (hk.block g hg).trans h1, owns_of h2 (fun r hr => hk.block r ?_), h3⟩
 have := owns_lt h2 hr
 exact hE r this.2 (by omega) (h3 r hr)
theorem Wr.below {w w' : World} {g : Nat} {D : Nat → Prop} {c : Int} {xs : List UInt8} (h : Wr w g D c xs) (hb : Below w.heap.size w w') : Wr w' g D c xs :=
 h.keep (E := (· < w.heap.size)) (Kept.of_below hb (fun _ h => h)) h.lt (fun _ h _ _ => h)
theorem Wr.less {w : World} {g : Nat} {D D' : Nat → Prop} {c : Int} {xs : List UInt8} (h : Wr w g D c xs) (hD : ∀ k, D' k → D k) : Wr w g D' c xs := by
 obtain ⟨h0, A, cap, h1, h2, h3⟩ := h
 exact ⟨fun k hk => h0 k (hD k hk), A, cap, h1, h2, fun r hr hd => h3 r hr (hD r hd)⟩
theorem Wr.alloc {w : World} {g : Nat} {D : Nat → Prop} {c : Int} {xs : List UInt8} (h : Wr w g D c xs) (o : Obj) : Wr (w.alloc o) g (fun k => D k ∨ k = w.heap.size) c xs := by
 have hl := h.lt
 have h' := h.below ((Below.refl w.heap.size w).alloc (Nat.le_refl _) o)
 obtain ⟨h0, A, cap, h1, h2, h3⟩ := h'
 refine ⟨fun k hk => ?_, A, cap, h1, h2, fun r hr hd => ?_⟩
 · rcases hk with hk | rfl
   · exact h0 k hk
   · exact ⟨by simp, by omega⟩
 · rcases hd with hd | rfl
   · exact h3 r hr hd
   · obtain ⟨_, B, cap', i1, i2, i3⟩ := h
     rw [Below.heap_alloc w o g hl, i1] at h1
     injection h1 with h1
     injection h1 with h1
     simp at h1
     obtain ⟨rfl, rfl⟩ := h1
     have := owns_lt i2 hr
     omega
theorem Rd.below {w w' : World} {g : Nat} {c : Int} {l : List UInt8} (h : Rd w g c l) (hb : Below w.heap.size w w') : Rd w' g c l := (hb.block g h.lt).trans h
theorem run_append_str {P : Program} {w : World} (base : Nat) (t u ty e : TypeId) (i : TypeInfo) (ht : P.underlying t = some (.slice e)) (hu : P.underlying u = some .string) (hi : P.info? e = some i) (hz : i.zero = some (.int .u8 0))
 (hsize : i.size = 1) (hby : i.bytes = 1) (v : Value) (n : Nat) (xs : List Value) (hown : w.ownsRow base e 1 v n xs) (s : ByteArray)
 (hbytes : n + s.size ≤ 140737488355328) (hbase : base ≤ w.heap.size) :
 ∃ A cap w', (Builtin.append_ #[t, u] ty #[v, .string s]).run P w = .ok (.slice A (n + s.size) cap) w' ∧ w'.ownsRow base e 1 (.slice A (n + s.size) cap) (n + s.size) (xs ++ strCells s) ∧ w.grownBy w' v.ownBlock ∧
  ((Value.slice A (n + s.size) cap).ownBlock = v.ownBlock ∨ (Value.slice A (n + s.size) cap).ownBlock = some w.heap.size) := by
 have h63 : n + s.size ≤ maxLen := by unfold maxLen; omega
 obtain ⟨v', w', hr, h2, h3, h4⟩ := run_append_own_string (P := P) w base t u ty e i ht hu hi hz hsize hby v n xs hown s h63 hbytes hbase
 have hform : ∃ A cap, v' = .slice A (n + s.size) cap := by
  rcases h2.2 with ⟨rfl, e0⟩ | ⟨g', cap', cur', rfl, _⟩
  · exact ⟨none, 0, by rw [e0]⟩
  · exact ⟨_, _, rfl⟩
 obtain ⟨A, cap, rfl⟩ := hform
 refine ⟨A, cap, w', hr, h2, h3, ?_⟩
 rcases hown.2 with ⟨rfl, rfl⟩ | ⟨g, cap0, cur, rfl, hbg, hg, hnc, hcm, hcs, htake⟩
 · by_cases hm : s.size = 0
   · left
     rw [(h4.2 ⟨rfl, hm⟩)]
   · right
     have hr' := run_append_nil_string (P := P) w t u ty e i (.int .u8 0) ht hu hi hz s (by omega) (by omega) (by rw [hby]; omega)
     rw [hr'] at hr
     injection hr with e1 _
     rw [← e1]
     rfl
 · by_cases hroom : n + s.size ≤ cap0
   · left
     have hcs' : cur.size = cap0 := by simpa using hcs
     have hr' := run_append_room_string (P := P) w t u ty e i ht hu hi hsize g n cap0 cur hg s hroom (by omega)
     have hr'' := hr'.symm.trans ((congrArg (fun z => (Builtin.append_ #[t, u] z #[.slice (some ⟨g, 0, none⟩) n cap0, .string s]).run P w) rfl).trans hr)
     injection hr'' with e1 _
     rw [← e1]
     rfl
   · right
     have holds : ∀ j u, xs[j]? = some u → w.cell? ((⟨g, 0, none⟩ : Addr).add j) = some u := hown.cells (g := g) rfl
     have hxl : xs.length = n := by simpa using hown.1
     have hr' := run_append_grow_string (P := P) w t u ty e i (.int .u8 0) ht hu hi hz ⟨g, 0, none⟩ n cap0 xs (by rw [hsize]; simpa using hxl) holds s (by omega) (by omega) (by rw [hby]; exact growslice_fits (by omega) (by omega))
     have hr'' := hr'.symm.trans hr
     injection hr'' with e1 _
     rw [← e1]
     rfl
theorem wpList_append_str {P : Program} {w : World} {ops : Array Oper} {rest : List Oper} {o : Oper} {a : Act} {Q : Exit → Act → World → Prop} (hgd : o.guard = none) (sl x : Operand) (t u : TypeId)
 (ho : o.op = .call { callee := .builtin .append, args := #[sl, x], argTypes := #[t, u] })
 (base : Nat) (e : TypeId) (i : TypeInfo) (ht : P.underlying t = some (.slice e)) (hu : P.underlying u = some .string) (hi : P.info? e = some i) (hz : i.zero = some (.int .u8 0))
 (hsize : i.size = 1) (hby : i.bytes = 1)
 (v : Value) (n : Nat) (xs : List Value) (hs : a.eval sl = v) (hown : w.ownsRow base e 1 v n xs) (s : ByteArray) (hx : a.eval x = .string s)
 (hbytes : n + s.size ≤ 140737488355328) (hbase : base ≤ w.heap.size)
 (h : ∀ A cap w', w'.ownsRow base e 1 (.slice A (n + s.size) cap) (n + s.size) (xs ++ strCells s) → w.grownBy w' v.ownBlock → ((Value.slice A (n + s.size) cap).ownBlock = v.ownBlock ∨ (Value.slice A (n + s.size) cap).ownBlock = some w.heap.size) →
  wpList P ops Q rest (a.put o.dst (.slice A (n + s.size) cap)) w') : wpList P ops Q (o :: rest) a w := by
 refine wpList_plain hgd fun K hK => ?_
 obtain ⟨A, cap, w', hr, h2, h3, h4⟩ := run_append_str (P := P) base t u o.type e i ht hu hi hz hsize hby v n xs hown s hbytes hbase
 unfold Oper.wp execOp
 simp only [ho, resolve, invoke, builtin, Sem.run_bind, Sem.run_pure, Result.andThen_ok, List.map_toArray, List.map_cons, List.map_nil, hs, hx, hr]
 exact hK _ _ (h A cap w' h2 h3 h4)
end Wire
end Go.Proofs.YtljbpelogjmciaaGreatDoor
namespace Go.Proofs.YtljbpelogjmciaaGreatDoor
open Go.ChangeShapes Go.WideShapes Go.ChangeAt Go.RowKit Go.Lib
open LebMath WirePure
namespace Wire
def addB (c : Int) (xs ys : List UInt8) : List UInt8 := if c = 0 then xs ++ ys else xs
theorem addB_no (xs ys : List UInt8) : addB 0 xs ys = xs ++ ys := by simp [addB]
theorem addB_yes {c : Int} (h : c ≠ 0) (xs ys : List UInt8) : addB c xs ys = xs := by simp [addB, h]
theorem failed_no (g : Nat) (w : World) (h : w.cell? ⟨g, 0, none⟩ = some (.int .i64 0)) :
 Calls Tryz.prog 117 #[.pointer (some ⟨g, 0, none⟩)] w fun e w' => e = .returned (.bool false) ∧ w = w' := by
 go_enter Tryz.func117, Tryz.ntmps117
 go_wp2
 go_ret
 exact ⟨rfl, rfl⟩
theorem failed_yes (g : Nat) (c : Int) (hc : c ≠ 0) (w : World) (h : w.cell? ⟨g, 0, none⟩ = some (.int .i64 c)) :
 Calls Tryz.prog 117 #[.pointer (some ⟨g, 0, none⟩)] w fun e w' => e = .returned (.bool true) ∧ w = w' := by
 have hb : (c != 0) = true := by simpa using hc
 clear hc
 go_enter Tryz.func117, Tryz.ntmps117
 go_wp2
 go_ret
 exact ⟨rfl, rfl⟩
theorem fail_no (g : Nat) (d : Int) (w : World) (h : w.cell? ⟨g, 0, none⟩ = some (.int .i64 0)) (hf : w.frozen? ⟨g, 0, none⟩ = false) :
 Calls Tryz.prog 111 #[.pointer (some ⟨g, 0, none⟩), .int .i64 d] w fun e w' => e = .returned (.tuple #[]) ∧ w' = w.setCell ⟨g, 0, none⟩ (.int .i64 d) := by
 go_enter Tryz.func111, Tryz.ntmps111
 go_wp2_with fail
 refine (failed_no g w h).mono ?_
 rintro e w' ⟨rfl, rfl⟩
 go_wp2
 go_end0
 exact ⟨rfl, rfl⟩
theorem fail_yes (g : Nat) (c d : Int) (hc : c ≠ 0) (w : World) (h : w.cell? ⟨g, 0, none⟩ = some (.int .i64 c)) :
 Calls Tryz.prog 111 #[.pointer (some ⟨g, 0, none⟩), .int .i64 d] w fun e w' => e = .returned (.tuple #[]) ∧ w = w' := by
 go_enter Tryz.func111, Tryz.ntmps111
 go_wp2_with fail
 refine (failed_yes g c hc w h).mono ?_
 rintro e w' ⟨rfl, rfl⟩
 go_wp2
 go_end0
 exact ⟨rfl, rfl⟩
theorem write_any (w : World) : Calls Tryz.prog 60 #[] w fun e w' => e = .returned (.pointer (some ⟨w.heap.size, 0, none⟩)) ∧ Wr w' w.heap.size (· < w.heap.size) 0 [] ∧ Below w.heap.size w w' ∧ w'.heap.size = w.heap.size + 1 := by
 go_enter Tryz.func60, Tryz.ntmps60
 go_wp2
 go_ret
 refine ⟨rfl, ⟨fun k hk => ⟨by simp; omega, by omega⟩, none, 0, ?_, World.ownsRow_nil _ _ _ _, fun r hr => by cases hr⟩, (Below.refl _ _).alloc (Nat.le_refl _) _, by simp⟩
 exact heap_alloc_new w _
theorem strCells_cell8 (s : ByteArray) : strCells s = s.data.toList.map cell8 := rfl
theorem wr_added {w w1 : World} {g : Nat} {D : Nat → Prop} {c : Int} {xs : List UInt8} {s : ByteArray} {A A' : Option Addr} {cap cap' : Nat} (h0 : ∀ k, D k → k < w.heap.size ∧ k ≠ g)
 (h3 : ∀ r, (Value.slice A xs.length cap).ownBlock = some r → ¬ D r) (hc : w1.heap[g]? = some (.cells #[.int .i64 c, .slice A xs.length cap] 161 (0, 0)))
 (ho : w1.ownsRow (g + 1) 5 1 (.slice A' (xs.length + s.size) cap') (xs.length + s.size) (xs.map cell8 ++ strCells s)) (hg : w.grownBy w1 (Value.slice A xs.length cap).ownBlock)
 (hw : (Value.slice A' (xs.length + s.size) cap').ownBlock = (Value.slice A xs.length cap).ownBlock ∨ (Value.slice A' (xs.length + s.size) cap').ownBlock = some w.heap.size) :
 Wr (w1.setCell ⟨g, 1, none⟩ (.slice A' (xs.length + s.size) cap')) g D c (xs ++ s.data.toList) := by
 have hl : (xs ++ s.data.toList).length = xs.length + s.size := by simp
 refine ⟨fun k hk => ⟨?_, (h0 k hk).2⟩, A', cap', ?_, ?_, ?_⟩
 · have h := (h0 k hk).1
   have h' := hg.size
   simp [World.setCell]
   omega
 · rw [two_set1 hc, hl]
 · rw [hl, List.map_append, ← strCells_cell8]
   exact owns_of ho (fun r hr => Below.heap_setCell _ _ _ _ (by have := (owns_lt ho hr).1; show r ≠ g; omega))
 · intro r hr hd
   rw [hl] at hr
   rcases hw with e | e
   · exact h3 r (e ▸ hr) hd
   · rw [e] at hr
     injection hr with hr
     have := (h0 r hd).1
     omega
set_option maxRecDepth 20000 in
theorem add_no (g : Nat) (D : Nat → Prop) (xs : List UInt8) (s : ByteArray) (hz : xs.length + s.size ≤ 140737488355328) (w : World) (h : Wr w g D 0 xs) :
 Calls Tryz.prog 157 #[.pointer (some ⟨g, 0, none⟩), .string s] w fun e w' => e = .returned (.tuple #[]) ∧ Wr w' g D 0 (xs ++ s.data.toList) ∧ Kept D w w' := by
 have hn := h.not
 have hlt := h.lt
 obtain ⟨h0, A, cap, h1, h2, h3⟩ := h
 have H0 := hid h0
 have H1 := hid h1
 have H2 := hid h2
 have H3 := hid h3
 have HN := hid hn
 obtain ⟨c0, c1, f0, f1⟩ := two_cells h1
 have C0 := hid c0
 have C1 := hid c1
 clear h0 h1 h2 h3 hn c0 f0 f1
 go_enter Tryz.func157, Tryz.ntmps157
 go_wp2_with fail
 refine (failed_no g w C0.out).mono ?_
 rintro e w' ⟨rfl, rfl⟩
 go_wp2_with (at_builtin; refine wpList_append_str rfl _ _ _ _ rfl (g + 1) 5 Tryz.t5 Tryz.underlying159 Tryz.underlying9 (by kernel_rfl) (by kernel_rfl) (by kernel_rfl) (by kernel_rfl) _ xs.length (xs.map cell8) rfl H2.out s rfl hz hlt ?_)
 intro A' cap' w1 hown hgrow hwh
 have hne : ∀ r, (Value.slice A xs.length cap).ownBlock = some r → g + 1 ≤ r ∧ r < w.heap.size := fun r hr => owns_lt H2.out hr
 have hg1 : w1.heap[g]? = w.heap[g]? := hgrow.block g hlt (fun e => by have := (hne g e.symm).1; omega)
 have hcell : w1.heap[g]? = some (.cells #[.int .i64 0, .slice A xs.length cap] 161 (0, 0)) := hg1.trans H1.out
 obtain ⟨d0, d1, e0, e1⟩ := two_cells hcell
 have HO := hid hown
 have HG := hid hgrow
 have HW := hid hwh
 have HC := hid hcell
 clear hown hgrow hwh hg1 hcell d0 e0
 go_wp2
 go_end0
 refine ⟨rfl, wr_added H0.out H3.out HC.out HO.out HG.out HW.out, ?_⟩
 refine Kept.setCell ?_ HN.out _
 exact ⟨HG.out.os, HG.out.tape, HG.out.output, HG.out.size, fun k hk => HG.out.block k (H0.out k hk).1 (fun e => H3.out k e.symm hk)⟩
theorem add_any (g : Nat) (D : Nat → Prop) (c : Int) (xs : List UInt8) (s : ByteArray) (hz : c = 0 → xs.length + s.size ≤ 140737488355328) (w : World) (h : Wr w g D c xs) :
 Calls Tryz.prog 157 #[.pointer (some ⟨g, 0, none⟩), .string s] w fun e w' => e = .returned (.tuple #[]) ∧ Wr w' g D c (addB c xs s.data.toList) ∧ Kept D w w' := by
 by_cases hc : c = 0
 · subst hc
   rw [addB_no]
   exact add_no g D xs s (hz rfl) w h
 · rw [addB_yes hc]
   obtain ⟨h0, A, cap, h1, h2, h3⟩ := h
   have H0 := hid h0
   have H1 := hid h1
   have H2 := hid h2
   have H3 := hid h3
   obtain ⟨c0, c1, f0, f1⟩ := two_cells h1
   have C0 := hid c0
   have HC := hid hc
   clear h0 h1 h2 h3 c0 c1 f0 f1 hz hc
   go_enter Tryz.func157, Tryz.ntmps157
   go_wp2_with fail
   refine (failed_yes g c HC.out w C0.out).mono ?_
   rintro e w' ⟨rfl, rfl⟩; go_wp2
   go_end0
   exact ⟨rfl, ⟨H0.out, A, cap, H1.out, H2.out, H3.out⟩, Kept.refl _ _⟩
theorem addB_len (c : Int) (xs ys : List UInt8) : (addB c xs ys).length ≤ xs.length + ys.length := by
 unfold addB; split <;> simp
theorem big_any (g : Nat) (D : Nat → Prop) (c : Int) (xs : List UInt8) (n : Nat) (hn : n < 18446744073709551616) (hz : c = 0 → xs.length + 10 ≤ 140737488355328) (w : World) (h : Wr w g D c xs) :
 Calls Tryz.prog 112 #[.pointer (some ⟨g, 0, none⟩), .int .u64 n] w fun e w' => e = .returned (.tuple #[]) ∧ Wr w' g D c (addB c xs (leb n)) ∧ Kept D w w' := by
 have h10 := leb_le_ten hn
 have HN := hid hn
 have HW := hid h
 have HZ := hid hz
 clear h hz
 go_enter Tryz.func112, Tryz.ntmps112
 go_wp2_with fail
 refine (NumPut.put_any n w HN.out).mono ?_
 rintro e w1 ⟨rfl, hb⟩
 have HB := hid hb
 have H1 := hid (HW.out.below hb)
 clear hb
 go_wp2_with fail
 refine (add_any g D c xs _ ?_ w1 H1.out).mono ?_
 · intro hc
   have := HZ.out hc
   show xs.length + (leb n).toArray.size ≤ _
   simp only [List.size_toArray]
   omega
 rintro e w2 ⟨rfl, h2, hk⟩
 have H2 := hid h2
 have HK := hid hk
 clear h2 hk
 go_wp2
 go_end0
 exact ⟨rfl, H2.out, (Kept.of_below HB.out (fun k hk => (HW.out.1 k hk).1)).trans HK.out⟩
theorem num_nat (g : Nat) (D : Nat → Prop) (c : Int) (xs : List UInt8) (n : Nat) (hn : n ≤ maxLen) (hz : c = 0 → xs.length + 10 ≤ 140737488355328) (w : World) (h : Wr w g D c xs) :
 Calls Tryz.prog 61 #[.pointer (some ⟨g, 0, none⟩), .int .i64 n] w fun e w' => e = .returned (.tuple #[]) ∧ Wr w' g D c (addB c xs (leb n)) ∧ Kept D w w' := by
 have hn' : n < 9223372036854775808 := by unfold maxLen at hn; omega
 have HN := hid hn'
 have HW := hid h
 have HZ := hid hz
 have hneg : decide ((n : Int) < 0) = false := decide_eq_false (by omega)
 have hw : IntKind.u64.wrap (n : Int) = n := IntWalk.u64_in _ (by omega)
 clear h hz hn hn'
 go_enter Tryz.func61, Tryz.ntmps61
 go_wp2_with fail
 refine (big_any g D c xs n (Nat.lt_trans HN.out (by decide)) HZ.out w HW.out).mono ?_
 rintro e w2 ⟨rfl, h2, hk⟩
 have H2 := hid h2
 have HK := hid hk
 clear h2 hk
 go_wp2
 go_end0
 exact ⟨rfl, H2.out, HK.out⟩
def txB (s : ByteArray) : List UInt8 := leb s.size ++ s.data.toList
theorem addB_two (c : Int) (xs ys zs : List UInt8) : addB c (addB c xs ys) zs = addB c xs (ys ++ zs) := by
 unfold addB; split <;> simp
theorem text_any (g : Nat) (D : Nat → Prop) (c : Int) (xs : List UInt8) (s : ByteArray) (hz : xs.length + 10 + s.size ≤ 140737488355328) (w : World) (h : Wr w g D c xs) :
 Calls Tryz.prog 113 #[.pointer (some ⟨g, 0, none⟩), .string s] w fun e w' => e = .returned (.tuple #[]) ∧ Wr w' g D c (addB c xs (txB s)) ∧ Kept D w w' := by
 have HW := hid h
 have HZ := hid hz
 have hsz : s.size ≤ 140737488355328 := by omega
 clear h hz
 go_enter Tryz.func113, Tryz.ntmps113
 go_wp2_with fail
 refine (num_nat g D c xs s.size (by unfold maxLen; omega) (fun _ => by have := HZ.out; omega) w HW.out).mono ?_
 rintro e w1 ⟨rfl, h1, hk1⟩
 have H1 := hid h1
 have K1 := hid hk1
 clear h1 hk1
 go_wp2_with fail
 refine (add_any g D c _ s ?_ w1 H1.out).mono ?_
 · intro _
   have h1 := addB_len c xs (leb s.size)
   have h2 := leb_le_ten (n := s.size) (by omega)
   have := HZ.out
   omega
 rintro e w2 ⟨rfl, h2, hk⟩
 rw [addB_two] at h2
 have H2 := hid h2
 have HK := hid hk
 clear h2 hk
 go_wp2
 go_end0
 exact ⟨rfl, H2.out, K1.out.trans HK.out⟩
set_option maxRecDepth 100000 in
theorem run_bytes {w : World} {base : Nat} {A : Option Addr} {cap : Nat} {xs : List UInt8} (h : w.ownsRow base 5 1 (.slice A xs.length cap) xs.length (xs.map cell8)) :
 (convert 159 9 (.slice A xs.length cap)).run Tryz.prog w = .ok (.string ⟨xs.toArray⟩) w := by
 have hh := h
 rcases h.2 with ⟨e, h0⟩ | ⟨g, cap', cur, e, _⟩
 · have hx : xs = [] := List.length_eq_zero_iff.1 h0
   subst hx
   injection e with e1 e2 e3
   subst e1
   exact run_convert_bytes_nil (P := Tryz.prog) (w := w) 159 5 Tryz.underlying159 Tryz.underlying5 _ _ 9 Tryz.underlying9
 · injection e with e1 e2 e3
   subst e1
   have hc := hh.cells (g := g) rfl
   have := run_convert_bytes_arg (P := Tryz.prog) w 159 5 Tryz.underlying159 Tryz.underlying5 g 0 xs.length cap (xs.map (fun b => (b.toNat : Int))) (by simp)
    (fun i hi => by
     have h1 := hc i (cell8 xs[i]) (by simp [List.getElem?_eq_getElem hi])
     have e : (⟨g, 0, none⟩ : Addr).add i = ⟨g, 0 + i, none⟩ := by unfold Addr.add; split <;> simp_all
     rw [← e, h1]
     simp [cell8, List.getElem?_eq_getElem hi]) 9 Tryz.underlying9
   rw [this]
   congr 2
   unfold strOfNums
   have e : ((fun n : Int => UInt8.ofNat n.toNat) ∘ fun b : UInt8 => (b.toNat : Int)) = id := by funext b; simp
   rw [List.map_map, e, List.map_id]
theorem end_ok (g : Nat) (D : Nat → Prop) (xs : List UInt8) (w : World) (h : Wr w g D 0 xs) :
 Calls Tryz.prog 64 #[.pointer (some ⟨g, 0, none⟩)] w fun e w' => e = .returned (.tuple #[.string ⟨xs.toArray⟩, .int .i64 0]) ∧ w = w' := by
 obtain ⟨h0, A, cap, h1, h2, h3⟩ := h
 have hrun := run_bytes h2
 obtain ⟨c0, c1, f0, f1⟩ := two_cells h1
 have C0 := hid c0
 clear h0 h1 h2 h3 f0 f1 c0
 go_enter Tryz.func64, Tryz.ntmps64
 go_wp2_with fail
 refine (failed_no g w C0.out).mono ?_
 rintro e w' ⟨rfl, rfl⟩
 go_wp2
 go_ret2
 exact ⟨rfl, rfl⟩
def Aside (g : Nat) (w w' : World) : Prop := Kept (fun k => k < w.heap.size ∧ k ≠ g) w w'
theorem Aside.refl (g : Nat) (w : World) : Aside g w w := Kept.refl _ _
theorem Aside.trans {g : Nat} {a b c : World} (h : Aside g a b) (k : Aside g b c) : Aside g a c :=
 Kept.trans h (Kept.mono k (fun _ hi => ⟨Nat.lt_of_lt_of_le hi.1 h.size, hi.2⟩))
theorem Aside.of_below {g : Nat} {w w' : World} (h : Below w.heap.size w w') : Aside g w w' := Kept.of_below h (fun _ h => h.1)
theorem Aside.setCell {g : Nat} {a w : World} (h : Aside g a w) (o : Nat) (u : Value) : Aside g a (w.setCell ⟨g, o, none⟩ u) := Kept.setCell h (fun hd => hd.2 rfl) u
theorem Aside.drew {g : Nat} {a w : World} (h : Aside g a w) (n : Nat) : Aside g a (w.drewN n) := ⟨h.os, h.tape, h.output, h.size, h.block⟩
theorem rest_eq (s : ByteArray) (k : Nat) : s.extract k s.size = ⟨(s.data.toList.drop k).toArray⟩ := by
 apply ByteArray.ext
 apply Array.ext'
 simp [List.extract_eq_take_drop]
 exact List.take_of_length_le (by rw [List.length_drop, Array.length_toList]; exact Nat.le_refl _)
theorem first_eq (s : ByteArray) (k : Nat) : s.extract 0 k = ⟨(s.data.toList.take k).toArray⟩ := by
 apply ByteArray.ext
 apply Array.ext'
 simp [List.extract_eq_take_drop]
theorem ret_why {l : List UInt8} {d : Int} (h : why l = d) : Ending.returned (.int .i64 d) = .returned (.int .i64 (why l)) := by rw [h]
theorem why_any (s : ByteArray) (hs : s.size ≤ maxLen) (w : World) :
 Calls Tryz.prog 146 #[.string s] w fun e w' => e = .returned (.int .i64 (why s.data.toList)) ∧ w = w' := by
 unfold maxLen at hs
 have hlen : s.data.toList.length = s.size := by rw [Array.length_toList]; rfl
 by_cases h10 : 10 ≤ s.size
 · have hw : why s.data.toList = 3 := by unfold why; rw [if_pos (by omega)]
   rw [hw]
   have hd : (10 : Int) ≤ s.size := by omega
   clear hw hlen
   go_enter Tryz.func146, Tryz.ntmps146
   go_wp2
   go_ret
   exact ⟨rfl, rfl⟩
 · have HL := hid hlen
   have H10 := hid h10
   have hd : ¬ (10 : Int) ≤ s.size := by omega
   clear hlen h10
   go_enter Tryz.func146, Tryz.ntmps146
   go_wp2
   go_loop [9] (fun i => ∃ k : Nat, k ≤ s.size ∧ i = .int .i64 k ∧ Hid (∀ j, j < k → ¬ (s.data.toList.getD j 0).toNat < 128)) (fun i => s.size - (RowKit.intOf i).toNat)
   case atStart => exact ⟨0, Nat.zero_le _, rfl, (fun j h => by omega)⟩
   case round =>
    obtain ⟨k, hk, rfl, HA⟩ := hrel
    by_cases hlt : k < s.size
    · have HD := hid (NumTake.getD_byte s k hlt)
      by_cases hb : (s[k].toNat : Int) < 128
      · have HW : Hid (why s.data.toList = 3) := by
         show _ = _
         unfold why
         rw [if_neg (by rw [HL.out]; exact H10.out), if_pos]; rw [List.any_eq_true]
         refine ⟨s[k], ?_, by simpa using (show s[k].toNat < 128 by omega)⟩
         have h1 : k < s.data.toList.length := by rw [HL.out]; exact hlt
         have h2 : s.data.toList[k] = s[k] := rfl
         rw [← h2]
         exact List.getElem_mem h1
        go_wp2
        go_ret
        exact ⟨ret_why HW.out, rfl⟩
      · go_wp2
        go_round
        case rel =>
         refine ⟨k + 1, by omega, by go_num, ?_⟩
         intro j hj
         by_cases hjk : j = k
         · subst hjk; rw [HD.out]; omega
         · exact HA.out j (by omega)
        case measure => simp [RowKit.intOf]; omega
    · have HW : Hid (why s.data.toList = 40) := by
       show _ = _
       unfold why
       rw [if_neg (by rw [HL.out]; exact H10.out), if_neg]; rw [List.any_eq_true]; rintro ⟨x, hx, hx2⟩
       obtain ⟨j, hj, rfl⟩ := List.mem_iff_getElem.1 hx
       have h1 := HA.out j (by rw [HL.out] at hj; omega)
       rw [List.getD_eq_getElem?_getD, List.getElem?_eq_getElem hj] at h1
       exact h1 (by simpa using hx2)
      have hn : s.size ≤ k := by omega
      go_wp2
      go_ret
      exact ⟨ret_why HW.out, rfl⟩
theorem rfail_any (g : Nat) (c d : Int) (l : List UInt8) (w : World) (h : Rd w g c l) :
 Calls Tryz.prog 111 #[.pointer (some ⟨g, 0, none⟩), .int .i64 d] w fun e w' => e = .returned (.tuple #[]) ∧ Rd w' g (fst c d) l ∧ Aside g w w' := by
 obtain ⟨c0, c1, f0, f1⟩ := two_cells h
 by_cases hc : c = 0
 · subst hc
   refine (fail_no g d w c0 f0).mono ?_
   rintro e w' ⟨rfl, rfl⟩
   exact ⟨rfl, by rw [fst_no]; exact two_set0 h _, (Aside.refl g w).setCell _ _⟩
 · refine (fail_yes g c d hc w c0).mono ?_
   rintro e w' ⟨rfl, rfl⟩
   exact ⟨rfl, by rw [fst_yes hc]; exact h, Aside.refl _ _⟩
theorem failed_rd (g : Nat) (c : Int) (l : List UInt8) (w : World) (h : Rd w g c l) :
 Calls Tryz.prog 117 #[.pointer (some ⟨g, 0, none⟩)] w fun e w' => e = .returned (.bool (!decide (c = 0))) ∧ w = w' := by
 obtain ⟨c0, c1, f0, f1⟩ := two_cells h
 by_cases hc : c = 0
 · subst hc
   exact failed_no g w c0
 · rw [decide_eq_false hc]
   exact failed_yes g c hc w c0
theorem read_any (s : ByteArray) (w : World) : Calls Tryz.prog 9 #[.string s] w fun e w' => e = .returned (.pointer (some ⟨w.heap.size, 0, none⟩)) ∧ Rd w' w.heap.size 0 s.data.toList ∧ Below w.heap.size w w' ∧ w'.heap.size = w.heap.size + 1 := by
 go_enter Tryz.func9, Tryz.ntmps9
 go_wp2
 go_ret
 exact ⟨rfl, heap_alloc_new w _, (Below.refl _ _).alloc (Nat.le_refl _) _, by simp⟩
set_option maxRecDepth 20000 in
theorem number_any (g : Nat) (m : Nat) (hm : m < 18446744073709551616) (c : Int) (l : List UInt8) (hl : l.length ≤ maxLen) (w : World) (h : Rd w g c l) :
 Calls Tryz.prog 95 #[.pointer (some ⟨g, 0, none⟩), .int .u64 m] w fun e w' => e = .returned (.int .u64 (numV m c l)) ∧ Rd w' g (numE m c l) (numL m c l) ∧ Aside g w w' := by
 obtain ⟨s, rfl⟩ : ∃ s : ByteArray, l = s.data.toList := ⟨⟨l.toArray⟩, rfl⟩
 have hs : s.size ≤ maxLen := by rw [Array.length_toList] at hl; exact hl
 have H := hid h
 have h' := h
 obtain ⟨c0, c1, f0, f1⟩ := two_cells h'
 have HM := hid hm
 clear h h' hl c0 f0 hm
 have HS := hid hs
 by_cases hz : (takeV s.data.toList).2 = 0
 · have HZ := hid hz
   have hb : (((takeV s.data.toList).2 : Int) == 0) = true := beq_iff_eq.2 (by omega)
   clear hz hs
   go_enter Tryz.func95, Tryz.ntmps95
   go_wp2_with fail
   refine (NumTake.take_lim s w HS.out).mono ?_
   rintro e w1 ⟨rfl, rfl⟩; go_wp2_with fail
   go_still_tail 8, (by kernel_rfl)
   still_call ((why_any s HS.out w.drew).mono (fun _ _ h => And.intro h.1 h.2.symm))
   repeat still_step
   refine wpStill_nil ?_
   change wpList _ _ _ _ _ w.drew
   have H2 := hid (show Rd w.drew g c s.data.toList from H.out); have HA := hid (show Aside g w w.drew from (Aside.refl g w).drew 1); clear c1 f1
   generalize w.drew = w2 at *
   go_wp2_with fail
   refine (rfail_any g c (why s.data.toList) s.data.toList w2 H2.out).mono ?_
   rintro e w3 ⟨rfl, h3, k3⟩
   have H3 := hid h3
   have K3 := hid k3
   clear h3 k3; go_wp2_with fail
   refine (failed_rd g _ _ w3 H3.out).mono ?_
   rintro e w4 ⟨rfl, rfl⟩; rw [decide_eq_false (fst_ne (why_ne _))]; go_wp2
   go_ret
   have e1 : numE m c s.data.toList = fst c (why s.data.toList) := by unfold numE; rw [if_pos HZ.out]
   have e0 : numE m c s.data.toList ≠ 0 := by rw [e1]; exact fst_ne (why_ne _)
   have e2 : numV m c s.data.toList = 0 := by unfold numV; rw [if_neg e0]
   have e3 : numL m c s.data.toList = s.data.toList := by unfold numL; rw [if_neg e0]
   rw [e1, e2, e3]
   exact ⟨rfl, H3.out, HA.out.trans K3.out⟩
 · have HZ := hid hz
   have hb : (((takeV s.data.toList).2 : Int) == 0) = false := beq_eq_false_iff_ne.2 (by omega)
   by_cases hgt : m < (takeV s.data.toList).1
   · have HG := hid hgt
     clear hz hs
     go_enter Tryz.func95, Tryz.ntmps95
     go_wp2_with fail
     refine (NumTake.take_lim s w HS.out).mono ?_
     rintro e w1 ⟨rfl, rfl⟩; go_wp2_with fail
     refine (rfail_any g c 2 s.data.toList w H.out).mono ?_
     rintro e w3 ⟨rfl, h3, k3⟩
     have H3 := hid h3
     have K3 := hid k3
     clear h3 k3 c1 f1; go_wp2_with fail
     refine (failed_rd g _ _ w3 H3.out).mono ?_
     rintro e w4 ⟨rfl, rfl⟩; rw [decide_eq_false (fst_ne (by decide))]; go_wp2
     go_ret
     have e1 : numE m c s.data.toList = fst c 2 := by unfold numE; rw [if_neg HZ.out, if_pos HG.out]
     have e0 : numE m c s.data.toList ≠ 0 := by rw [e1]; exact fst_ne (by decide)
     have e2 : numV m c s.data.toList = 0 := by unfold numV; rw [if_neg e0]
     have e3 : numL m c s.data.toList = s.data.toList := by unfold numL; rw [if_neg e0]
     rw [e1, e2, e3]
     exact ⟨rfl, H3.out, K3.out⟩
   · have HG := hid hgt
     have e1 : numE m c s.data.toList = c := by unfold numE; rw [if_neg HZ.out, if_neg HG.out]
     by_cases hc : c = 0
     · subst hc
       have e2 : numV m 0 s.data.toList = (takeV s.data.toList).1 := by unfold numV; rw [if_pos e1]
       have e3 : numL m 0 s.data.toList = s.data.toList.drop (takeV s.data.toList).2 := by unfold numL; rw [if_pos e1]
       rw [e1, e2, e3]
       have hn1 : (takeV s.data.toList).2 ≤ s.size := by have := (takeV_some hz).1; rw [Array.length_toList] at this; exact this
       clear hz hs e1 e2 e3
       go_enter Tryz.func95, Tryz.ntmps95
       go_wp2_with fail
       refine (NumTake.take_lim s w HS.out).mono ?_
       rintro e w1 ⟨rfl, rfl⟩; go_wp2_with fail
       refine (failed_rd g _ _ w H.out).mono ?_
       rintro e w4 ⟨rfl, rfl⟩; rw [decide_eq_true rfl]; go_wp2
       go_ret
       rw [rest_eq]
       exact ⟨rfl, two_set1 H.out _, (Aside.refl g w).setCell _ _⟩
     · have HC := hid hc
       have e2 : numV m c s.data.toList = 0 := by unfold numV; rw [if_neg (by rw [e1]; exact hc)]
       have e3 : numL m c s.data.toList = s.data.toList := by unfold numL; rw [if_neg (by rw [e1]; exact hc)]
       rw [e1, e2, e3]; clear hz hs e1 e2 e3 hc
       go_enter Tryz.func95, Tryz.ntmps95
       go_wp2_with fail
       refine (NumTake.take_lim s w HS.out).mono ?_
       rintro e w1 ⟨rfl, rfl⟩; go_wp2_with fail
       refine (failed_rd g _ _ w H.out).mono ?_
       rintro e w4 ⟨rfl, rfl⟩; rw [decide_eq_false HC.out]; go_wp2
       go_ret
       exact ⟨rfl, H.out, Aside.refl _ _⟩
set_option maxRecDepth 20000 in
theorem take_any (g : Nat) (n : Nat) (c : Int) (l : List UInt8) (hl : l.length ≤ maxLen) (w : World) (h : Rd w g c l) :
 Calls Tryz.prog 88 #[.pointer (some ⟨g, 0, none⟩), .int .i64 n] w fun e w' => e = .returned (.string ⟨(takeS n c l).toArray⟩) ∧ Rd w' g (takeE n c l) (takeL n c l) ∧ Aside g w w' := by
 obtain ⟨s, rfl⟩ : ∃ s : ByteArray, l = s.data.toList := ⟨⟨l.toArray⟩, rfl⟩
 have hlen : s.data.toList.length = s.size := by rw [Array.length_toList]; rfl
 have hs : s.size ≤ maxLen := by rw [hlen] at hl; exact hl
 unfold maxLen at hs
 have H := hid h
 have h' := h
 obtain ⟨c0, c1, f0, f1⟩ := two_cells h'
 have HL := hid hlen
 clear h h' hl c0 f0 hlen
 by_cases hgt : s.size < n
 · have e1 : takeE n c s.data.toList = fst c 40 := by unfold takeE; rw [if_pos (by rw [HL.out]; exact hgt)]
   have e0 : takeE n c s.data.toList ≠ 0 := by rw [e1]; exact fst_ne (by decide)
   have e2 : takeS n c s.data.toList = [] := by unfold takeS; rw [if_neg e0]
   have e3 : takeL n c s.data.toList = s.data.toList := by unfold takeL; rw [if_neg e0]
   rw [e1, e2, e3]; clear e0 e1 e2 e3 f1
   go_enter Tryz.func88, Tryz.ntmps88
   go_wp2_with fail
   refine (rfail_any g c 40 s.data.toList w H.out).mono ?_
   rintro e w3 ⟨rfl, h3, k3⟩
   have H3 := hid h3
   have K3 := hid k3
   clear h3 k3 c1; go_wp2_with fail
   refine (failed_rd g _ _ w3 H3.out).mono ?_
   rintro e w4 ⟨rfl, rfl⟩; rw [decide_eq_false (fst_ne (by decide))]; go_wp2
   go_ret
   exact ⟨rfl, H3.out, K3.out⟩
 · have e1 : takeE n c s.data.toList = c := by unfold takeE; rw [if_neg (by rw [HL.out]; exact hgt)]
   by_cases hc : c = 0
   · subst hc
     have e2 : takeS n 0 s.data.toList = s.data.toList.take n := by unfold takeS; rw [if_pos e1]
     have e3 : takeL n 0 s.data.toList = s.data.toList.drop n := by unfold takeL; rw [if_pos e1]
     rw [e1, e2, e3]
     have hn1 : n ≤ s.size := by omega
     clear e1 e2 e3 hgt
     go_enter Tryz.func88, Tryz.ntmps88
     go_wp2_with fail
     refine (failed_rd g _ _ w H.out).mono ?_
     rintro e w4 ⟨rfl, rfl⟩; rw [decide_eq_true rfl]; go_wp2
     go_ret
     rw [rest_eq, first_eq]
     exact ⟨rfl, two_set1 H.out _, (Aside.refl g w).setCell _ _⟩
   · have HC := hid hc
     have e2 : takeS n c s.data.toList = [] := by unfold takeS; rw [if_neg (by rw [e1]; exact hc)]
     have e3 : takeL n c s.data.toList = s.data.toList := by unfold takeL; rw [if_neg (by rw [e1]; exact hc)]
     rw [e1, e2, e3]; clear e1 e2 e3 hc
     go_enter Tryz.func88, Tryz.ntmps88
     go_wp2_with fail
     refine (failed_rd g _ _ w H.out).mono ?_
     rintro e w4 ⟨rfl, rfl⟩; rw [decide_eq_false HC.out]; go_wp2
     go_ret
     exact ⟨rfl, H.out, Aside.refl _ _⟩
def mostN (m : Int) : Nat := (max m 0).toNat
theorem mostN_le {m : Int} (h : m ≤ 9223372036854775807) : mostN m ≤ maxLen := by unfold mostN maxLen; omega
theorem mostN_cast (m : Int) : ((mostN m : Nat) : Int) = max m 0 := by unfold mostN; omega
theorem mostN_wrap {m : Int} (h : m ≤ 9223372036854775807) : IntKind.u64.wrap (max m 0) = ((mostN m : Nat) : Int) := by
 rw [mostN_cast]; exact IntWalk.u64_in _ (by omega)
theorem rnum_any (g : Nat) (m : Int) (hm : m ≤ 9223372036854775807) (c : Int) (l : List UInt8) (hl : l.length ≤ maxLen) (w : World) (h : Rd w g c l) :
 Calls Tryz.prog 41 #[.pointer (some ⟨g, 0, none⟩), .int .i64 m] w fun e w' => e = .returned (.int .i64 (numV (mostN m) c l)) ∧ Rd w' g (numE (mostN m) c l) (numL (mostN m) c l) ∧ Aside g w w' := by
 have H := hid h
 have HL := hid hl
 have hw := mostN_wrap hm
 have hM := mostN_le hm
 have hV : IntKind.i64.wrap ((numV (mostN m) c l : Nat) : Int) = numV (mostN m) c l := by
  have := numV_le (mostN m) c l
  unfold maxLen at hM
  exact IntWalk.i64_in _ (by omega)
 have HM := hid hM
 clear h hl hm hM
 go_enter Tryz.func41, Tryz.ntmps41
 go_wp2_with fail
 refine (number_any g (mostN m) (by have := HM.out; unfold maxLen at this; omega) c l HL.out w H.out).mono ?_
 rintro e w3 ⟨rfl, h3, k3⟩
 have H3 := hid h3
 have K3 := hid k3
 clear h3 k3
 go_wp2
 go_ret
 exact ⟨rfl, H3.out, K3.out⟩
theorem clone_any (s : ByteArray) (hs : s.size ≤ 281474976710656) (w : World) :
 Calls Tryz.prog 89 #[.string s] w fun e w' => e = .returned (.string s) ∧ Below w.heap.size w w' := by
 go_enter Tryz.func89, Tryz.ntmps89
 go_wp2_with fail
 refine (Any.stringslite_Clone Tryz.laysM316 s _ hs).mono ?_
 rintro e w' ⟨rfl, hb⟩
 go_wp2_with fail
 go_ret
 exact ⟨rfl, hb⟩
theorem rtext_any (g : Nat) (m : Int) (hm : m ≤ 9223372036854775807) (c : Int) (l : List UInt8) (hl : l.length ≤ 281474976710656) (w : World) (h : Rd w g c l) :
 Calls Tryz.prog 37 #[.pointer (some ⟨g, 0, none⟩), .int .i64 m] w fun e w' => e = .returned (.string ⟨(textS (mostN m) c l).toArray⟩) ∧ Rd w' g (textE (mostN m) c l) (textL (mostN m) c l) ∧ Aside g w w' := by
 have hl1 : l.length ≤ maxLen := by unfold maxLen; omega
 have h2 : (numL (mostN m) c l).length ≤ 281474976710656 := Nat.le_trans (numL_len _ _ _) hl
 have hl2 : (numL (mostN m) c l).length ≤ maxLen := by unfold maxLen; omega
 have H := hid h
 have HL := hid hl1
 have HL2 := hid hl2
 have HH2 := hid h2
 have HM := hid hm
 clear h hl hl1 h2 hl2 hm
 go_enter Tryz.func37, Tryz.ntmps37
 go_wp2_with fail
 refine (rnum_any g m HM.out c l HL.out w H.out).mono ?_
 rintro e w1 ⟨rfl, h1, k1⟩
 have H1 := hid h1
 have K1 := hid k1
 clear h1 k1
 go_wp2_with fail
 refine (take_any g (numV (mostN m) c l) (numE (mostN m) c l) (numL (mostN m) c l) HL2.out w1 H1.out).mono ?_
 rintro e w2 ⟨rfl, h2, k2⟩
 have H2 := hid h2
 have K2 := hid k2
 clear h2 k2
 go_wp2_with fail
 refine (clone_any _ ?_ w2).mono ?_
 · show (List.toArray _).size ≤ _
   rw [List.size_toArray]
   exact Nat.le_trans (takeS_len _ _ _) HH2.out
 rintro e w3 ⟨rfl, hb⟩
 have HB := hid hb
 clear hb
 go_wp2
 go_ret
 exact ⟨rfl, H2.out.below HB.out, (K1.out.trans K2.out).trans (Aside.of_below HB.out)⟩
theorem neq_of {t u : List UInt8} (h : t ≠ u) : (t == u) = false := by simpa using h
theorem code_any (g : Nat) (c : Int) (l : List UInt8) (w : World) (h : Rd w g c l) :
 Calls Tryz.prog 12 #[.pointer (some ⟨g, 0, none⟩)] w fun e w' => e = .returned (.int .i64 c) ∧ w = w' := by
 obtain ⟨c0, c1, f0, f1⟩ := two_cells h
 go_enter Tryz.func12, Tryz.ntmps12
 go_wp2
 go_ret
 exact ⟨rfl, rfl⟩
theorem rend_any (g : Nat) (c : Int) (l : List UInt8) (w : World) (h : Rd w g c l) :
 Calls Tryz.prog 75 #[.pointer (some ⟨g, 0, none⟩)] w fun e w' => e = .returned (.int .i64 (endE c l)) ∧ Rd w' g (endE c l) l ∧ Aside g w w' := by
 obtain ⟨c0, c1, f0, f1⟩ := two_cells h
 have H := hid h
 clear h f0 f1
 by_cases hl : l = []
 · subst hl
   go_enter Tryz.func75, Tryz.ntmps75
   go_wp2
   go_ret
   exact ⟨rfl, H.out, Aside.refl _ _⟩
 · have e1 := neq_of hl
   have e2 : endE c l = fst c 3 := by unfold endE; rw [if_neg hl]
   have E2 := hid e2
   clear hl e2 c0
   go_enter Tryz.func75, Tryz.ntmps75
   go_wp2_with fail
   refine (rfail_any g c 3 l w H.out).mono ?_
   rintro e w1 ⟨rfl, h1, k1⟩
   obtain ⟨d0, d1, _, _⟩ := two_cells h1
   have H1 := hid h1
   have K1 := hid k1
   clear h1 k1 d1 c1; go_wp2
   go_ret
   rw [E2.out]
   exact ⟨rfl, H1.out, K1.out⟩
end Wire
end Go.Proofs.YtljbpelogjmciaaGreatDoor
