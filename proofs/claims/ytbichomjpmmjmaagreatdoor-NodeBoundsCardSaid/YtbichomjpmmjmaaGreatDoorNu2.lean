/-
  The contracts of spec's smallest steps: member, within, limit. All that was there is left as it was. Conditions: what the program's text lays in its tables (SLaid); texts are short.
-/
import Derived.Test.YtbichomjpmmjmaaGreatDoorNu1
import Derived.Test.YtbichomjpmmjmaaGreatDoorNu0
import Derived.Test.YtbichomjpmmjmaaGreatDoorChecked
import Derived.Laws.Concat
import Derived.Lib.ItoaLen
import Derived.IntWalk
import Derived.Lib.LaidTab
import Derived.WalkKit
import Derived.ProofKit
import Derived.Deep.MidRow
import Derived.Lib.Hide
import Derived.Handy
import Derived.Orders
import Derived.Below
namespace Go.Proofs.YtbichomjpmmjmaaGreatDoor
open Go.ChangeShapes Go.WideShapes Go.ChangeAt Go.RowKit Go.Lib
open Sd Lists
namespace SpecOwn
/-- what the program's text lays in the tables that are read -/
structure SLaid (w : World) : Prop where
  text : Text.Laid w
  tab : NumText.Tab w
theorem SLaid.below {w w' : World} (h : SLaid w) (hb : Below w.heap.size w w') : SLaid w' := ⟨h.text.below hb, h.tab.below hb⟩
theorem member_any (s : ByteArray) (k : Nat) (hs : s.size ≤ 1000000) (hk : k ≤ 1000000) (w : World) (hL : NumText.Tab w) :
    Calls Tryz.prog 93 #[.string s, .int .i64 k] w fun e w' => e = .returned (.string (atB s k)) ∧ Below w.heap.size w w' := by
  have hl : (itoa (k : Int)).length ≤ 21 := itoa_length_le _ (by omega) (by omega)
  obtain ⟨d, hd⟩ : ∃ d : ByteArray, (⟨(itoa (k : Int)).toArray⟩ : ByteArray) = d := ⟨_, rfl⟩
  have hds : d.size ≤ 21 := by rw [← hd]; show (itoa (k : Int)).toArray.size ≤ 21; simpa using hl
  have a1 : ∀ v, (Op.stringOp .add s ⟨#[91]⟩).run Tryz.prog v = .ok (.string (s ++ ⟨#[91]⟩)) v := fun v => run_string_add_sum v _ _ (by show _ + 1 ≤ _; omega)
  have a2 : ∀ v, (Op.stringOp .add (s ++ ⟨#[91]⟩) d).run Tryz.prog v = .ok (.string (s ++ ⟨#[91]⟩ ++ d)) v := fun v => run_string_add_sum v _ _ (by rw [ByteArray.size_append]; show _ + 1 + _ ≤ _; omega)
  have a3 : ∀ v, (Op.stringOp .add (s ++ ⟨#[91]⟩ ++ d) ⟨#[93]⟩).run Tryz.prog v = .ok (.string (s ++ ⟨#[91]⟩ ++ d ++ ⟨#[93]⟩)) v := fun v => run_string_add_sum v _ _ (by rw [ByteArray.size_append, ByteArray.size_append]; show _ + 1 + _ + 1 ≤ _; omega)
  have HD := Lib.hid (show s ++ ⟨#[91]⟩ ++ d ++ ⟨#[93]⟩ = atB s k by rw [← hd]; rfl)
  have HE := Lib.hid hd
  have HL := Lib.hid hL
  clear hd hL
  go_enter Tryz.func93, Tryz.ntmps93
  go_wp2_with fail
  refine (NumText.numtext_any k w (by omega) (by omega) HL.out).mono ?_
  rw [HE.out]
  rintro e w1 ⟨rfl, hb⟩
  go_wp2
  go_ret
  exact ⟨congrArg (fun x => Ending.returned (.string x)) HD.out, hb⟩
theorem told_fine (w w' : World) (hb : Below w.heap.size w w') : Tells fine w (.returned .nilIface) w' := ⟨_, rfl, .inl ⟨rfl, rfl⟩, hb⟩
theorem tells_mono {y : Say} {w w0 w' : World} {e : Ending} (h : Tells y w0 e w') (hb : Below w.heap.size w w0) : Tells y w e w' := by
  obtain ⟨E, he, h1, h2⟩ := h
  exact ⟨E, he, h1.keep fun b hd _ => ⟨Nat.le_trans hb.size hd, rfl⟩, hb.trans (h2.mono hb.size)⟩
theorem within_any (n l m : Int) (s : ByteArray) (hs : s.size ≤ 100000) (w : World) :
    Calls Tryz.prog 77 #[.int .i64 n, .int .i64 l, .int .i64 m, .string s] w (Tells (withinV n l m s) w) := by
  by_cases h : n < l ∨ m < n
  · have HE := Lib.hid (show withinV n l m s = newV 1 s by unfold withinV newV; rw [if_pos h, if_neg (by decide)])
    by_cases h1 : n < l
    · clear h
      go_enter Tryz.func77, Tryz.ntmps77
      go_wp2_with fail
      refine (new_says 1 s w.heap.size 1 _ hs (by simp)).mono ?_
      rintro e w1 ⟨E, rfl, hE, hb⟩
      have HX := Lib.hid (tells_mono (e := .returned E) ⟨E, rfl, hE, hb⟩ ((Below.refl _ w).alloc (Nat.le_refl _) _))
      clear hE hb
      go_wp2_with fail
      go_ret
      exact HE.out ▸ HX.out
    · have h2 : m < n := by omega
      clear h
      go_enter Tryz.func77, Tryz.ntmps77
      go_wp2_with fail
      refine (new_says 1 s w.heap.size 1 _ hs (by simp)).mono ?_
      rintro e w1 ⟨E, rfl, hE, hb⟩
      have HX := Lib.hid (tells_mono (e := .returned E) ⟨E, rfl, hE, hb⟩ ((Below.refl _ w).alloc (Nat.le_refl _) _))
      clear hE hb
      go_wp2_with fail
      go_ret
      exact HE.out ▸ HX.out
  · have HE := Lib.hid (show withinV n l m s = fine by unfold withinV; rw [if_neg h])
    have h1 : ¬ n < l := by omega
    have h2 : ¬ m < n := by omega
    clear h
    go_enter Tryz.func77, Tryz.ntmps77
    go_wp2
    go_ret
    exact HE.out ▸ told_fine _ _ (Below.refl _ _)
theorem limit_any (n l : Int) (s : ByteArray) (hs : s.size ≤ 100000) (w : World) :
    Calls Tryz.prog 140 #[.int .i64 n, .int .i64 l, .string s] w (Tells (limitV n l s) w) := by
  by_cases h : n = 0
  · have HE := Lib.hid (show limitV n l s = fine by unfold limitV; rw [if_pos h])
    subst h
    go_enter Tryz.func140, Tryz.ntmps140
    go_wp2
    go_ret
    exact HE.out ▸ told_fine _ _ (Below.refl _ _)
  · have HE := Lib.hid (show limitV n l s = withinV n l big s by unfold limitV; rw [if_neg h])
    have h0 : (n == 0) = false := by simpa using h
    clear h
    go_enter Tryz.func140, Tryz.ntmps140
    go_wp2_with fail
    refine (within_any n l big s hs w).mono ?_
    rintro e w1 ⟨E, rfl, hE, hb⟩
    have HX := Lib.hid (show Tells (withinV n l big s) w (.returned E) w1 from ⟨E, rfl, hE, hb⟩)
    clear hE hb
    go_wp2_with fail
    go_ret
    exact HE.out ▸ HX.out
end SpecOwn
end Go.Proofs.YtbichomjpmmjmaaGreatDoor

/-
  From a row's list of variables and the world's shape to what package spec's contracts ask (SLaid): errors.errorType, text's table of bits, a number in internal/bytealg.MaxLen, strconv's table of powers; and one world that fits the list; the types of what comes in. Condition: the list is met.
-/
namespace Go.Proofs.YtbichomjpmmjmaaGreatDoor
open Go.ChangeShapes Go.WideShapes Go.ChangeAt Go.RowKit
namespace LaidSpec
theorem pow10_datum : (Rows.laid_internal_strconv_uint64pow10 : DataW Unit) = Lib.tabData .u64 Lib.pow10Tab := by kernel_rfl
theorem gPow : Tryz.prog.globalNamed "internal/strconv.uint64pow10" = some 2 := by kernel_rfl
theorem gPowType : (Tryz.prog.globals[2]?).map (·.type) = some 214 := by kernel_rfl
theorem cellsPow : Tryz.prog.cellsOf 214 = 20 := by kernel_rfl
theorem cellsU64 : Tryz.prog.cellsOf 106 = 1 := by kernel_rfl
theorem tab_of {W : World} {l : List (String × DataW Unit)} (h : laidMet Tryz.prog l W) (m1 : ("internal/strconv.uint64pow10", Rows.laid_internal_strconv_uint64pow10) ∈ l) : NumText.Tab W := by
  obtain ⟨ps, hv, _⟩ := h
  obtain ⟨g', t', cs, fuel, p, h1, h2, h3, h4⟩ := LaidText.laid_mem hv m1
  obtain rfl := Option.some.inj (gPow.symm.trans h1)
  obtain rfl := Option.some.inj (gPowType.symm.trans h2)
  rw [pow10_datum] at h4
  unfold NumText.Tab Lib.TabIs
  rw [h3, ← Lib.cells_of_tab Tryz.underlying214 Tryz.underlying106 cellsU64 cellsPow h4]
theorem laid_of {W : World} {l : List (String × DataW Unit)} (h : laidMet Tryz.prog l W) (hsh : W.ShapedOpen Tryz.prog) (m1 : ("internal/strconv.uint64pow10", Rows.laid_internal_strconv_uint64pow10) ∈ l) (m2 : ("provost/text.bytesOf", Rows.laid_provost_text_bytesOf) ∈ l) : SpecOwn.SLaid W := ⟨LaidText.laid_of h hsh m2, tab_of h m1⟩
/-- the settled world, the tables as they are laid -/
noncomputable def laidWorld (os : Os) : World :=
  let w0 := World.holding Tryz.prog os ⟨#[], #[], []⟩
  let h := w0.heap
  let h := h.modify 0 (LaidText.put (LaidText.tabOf Rows.laid_provost_text_bytesOf))
  let h := h.modify 5 (LaidText.put (LaidText.rowOf Rows.laid_unicode_utf8_first).toArray)
  let h := h.modify 6 (LaidText.put (LaidText.tabOf Rows.laid_unicode_utf8_acceptRanges))
  let h := h.modify 2 (LaidText.put (LaidText.rowOf Rows.laid_internal_strconv_uint64pow10).toArray)
  let h := h.modify 3 (LaidText.put (LaidText.rowOf Rows.laid_math_bits_deBruijn32tab).toArray)
  let h := h.modify 4 (LaidText.put (LaidText.rowOf Rows.laid_math_bits_deBruijn64tab).toArray)
  { w0 with heap := h }
/-- the types of what comes in -/
noncomputable def types : LawKit.Types Tryz.prog where
  ti := 3
  ts := 9
  tl := 70
  tls := 32
  tr := 23
  tp := 103
  tn := 49
  tc := 105
  tcs := 33
  fl := Tryz.prog.fieldsOf 70
  fr := Tryz.prog.fieldsOf 23
  fp := Tryz.prog.fieldsOf 103
  fc := Tryz.prog.fieldsOf 105
  hi := by kernel_rfl
  hs := by kernel_rfl
  hl := by kernel_rfl
  hls := by kernel_rfl
  hr := by kernel_rfl
  hp := by kernel_rfl
  hn := by kernel_rfl
  hc := by kernel_rfl
  hcs := by kernel_rfl
  ci := by kernel_rfl
  cl := by kernel_rfl
  cc := by kernel_rfl
  bl := by kernel_rfl
  br := by kernel_rfl
  bp := by kernel_rfl
  bc := by kernel_rfl
theorem spec_fields : Tryz.prog.underlying 35 = some (.struct (Tryz.prog.fieldsOf 35)) := by kernel_rfl
theorem spec_at : LawKit.fieldsB Tryz.prog (Tryz.prog.fieldsOf 35) [(0, 1, types.ts), (1, 1, types.tls), (2, 1, types.tcs), (3, 1, types.tcs), (4, 1, types.ti), (5, 1, types.ti), (6, 1, types.ti)] = true := by kernel_rfl
section
variable {H : Type} {enc : TypeId × Value → H}
end
end LaidSpec
end Go.Proofs.YtbichomjpmmjmaaGreatDoor

/-
  What comes in within a struct: a number of Go's uint64, a spec, whatever struct it stands in. Condition: the types can be read.
-/
namespace Go.Proofs.YtbichomjpmmjmaaGreatDoor
open Go.ChangeShapes Go.WideShapes Go.ChangeAt Go.RowKit Go.ChangeMaps Go.Deep
namespace LawKit
open Sd Lists
section
variable {H : Type} {enc : TypeId × Value → H} {P : Program} {W : World}
theorem trod_spec (T : Types P) {t : TypeId} {fs : Array Field} (ht : P.underlying t = some (.struct fs)) (hf : fieldsB P fs [(0, 1, T.ts), (1, 1, T.tls), (2, 1, T.tcs), (3, 1, T.tcs), (4, 1, T.ti), (5, 1, T.ti), (6, 1, T.ti)] = true)
    {n : Nat} {c0 c1 c2 c3 c4 c5 c6 : Value} {y : DataW H × List MemPlace} (h : DataW.trod enc P W 0 (fun _ => true) true n t [c0, c1, c2, c3, c4, c5, c6] = some y) :
    ∃ (S : Spc) (LA : Option Addr) (lc : Nat) (IA : Option Addr) (ic : Nat) (MA : Option Addr) (mc : Nat), (c0 = .string S.name ∧ c1 = .slice LA S.labels.length lc ∧ c2 = .slice IA S.init.length ic ∧ c3 = .slice MA S.main.length mc ∧ c4 = .int .i64 S.restart ∧ c5 = .int .i64 S.grace ∧ c6 = .int .i64 S.prio) ∧ S.In W LA lc IA ic MA mc ∧ (S.labels.length ≤ lc ∧ lc ≤ 9223372036854775807) ∧ (S.init.length ≤ ic ∧ ic ≤ 9223372036854775807) ∧ (S.main.length ≤ mc ∧ mc ≤ 9223372036854775807) := by
  obtain ⟨_, _, h0⟩ := trod_field ht hf h (j := 0) rfl
  obtain ⟨_, _, h1⟩ := trod_field ht hf h (j := 1) rfl
  obtain ⟨_, _, h2⟩ := trod_field ht hf h (j := 2) rfl
  obtain ⟨_, _, h3⟩ := trod_field ht hf h (j := 3) rfl
  obtain ⟨_, _, h4⟩ := trod_field ht hf h (j := 4) rfl
  obtain ⟨_, _, h5⟩ := trod_field ht hf h (j := 5) rfl
  obtain ⟨_, _, h6⟩ := trod_field ht hf h (j := 6) rfl
  obtain ⟨s, e0⟩ := trod_text T.hs h0
  obtain ⟨LA, lc, ls, e1, hL, nL, kL⟩ := trod_lbls T h1
  obtain ⟨IA, ic, is, e2, hI, nI, kI⟩ := trod_ctrs T h2
  obtain ⟨MA, mc, ms, e3, hM, nM, kM⟩ := trod_ctrs T h3
  obtain ⟨z4, e4, i4⟩ := trod_i64 T.hi h4
  obtain ⟨z5, e5, i5⟩ := trod_i64 T.hi h5
  obtain ⟨z6, e6, i6⟩ := trod_i64 T.hi h6
  exact ⟨⟨s, ls, is, ms, z4, z5, z6⟩, LA, lc, IA, ic, MA, mc, ⟨e0, e1, e2, e3, e4, e5, e6⟩, ⟨hL, hI, hM, nL, nI, nM, i4, i5, i6⟩, kL, kI, kM⟩
end
end LawKit
end Go.Proofs.YtbichomjpmmjmaaGreatDoor

/-
  A list of calls of a node in memory: what each is, its spec. No condition.
-/
set_option linter.unusedVariables false
namespace Go.Proofs.YtbichomjpmmjmaaGreatDoor
open Go.RowKit Go.Lib
namespace Nd
open Sd
/-- a call, and where its spec's lists lie -/
structure Na where
  kind : Int
  uid : Int
  S : Spc
  LA : Option Addr
  lc : Nat
  IA : Option Addr
  ic : Nat
  MA : Option Addr
  mc : Nat
def Na.spec (x : Na) : List Value := [.string x.S.name, .slice x.LA x.S.labels.length x.lc, .slice x.IA x.S.init.length x.ic, .slice x.MA x.S.main.length x.mc, .int .i64 x.S.restart, .int .i64 x.S.grace, .int .i64 x.S.prio]
def Na.vals (x : Na) : List Value := [.int .i64 x.kind, .int .i64 x.uid, .string x.S.name, .slice x.LA x.S.labels.length x.lc, .slice x.IA x.S.init.length x.ic, .slice x.MA x.S.main.length x.mc, .int .i64 x.S.restart, .int .i64 x.S.grace, .int .i64 x.S.prio]
structure NActs (W : World) (A : Option Addr) (L : List Na) : Prop where
  cells : ∀ (k : Nat) (x : Na), L[k]? = some x → ∃ r o, A = some ⟨r, o, none⟩ ∧ r < W.heap.size ∧ W.rangeAt r (o + k * 9) x.vals
  ok : ∀ x ∈ L, x.S.In W x.LA x.lc x.IA x.ic x.MA x.mc ∧ (-9223372036854775808 ≤ x.kind ∧ x.kind ≤ 9223372036854775807) ∧ -9223372036854775808 ≤ x.uid ∧ x.uid ≤ 9223372036854775807
theorem NActs.nil (W : World) (A : Option Addr) : NActs W A [] := ⟨fun k x h => by simp at h, fun x h => by cases h⟩
theorem Na.spec_at {w : World} {r o : Nat} {x : Na} (h : w.rangeAt r o x.vals) : w.rangeAt r (o + 2) x.spec := fun j v hv => by
  have e := h (2 + j) v (by rw [Nat.add_comm]; exact hv)
  rwa [← Nat.add_assoc] at e
end Nd
end Go.Proofs.YtbichomjpmmjmaaGreatDoor

/-
  What comes in as a list of calls of a node: its value, its parts in memory. Condition: the types can be read.
-/
set_option linter.unusedVariables false
namespace Go.Proofs.YtbichomjpmmjmaaGreatDoor
open Go.ChangeShapes Go.WideShapes Go.ChangeAt Go.RowKit Go.ChangeMaps Go.Deep
namespace LawActs16
open Sd Lists LawKit Nd
theorem act_fields : Tryz.prog.underlying 37 = some (.struct (Tryz.prog.fieldsOf 37)) := by kernel_rfl
theorem act_at : LawKit.fieldsB Tryz.prog (Tryz.prog.fieldsOf 37) [(0, 1, 3), (1, 1, 3), (2, 7, 35)] = true := by kernel_rfl
theorem act_cells : Tryz.prog.cellsOf 37 = 9 := by kernel_rfl
theorem acts_type : Tryz.prog.underlying 24 = some (.slice 37) := by kernel_rfl
theorem add_flat {a : Addr} (h : a.spot = none) (i : Nat) : a.add i = ⟨a.block, a.off + i, none⟩ := by
  obtain ⟨b, o, s⟩ := a
  simp only at h
  subst h
  unfold Addr.add
  split <;> simp_all
theorem spot_of {W : World} {a : Addr} {v : Value} (h : W.cell? a = some v) : a.spot = none := by
  unfold World.cell? at h
  split at h
  · split at h
    · cases h
    · rename_i hs
      simpa using hs
  · cases h
section
variable {H : Type} {enc : TypeId × Value → H} {W : World}
set_option maxRecDepth 100000 in
theorem trod_act {n : Nat} {c0 c1 c2 c3 c4 c5 c6 c7 c8 : Value} {y : DataW H × List MemPlace} (h : DataW.trod enc Tryz.prog W 0 (fun _ => true) true n 37 [c0, c1, c2, c3, c4, c5, c6, c7, c8] = some y) :
    ∃ x : Na, [c0, c1, c2, c3, c4, c5, c6, c7, c8] = x.vals ∧ x.S.In W x.LA x.lc x.IA x.ic x.MA x.mc ∧ (-9223372036854775808 ≤ x.kind ∧ x.kind ≤ 9223372036854775807) ∧ -9223372036854775808 ≤ x.uid ∧ x.uid ≤ 9223372036854775807 := by
  obtain ⟨_, _, h0⟩ := trod_field act_fields act_at h (j := 0) rfl
  obtain ⟨_, _, h1⟩ := trod_field act_fields act_at h (j := 1) rfl
  obtain ⟨_, _, h2⟩ := trod_field act_fields act_at h (j := 2) rfl
  obtain ⟨z0, e0, i0⟩ := trod_i64 LaidSpec.types.hi h0
  obtain ⟨z1, e1, i1⟩ := trod_i64 LaidSpec.types.hi h1
  obtain ⟨S, LA, lc, IA, ic, MA, mc, ⟨a0, a1, a2, a3, a4, a5, a6⟩, hS, kL, kI, kM⟩ := trod_spec LaidSpec.types LaidSpec.spec_fields LaidSpec.spec_at h2
  subst e0 e1 a0 a1 a2 a3 a4 a5 a6
  exact ⟨⟨z0, z1, S, LA, lc, IA, ic, MA, mc⟩, rfl, hS, i0, i1⟩
set_option maxRecDepth 100000 in
/-- a list of calls that came in -/
theorem came_nacts {base : Nat} {v : Value} {d : DataW H} {p : List MemPlace} (hv : Value.okWide Tryz.prog W .any base 24 v) (h : DataW.Trod enc Tryz.prog W 0 (fun _ => true) true 24 v d p) :
    ∃ A c, ∃ L : List Na, v = .slice A L.length c ∧ NActs W A L ∧ L.length ≤ 9223372036854775807 := by
  obtain ⟨a, len, cap, rfl⟩ := okWide_slice acts_type hv
  obtain ⟨fuel, hf⟩ := h
  rcases open_slice acts_type hf with h0 | ⟨a, len, cap, m, n, D, Pl, hcs, _, hl, hm, hmm, _, hi⟩
  · injection h0.1 with e1 _
    exact ⟨none, 0, [], e1, NActs.nil _ _, by simp⟩
  · injection hcs with e1 _
    have hsp : 0 < len → a.spot = none := fun h0 => by
      obtain ⟨cs', hc, _⟩ := hi 0 (by rw [hmm]; simp only [if_true]; omega)
      rw [act_cells] at hc
      obtain ⟨_, hcl, hcell⟩ := World.cells?_some hc
      have h00 := hcell 0 (by omega)
      rw [List.getElem?_eq_getElem (by omega)] at h00
      have := spot_of h00
      simpa [Addr.add] using this
    obtain ⟨l, hll, hat⟩ := list_of (Q := fun i (x : Na) => a.block < W.heap.size ∧ a.spot = none ∧ (x.S.In W x.LA x.lc x.IA x.ic x.MA x.mc ∧ (-9223372036854775808 ≤ x.kind ∧ x.kind ≤ 9223372036854775807) ∧ -9223372036854775808 ≤ x.uid ∧ x.uid ≤ 9223372036854775807) ∧ ∀ t u, x.vals[t]? = some u → W.cell? ⟨a.block, a.off + i * 9 + t, none⟩ = some u) len (fun i hil => by
      obtain ⟨cs', hc, ht'⟩ := hi i (by rw [hmm]; simp only [if_true]; omega)
      rw [act_cells] at hc
      obtain ⟨_, hcl, hcell⟩ := World.cells?_some hc
      match cs', hcl with
      | [c0, c1, c2, c3, c4, c5, c6, c7, c8], _ =>
        obtain ⟨x, e, hx⟩ := trod_act ht'
        have h00 := hcell 0 (by omega)
        have hb := World.block_lt_of_cell? W _ h00
        rw [Lists.add_block, Lists.add_block] at hb
        have hsp := hsp (by omega)
        refine ⟨x, hb, hsp, hx, fun t u hu => ?_⟩
        have ht : t < 9 := (List.getElem?_eq_some_iff.1 hu).1
        rw [← e] at hu
        have := hcell t (by omega)
        rw [add_flat hsp, add_flat rfl] at this
        rw [this]; exact hu)
    obtain ⟨b, o, s⟩ := a
    refine ⟨some ⟨b, o, s⟩, cap, l, by rw [e1, hll], ⟨fun k x hx => ?_, fun x hx => ?_⟩, by rw [hll]; unfold maxLen at hm; omega⟩
    · obtain ⟨h1, h2, h3, h4⟩ := hat k x hx
      simp only at h2
      subst h2
      exact ⟨b, o, rfl, h1, h4⟩
    · obtain ⟨k, hk⟩ := List.getElem?_of_mem hx
      exact (hat k x hk).2.2.1
end
end LawActs16
end Go.Proofs.YtbichomjpmmjmaaGreatDoor

/-
  Resources as plain data: sums, differences, the greater ones, what a pod asks for, and what follows of it. No condition.
-/
namespace Go.Proofs.YtbichomjpmmjmaaGreatDoor
open NumMath
namespace Re
structure Rx where
  c : Int
  m : Int
  p : Int
structure Rx.Ok (a : Rx) : Prop where
  c : fits a.c = true
  m : fits a.m = true
  p : fits a.p = true
def z3 : Rx := ⟨0, 0, 0⟩
theorem z3_ok : z3.Ok := ⟨by decide, by decide, by decide⟩
/-- three numbers made, if each could be -/
def three (x y z : Int) (p q r : Bool) : Rx × Bool := if p && q && r then (⟨x, y, z⟩, true) else (z3, false)
def addR (a b : Rx) : Rx × Bool := three (a.c + b.c) (a.m + b.m) (a.p + b.p) (fits (a.c + b.c)) (fits (a.m + b.m)) (fits (a.p + b.p))
def subB (x y : Int) : Bool := decide (y ≤ x) && fits (x - y)
def subR (a b : Rx) : Rx × Bool := three (a.c - b.c) (a.m - b.m) (a.p - b.p) (subB a.c b.c) (subB a.m b.m) (subB a.p b.p)
def sumR : Rx → List Rx → Rx × Bool
  | s, [] => (s, true)
  | s, x :: l => if (addR s x).2 = true then sumR (addR s x).1 l else (z3, false)
def maxR (a b : Rx) : Rx := ⟨max a.c b.c, max a.m b.m, max a.p b.p⟩
def fitsR (a b : Rx) : Bool := decide (a.c ≤ b.c) && decide (a.m ≤ b.m) && decide (a.p ≤ b.p)
def maxL (s : Rx) (l : List Rx) : Rx := l.foldl maxR s
/-- what a pod asks for -/
def ofR (init main : List Rx) : Rx × Bool := if (sumR z3 main).2 = true then (maxL (sumR z3 main).1 init, true) else (z3, false)
theorem three_ok {x y z : Int} {p q r : Bool} (h1 : p = true → fits x = true) (h2 : q = true → fits y = true) (h3 : r = true → fits z = true) : (three x y z p q r).1.Ok := by
  unfold three
  split
  · rename_i h
    simp only [Bool.and_eq_true] at h
    exact ⟨h1 h.1.1, h2 h.1.2, h3 h.2⟩
  · exact z3_ok
theorem add_ok (a b : Rx) : (addR a b).1.Ok := three_ok id id id
theorem sum_ok : ∀ (l : List Rx) {s : Rx}, s.Ok → (sumR s l).1.Ok
  | [], _, h => h
  | x :: l, s, h => by
    unfold sumR
    split
    · exact sum_ok l (add_ok s x)
    · exact z3_ok
theorem max_ok {a b : Rx} (ha : a.Ok) (hb : b.Ok) : (maxR a b).Ok := by
  have h1 := fits_iff.1 ha.c; have h2 := fits_iff.1 ha.m; have h3 := fits_iff.1 ha.p
  have h4 := fits_iff.1 hb.c; have h5 := fits_iff.1 hb.m; have h6 := fits_iff.1 hb.p
  exact ⟨fits_iff.2 (by show _ ≤ max a.c b.c ∧ max a.c b.c ≤ _; omega), fits_iff.2 (by show _ ≤ max a.m b.m ∧ max a.m b.m ≤ _; omega), fits_iff.2 (by show _ ≤ max a.p b.p ∧ max a.p b.p ≤ _; omega)⟩
theorem maxL_ok : ∀ (l : List Rx) {s : Rx}, s.Ok → (∀ x ∈ l, x.Ok) → (maxL s l).Ok
  | [], _, h, _ => h
  | x :: l, s, h, hl => maxL_ok l (max_ok h (hl x (by simp))) (fun y hy => hl y (by simp [hy]))
theorem of_ok {i m : List Rx} (hi : ∀ x ∈ i, x.Ok) : (ofR i m).1.Ok := by
  unfold ofR
  split
  · exact maxL_ok i (sum_ok m z3_ok) hi
  · exact z3_ok
theorem fitsR_iff {a b : Rx} : fitsR a b = true ↔ a.c ≤ b.c ∧ a.m ≤ b.m ∧ a.p ≤ b.p := by
  unfold fitsR
  simp [and_assoc]
/-- the sums, not looking whether they fit -/
def tot (f : Rx → Int) (l : List Rx) : Int := l.foldr (fun x s => f x + s) 0
theorem tot_nil (f : Rx → Int) : tot f [] = 0 := rfl
theorem tot_cons (f : Rx → Int) (x : Rx) (l : List Rx) : tot f (x :: l) = f x + tot f l := rfl
theorem tot_append (f : Rx → Int) (l m : List Rx) : tot f (l ++ m) = tot f l + tot f m := by
  induction l with
  | nil => simp [tot_nil]
  | cons x l ih => rw [List.cons_append, tot_cons, tot_cons, ih]; omega
/-- from 0 to a bound each -/
structure In (k : Int) (a : Rx) : Prop where
  c : 0 ≤ a.c ∧ a.c ≤ k
  m : 0 ≤ a.m ∧ a.m ≤ k
  p : 0 ≤ a.p ∧ a.p ≤ k
theorem tot_le {k : Int} (hk : 0 ≤ k) : ∀ {l : List Rx}, (∀ x ∈ l, In k x) → (0 ≤ tot Rx.c l ∧ tot Rx.c l ≤ l.length * k) ∧ (0 ≤ tot Rx.m l ∧ tot Rx.m l ≤ l.length * k) ∧ (0 ≤ tot Rx.p l ∧ tot Rx.p l ≤ l.length * k)
  | [], _ => by simp [tot_nil]
  | x :: l, h => by
    obtain ⟨h1, h2, h3⟩ := tot_le hk (l := l) (fun y hy => h y (by simp [hy]))
    have hx := h x (by simp)
    have e : (((x :: l).length : Nat) : Int) * k = (l.length : Int) * k + k := by rw [List.length_cons, Int.natCast_add, Int.add_mul]; simp
    rw [e, tot_cons, tot_cons, tot_cons]
    have := hx.c; have := hx.m; have := hx.p
    omega
/-- sums that fit on the way -/
theorem sum_in {k : Int} (hk : 0 ≤ k) : ∀ {l : List Rx} {s : Rx}, (∀ x ∈ l, In k x) → 0 ≤ s.c → 0 ≤ s.m → 0 ≤ s.p → s.c + l.length * k ≤ 9223372036854775807 → s.m + l.length * k ≤ 9223372036854775807 → s.p + l.length * k ≤ 9223372036854775807 →
    sumR s l = (⟨s.c + tot Rx.c l, s.m + tot Rx.m l, s.p + tot Rx.p l⟩, true)
  | [], s, _, _, _, _, _, _, _ => by simp [sumR, tot_nil]
  | x :: l, s, h, h1, h2, h3, h4, h5, h6 => by
    have hx := h x (by simp)
    have e : (((x :: l).length : Nat) : Int) * k = (l.length : Int) * k + k := by rw [List.length_cons, Int.natCast_add, Int.add_mul]; simp
    rw [e] at h4 h5 h6
    have hl : 0 ≤ (l.length : Int) * k := Int.mul_nonneg (by omega) hk
    have a1 := hx.c; have a2 := hx.m; have a3 := hx.p
    have hadd : addR s x = (⟨s.c + x.c, s.m + x.m, s.p + x.p⟩, true) := by
      unfold addR
      rw [fits_yes (by omega) (by omega), fits_yes (n := s.m + x.m) (by omega) (by omega), fits_yes (n := s.p + x.p) (by omega) (by omega)]
      rfl
    unfold sumR
    rw [hadd, if_pos rfl, sum_in hk (l := l) (s := ⟨s.c + x.c, s.m + x.m, s.p + x.p⟩) (fun y hy => h y (by simp [hy])) (by show 0 ≤ s.c + x.c; omega) (by show 0 ≤ s.m + x.m; omega) (by show 0 ≤ s.p + x.p; omega) (by show s.c + x.c + _ ≤ _; omega) (by show s.m + x.m + _ ≤ _; omega) (by show s.p + x.p + _ ≤ _; omega)]
    simp only [tot_cons, Int.add_assoc]
theorem sum_z {k : Int} (hk : 0 ≤ k) {l : List Rx} (h : ∀ x ∈ l, In k x) (hb : (l.length : Int) * k ≤ 9223372036854775807) : sumR z3 l = (⟨tot Rx.c l, tot Rx.m l, tot Rx.p l⟩, true) := by
  rw [sum_in hk h (Int.le_refl _) (Int.le_refl _) (Int.le_refl _) (by show 0 + _ ≤ _; omega) (by show 0 + _ ≤ _; omega) (by show 0 + _ ≤ _; omega)]
  simp [z3]
theorem add_in {a b : Rx} (h1 : 0 ≤ a.c ∧ 0 ≤ b.c ∧ a.c + b.c ≤ 9223372036854775807) (h2 : 0 ≤ a.m ∧ 0 ≤ b.m ∧ a.m + b.m ≤ 9223372036854775807) (h3 : 0 ≤ a.p ∧ 0 ≤ b.p ∧ a.p + b.p ≤ 9223372036854775807) : addR a b = (⟨a.c + b.c, a.m + b.m, a.p + b.p⟩, true) := by
  unfold addR
  rw [fits_yes (by omega) (by omega), fits_yes (n := a.m + b.m) (by omega) (by omega), fits_yes (n := a.p + b.p) (by omega) (by omega)]
  rfl
theorem sub_in {a b : Rx} (h1 : 0 ≤ b.c ∧ b.c ≤ a.c ∧ a.c ≤ 9223372036854775807) (h2 : 0 ≤ b.m ∧ b.m ≤ a.m ∧ a.m ≤ 9223372036854775807) (h3 : 0 ≤ b.p ∧ b.p ≤ a.p ∧ a.p ≤ 9223372036854775807) : subR a b = (⟨a.c - b.c, a.m - b.m, a.p - b.p⟩, true) := by
  unfold subR subB
  rw [fits_yes (n := a.c - b.c) (by omega) (by omega), fits_yes (n := a.m - b.m) (by omega) (by omega), fits_yes (n := a.p - b.p) (by omega) (by omega), decide_eq_true h1.2.1, decide_eq_true h2.2.1, decide_eq_true h3.2.1]
  rfl
/-- the greater ones of many -/
theorem maxL_ge : ∀ (l : List Rx) (s : Rx), fitsR s (maxL s l) = true ∧ ∀ x ∈ l, fitsR x (maxL s l) = true
  | [], s => ⟨fitsR_iff.2 ⟨Int.le_refl _, Int.le_refl _, Int.le_refl _⟩, fun x hx => by cases hx⟩
  | y :: l, s => by
    obtain ⟨h1, h2⟩ := maxL_ge l (maxR s y)
    rw [fitsR_iff] at h1
    have e : maxL s (y :: l) = maxL (maxR s y) l := rfl
    rw [e]
    have h3 : max s.c y.c ≤ _ := h1.1
    have h4 : max s.m y.m ≤ _ := h1.2.1
    have h5 : max s.p y.p ≤ _ := h1.2.2
    refine ⟨fitsR_iff.2 ⟨by omega, by omega, by omega⟩, fun x hx => ?_⟩
    rcases List.mem_cons.1 hx with rfl | hx
    · exact fitsR_iff.2 ⟨by omega, by omega, by omega⟩
    · exact h2 x hx
/-- ALL THAT IT ASKS FOR: of containers whose numbers are from 0 on -/
theorem of_in {k : Int} (hk : 0 ≤ k) {i m : List Rx} (h : ∀ x ∈ m, In k x) (hb : (m.length : Int) * k ≤ 9223372036854775807) : ofR i m = (maxL ⟨tot Rx.c m, tot Rx.m m, tot Rx.p m⟩ i, true) := by
  unfold ofR
  rw [sum_z hk h hb, if_pos rfl]
end Re
end Go.Proofs.YtbichomjpmmjmaaGreatDoor

/-
  The contract of num.Add: it returns the sum and true if that fits 64 bits, else 0 and false, and leaves the world alone. Condition: both arguments are 64-bit integers.
-/
namespace Go.Proofs.YtbichomjpmmjmaaGreatDoor
open Go.ChangeShapes Go.WideShapes Go.ChangeAt Go.RowKit
open NumMath
namespace NumAdd
theorem add_yes (a b : Int) (w : World) (ha : -9223372036854775808 ≤ a) (ha' : a ≤ 9223372036854775807) (hb : -9223372036854775808 ≤ b) (hb' : b ≤ 9223372036854775807)
    (h1 : -9223372036854775808 ≤ a + b) (h2 : a + b ≤ 9223372036854775807) :
    Calls Tryz.prog 65 #[.int .i64 a, .int .i64 b] w fun e w' => e = .returned (.tuple #[.int .i64 (a + b), .bool true]) ∧ w = w' := by
  rcases Int.lt_trichotomy b 0 with hs | hs | hs
  · go_enter Tryz.func65, Tryz.ntmps65
    go_wp2
    go_ret2
    exact ⟨rfl, rfl⟩
  · subst hs
    rw [Int.add_zero]
    go_enter Tryz.func65, Tryz.ntmps65
    go_wp2
    go_ret2
    exact ⟨rfl, rfl⟩
  · go_enter Tryz.func65, Tryz.ntmps65
    go_wp2
    go_ret2
    exact ⟨rfl, rfl⟩
theorem add_no (a b : Int) (w : World) (ha : -9223372036854775808 ≤ a) (ha' : a ≤ 9223372036854775807) (hb : -9223372036854775808 ≤ b) (hb' : b ≤ 9223372036854775807)
    (h : a + b < -9223372036854775808 ∨ 9223372036854775807 < a + b) :
    Calls Tryz.prog 65 #[.int .i64 a, .int .i64 b] w fun e w' => e = .returned (.tuple #[.int .i64 0, .bool false]) ∧ w = w' := by
  rcases h with h | h
  · have hs : b < 0 := by omega
    go_enter Tryz.func65, Tryz.ntmps65
    go_wp2
    go_ret2
    exact ⟨rfl, rfl⟩
  · have hs : 0 < b := by omega
    go_enter Tryz.func65, Tryz.ntmps65
    go_wp2
    go_ret2
    exact ⟨rfl, rfl⟩
theorem add_any (a b : Int) (w : World) (ha : fits a = true) (hb : fits b = true) :
    Calls Tryz.prog 65 #[.int .i64 a, .int .i64 b] w fun e w' => e = .returned (.tuple #[.int .i64 (val (a + b)), .bool (fits (a + b))]) ∧ w = w' := by
  have hA := fits_iff.1 ha
  have hB := fits_iff.1 hb
  by_cases h : -9223372036854775808 ≤ a + b ∧ a + b ≤ 9223372036854775807
  · have hf := fits_yes h.1 h.2
    rw [val_yes hf, hf]
    exact add_yes a b w hA.1 hA.2 hB.1 hB.2 h.1 h.2
  · have hf : fits (a + b) = false := fits_no (by omega)
    rw [val_no hf, hf]
    exact add_no a b w hA.1 hA.2 hB.1 hB.2 (by omega)
end NumAdd
end Go.Proofs.YtbichomjpmmjmaaGreatDoor

/-
  Package res: numbers taken apart and joined, the greater ones, what is left, what is above. Each leaves what was there as it was. Condition: the numbers are 64-bit integers, where they are reckoned with.
-/
set_option linter.unusedVariables false
set_option linter.unusedSimpArgs false
namespace Go.Proofs.YtbichomjpmmjmaaGreatDoor
open Go.ChangeShapes Go.WideShapes Go.ChangeAt Go.RowKit Go.Lib
open NumMath
namespace Re
def eqR (a b : Rx) : Bool := a.c == b.c && a.m == b.m && a.p == b.p
theorem eqR_iff {a b : Rx} : eqR a b = true ↔ a = b := by
  obtain ⟨a1, a2, a3⟩ := a
  obtain ⟨b1, b2, b3⟩ := b
  unfold eqR
  simp [and_assoc]
theorem eqR_self (a : Rx) : eqR a a = true := eqR_iff.2 rfl
theorem eqR_fits (a b : Rx) : eqR (maxR a b) b = fitsR a b := by
  have : eqR (maxR a b) b = true ↔ fitsR a b = true := by
    rw [fitsR_iff]
    unfold eqR maxR
    simp only [Bool.and_eq_true, beq_iff_eq]
    omega
  cases h : fitsR a b <;> cases h' : eqR (maxR a b) b <;> simp_all
theorem eql_num (a b : Rx) (w : World) : (binOp .eql 95 (.agg #[.int .i64 a.c, .int .i64 a.m, .int .i64 a.p]) (.agg #[.int .i64 b.c, .int .i64 b.m, .int .i64 b.p])).run Tryz.prog w = .ok (.bool (eqR a b)) w := by
  have hA : Tryz.prog.underlying 95 = some (.array 3 3) := by kernel_rfl
  have hI := Tryz.underlying3
  have a0 := Tryz.isAgg3
  have zz := Tryz.sizeOf3
  rw [run_eql_struct, show (10000 : Nat) = 9998 + 1 + 1 from rfl]
  have e : ∀ (d : Nat) (k : IntKind) (a b : Int), (Op.equalIn (d + 1) 3 (.int k a) (.int k b)).run Tryz.prog w = .ok (a == b) w := fun d k a b => run_equalIn_int w d _ k _ a b hI
  rw [Op.equalIn.eq_def]
  simp only [Sem.run_bind, run_underlying hA, Result.andThen_ok]
  simp only [zz, Result.andThen_ok, Std.Legacy.Range.forIn_eq_forIn_range', Std.Legacy.Range.size]
  simp only [Nat.sub_zero, show (3 + 1 - 1) / 1 = 3 from rfl, show List.range' 0 3 1 = [0, 1, 2] from rfl, List.forIn_cons, List.forIn_nil, Sem.run_bind, Nat.mul_one]
  have e' := e 9998
  go_simp
  unfold eqR
  by_cases h1 : a.c = b.c <;> by_cases h2 : a.m = b.m <;> by_cases h3 : a.p = b.p <;> simp [h1, h2, h3]
theorem eql_res (a b : Rx) (v : World) : (binOp BinOp.eql 23 (.agg #[.int .i64 a.c, .int .i64 a.m, .int .i64 a.p]) (.agg #[.int .i64 b.c, .int .i64 b.m, .int .i64 b.p])).run Tryz.prog v = .ok (.bool (eqR a b)) v := by
  have hS : Tryz.prog.underlying 23 = some (.struct (Tryz.prog.fieldsOf 23)) := by kernel_rfl
  have hp : Tryz.prog.stoodInHeld 23 = false := by kernel_rfl
  have u := Tryz.underlying3
  have a0 := Tryz.isAgg3
  have z := Tryz.sizeOf3
  rw [run_eql_struct, show (10000 : Nat) = 9999 + 1 from rfl, run_equalIn_agg v 9999 23 _ _ hS hp]
  simp only [Program.fieldsOf, Tryz.underlying23]
  go_simp
  unfold eqR
  by_cases h1 : a.c = b.c <;> by_cases h2 : a.m = b.m <;> by_cases h3 : a.p = b.p <;> simp [h1, h2, h3]
theorem of_then {X : Result Bool} {b : Bool} {w : World} (h : (X.andThen fun b w' => Result.ok (Value.bool b) w') = .ok (.bool b) w) : X = .ok b w := by
  cases X with
  | ok x v => simp [Result.andThen] at h; rw [h.1, h.2]
  | _ => simp [Result.andThen] at h
theorem eqIn_num (a b : Rx) (w : World) : (Op.equalIn 10000 95 (.agg #[.int .i64 a.c, .int .i64 a.m, .int .i64 a.p]) (.agg #[.int .i64 b.c, .int .i64 b.m, .int .i64 b.p])).run Tryz.prog w = .ok (eqR a b) w := by
  have h := eql_num a b w
  rw [run_eql_struct] at h
  exact of_then h
theorem eqIn_res (a b : Rx) (w : World) : (Op.equalIn 10000 23 (.agg #[.int .i64 a.c, .int .i64 a.m, .int .i64 a.p]) (.agg #[.int .i64 b.c, .int .i64 b.m, .int .i64 b.p])).run Tryz.prog w = .ok (eqR a b) w := by
  have h := eql_res a b w
  rw [run_eql_struct] at h
  exact of_then h
theorem agg3 {a b c x y z : Int} (h1 : a = x) (h2 : b = y) (h3 : c = z) : Ending.returned (.agg #[.int .i64 a, .int .i64 b, .int .i64 c]) = .returned (.agg #[.int .i64 x, .int .i64 y, .int .i64 z]) := by rw [h1, h2, h3]
theorem apart_any (a b c : Int) (w : World) : Calls Tryz.prog 54 #[.agg #[.int .i64 a, .int .i64 b, .int .i64 c]] w fun e w' => e = .returned (.agg #[.int .i64 a, .int .i64 b, .int .i64 c]) ∧ Below w.heap.size w w' := by
  go_enter Tryz.func54, Tryz.ntmps54
  go_wp2
  go_returns
  exact ⟨rfl, by go_grown⟩
theorem joined_any (a b c : Int) (w : World) : Calls Tryz.prog 52 #[.agg #[.int .i64 a, .int .i64 b, .int .i64 c]] w fun e w' => e = .returned (.agg #[.int .i64 a, .int .i64 b, .int .i64 c]) ∧ Below w.heap.size w w' := by
  go_enter Tryz.func52, Tryz.ntmps52
  go_wp2
  go_returns
  exact ⟨rfl, by go_grown⟩
theorem left_any (a b : Int) (w : World) (ha : fits a = true) (hb : fits b = true) (hab : b ≤ a) :
    Calls Tryz.prog 62 #[.int .i64 a, .int .i64 b] w fun e w' => e = .returned (.tuple #[.int .i64 (val (a - b)), .bool (fits (a - b))]) ∧ w = w' := by
  have hA := fits_iff.1 ha
  have hB := fits_iff.1 hb
  by_cases h : a - b ≤ 9223372036854775807
  · have hf := fits_yes (n := a - b) (by omega) h
    rw [val_yes hf, hf]
    clear ha hb hf
    have h0 : ¬ a - b < 0 := by omega
    have hw : IntKind.i64.wrap (a - b) = a - b := IntWalk.i64_in _ (by omega)
    go_enter Tryz.func62, Tryz.ntmps62
    go_wp2
    go_ret2
    exact ⟨rfl, rfl⟩
  · have hf : fits (a - b) = false := fits_no (by omega)
    rw [val_no hf, hf]
    clear ha hb hf
    have hw : wrap64 (a - b) < 0 := by go_arith
    go_enter Tryz.func62, Tryz.ntmps62
    go_wp2
    go_ret2
    exact ⟨rfl, rfl⟩
set_option maxRecDepth 100000 in
set_option maxHeartbeats 1000000 in
/-- the greater one, number by number -/
theorem greater_any (a b c x y z : Int) (w : World) : Calls Tryz.prog 53 #[.agg #[.int .i64 a, .int .i64 b, .int .i64 c], .agg #[.int .i64 x, .int .i64 y, .int .i64 z]] w fun e w' => e = .returned (.agg #[.int .i64 (max a x), .int .i64 (max b y), .int .i64 (max c z)]) ∧ Below w.heap.size w w' := by
  have i0 : ∀ w, (Instr.index 95 (.agg #[.int .i64 x, .int .i64 y, .int .i64 z]) (.int .i64 0)).run Tryz.prog w = .ok (.int .i64 x) w := fun _ => by kernel_rfl
  have i1 : ∀ w, (Instr.index 95 (.agg #[.int .i64 x, .int .i64 y, .int .i64 z]) (.int .i64 1)).run Tryz.prog w = .ok (.int .i64 y) w := fun _ => by kernel_rfl
  have i2 : ∀ w, (Instr.index 95 (.agg #[.int .i64 x, .int .i64 y, .int .i64 z]) (.int .i64 2)).run Tryz.prog w = .ok (.int .i64 z) w := fun _ => by kernel_rfl
  go_enter Tryz.func53, Tryz.ntmps53
  go_wp2
  go_rounds 4
  all_goals
    go_returns
    exact ⟨agg3 (by omega) (by omega) (by omega), by go_grown⟩
end Re
end Go.Proofs.YtbichomjpmmjmaaGreatDoor

/-
  A region that draws its order, by a condition on what is done already; and 'return x, y' of two structs that lie in boxes: both loaded, both stored, in whatever order. No condition.
-/
set_option linter.unusedVariables false
set_option linter.unusedSimpArgs false
namespace Go.Proofs.YtbichomjpmmjmaaGreatDoor
open Go.RowKit
namespace Back
variable {P : Program} {Q : Exit → Act → World → Prop}
theorem mem_ready {md : Region.Mode} {ops : Array Oper} {listed : Array Bool} {i : Nat} : i ∈ Region.ready md ops listed ↔ listed.getD i true = false ∧ ∃ o, ops[i]? = some o ∧ ∀ e ∈ o.after, Region.binds md e = true → listed.getD e.on false = true := by
  unfold Region.ready
  rw [List.mem_filter, List.mem_range, Bool.and_eq_true]
  constructor
  · rintro ⟨h1, h2, h3⟩
    have ho : ops[i]? = some ops[i] := Array.getElem?_eq_getElem h1
    rw [ho] at h3
    refine ⟨by simpa using h2, _, ho, fun e he hb => ?_⟩
    have h4 := Array.all_eq_true_iff_forall_mem.1 (show (ops[i]).after.all (fun e => !Region.binds md e || listed.getD e.on false) = true from h3) e he
    rw [hb] at h4
    simpa using h4
  · rintro ⟨h1, o, ho, h2⟩
    refine ⟨(Array.getElem?_eq_some_iff.1 ho).1, by simpa using h1, ?_⟩
    rw [ho]
    show o.after.all _ = true
    refine Array.all_eq_true_iff_forall_mem.2 fun e he => ?_
    cases hb : Region.binds md e with
    | false => rfl
    | true => simpa using h2 e he hb
theorem st {b0 : Nat} {vs : List Value} {A : Array Value} {t : TypeId} {w : World} (h : w.heap[b0]? = some (.cells A t (0, 0))) (hs : A.size = vs.length) : (w.setCells b0 0 vs).heap[b0]? = some (.cells vs.toArray t (0, 0)) := by
  have g : ∀ (vs : List Value) (o : Nat) (w : World) (A : Array Value), w.heap[b0]? = some (.cells A t (0, 0)) → A.size = o + vs.length → (w.setCells b0 o vs).heap[b0]? = some (.cells (A.toList.take o ++ vs).toArray t (0, 0)) := by
    intro vs
    induction vs with
    | nil => intro o w A h hs; rw [World.setCells, h, List.append_nil, List.take_of_length_le (by simpa using Nat.le_of_eq hs)]
    | cons v r ih =>
      intro o w A h hs
      rw [World.setCells, ih (o + 1) _ _ (heap_setCell_same w b0 o _ _ v h) (by simp at hs ⊢; omega)]
      congr 3
      rw [Array.toList_setIfInBounds, List.take_add_one, List.getElem?_set_self (by simp at hs ⊢; omega), List.take_set_of_le (Nat.le_refl o)]
      simp
  simpa using g vs 0 w A h (by omega)
theorem far (b0 : Nat) : ∀ (vs : List Value) (o : Nat) (w : World), (w.setCells b0 o vs).os = w.os ∧ (w.setCells b0 o vs).tape = w.tape ∧ (w.setCells b0 o vs).output = w.output ∧ (w.setCells b0 o vs).heap.size = w.heap.size ∧ ∀ i, i ≠ b0 → (w.setCells b0 o vs).heap[i]? = w.heap[i]? := by
  intro vs
  induction vs with
  | nil => intro o w; exact ⟨rfl, rfl, rfl, rfl, fun _ _ => rfl⟩
  | cons v r ih =>
    intro o w
    obtain ⟨h1, h2, h3, h4, h5⟩ := ih (o + 1) (w.setCell ⟨b0, o, none⟩ v)
    exact ⟨h1, h2, h3, h4.trans (by simp), fun i hi => (h5 i hi).trans (Below.heap_setCell w ⟨b0, o, none⟩ v i hi)⟩
theorem th {b0 : Nat} {A : Array Value} {t : TypeId} {w : World} {n : Nat} (h : w.heap[b0]? = some (.cells A t (0, 0))) (hs : A.size = n) : w.there b0 0 n := fun j hj => by
  have : j < A.size := by omega
  simp [World.cell?, World.frozen?, h, this]
end Back
end Go.Proofs.YtbichomjpmmjmaaGreatDoor

/-
  A region that draws its order, whose operations leave the memory that was there as it was (they read, compute, make memory, call what makes memory): what each operation leaves in its slot is told by a fact that stays true while memory only grows; each operation is met once, by the facts of those that it waits for, and the facts of all hold behind the region, whatever the order. Conditions: each operation writes a slot of its own, and waits for earlier ones alone.
-/
namespace Go.Proofs.YtbichomjpmmjmaaGreatDoor
open Go.RowKit
namespace Loose
variable {P : Program} {ops : Array Oper} {Q : Exit → Act → World → Prop}
/-- each operation writes a slot of its own, within the frame, and waits for earlier ones alone -/
def okB (ops : Array Oper) (n : Nat) : Bool :=
  (List.range ops.size).all fun i => (ops[i]?).all fun o =>
    (o.dst.any fun d => decide (d < n)) && o.after.all (fun e => !Region.binds .any e || decide (e.on < i)) && (List.range i).all fun j => (ops[j]?).all fun oj => oj.dst != o.dst
theorem ok_spec {n i : Nat} {o : Oper} (h : okB ops n = true) (ho : ops[i]? = some o) :
    (∃ d, o.dst = some d ∧ d < n) ∧ (∀ e ∈ o.after, Region.binds .any e = true → e.on < i) ∧ ∀ j oj, j < i → ops[j]? = some oj → oj.dst ≠ o.dst := by
  have hlt : i < ops.size := (Array.getElem?_eq_some_iff.1 ho).1
  have h1 := List.all_eq_true.1 h i (List.mem_range.2 hlt)
  rw [ho] at h1
  simp only [Option.all_some, Bool.and_eq_true] at h1
  obtain ⟨⟨ha, hb⟩, hc⟩ := h1
  refine ⟨?_, fun e he hbd => ?_, fun j oj hj hoj => ?_⟩
  · cases hd : o.dst with
    | none => rw [hd] at ha; cases ha
    | some d => rw [hd] at ha; exact ⟨d, rfl, by simpa using ha⟩
  · have := Array.all_eq_true_iff_forall_mem.1 hb e he
    rw [hbd] at this
    simpa using this
  · have := List.all_eq_true.1 hc j (List.mem_range.2 hj)
    rw [hoj] at this
    simpa using this
theorem ok_unlike {n i j : Nat} {o oj : Oper} (h : okB ops n = true) (ho : ops[i]? = some o) (hoj : ops[j]? = some oj) (hne : j ≠ i) : oj.dst ≠ o.dst := by
  rcases Nat.lt_or_gt_of_ne hne with hl | hl
  · exact (ok_spec h ho).2.2 j oj hl hoj
  · exact fun e => (ok_spec h hoj).2.2 i o hl ho e.symm
/-- the frame behind some of the operations -/
structure Framed (ops : Array Oper) (a0 : Act) (w0 : World) (a : Act) (w : World) : Prop where
  size : a.tmps.size = a0.tmps.size
  defers : a.defers = a0.defers
  below : Below w0.heap.size w0 w
  free : ∀ t, (∀ (i : Nat) (o : Oper), ops[i]? = some o → o.dst ≠ some t) → a.tmps.getD t undef = a0.tmps.getD t undef
/-- the operation number i is met -/
def Step (P : Program) (ops : Array Oper) (Q : Exit → Act → World → Prop) (F : Nat → Value → World → Prop) (a0 : Act) (w0 : World) (i : Nat) (o : Oper) : Prop :=
  ∀ a w, Framed ops a0 w0 a w → (∀ e ∈ o.after, Region.binds .any e = true → ∀ oj d, ops[e.on]? = some oj → oj.dst = some d → F e.on (a.tmps.getD d undef) w) →
    (Region.wanted o (yielded ops a.tmps) = true ∧ o.wp P a w (fun a' w' => ∃ v, a' = a.put o.dst v ∧ F i v w' ∧ Below w.heap.size w w') Q) ∨ (Region.wanted o (yielded ops a.tmps) = false ∧ F i undef w)
theorem put_same {a : Act} {d : Nat} {v : Value} (h : d < a.tmps.size) : (a.put (some d) v).tmps.getD d undef = v := by
  simp [Act.put, Array.getD, h]
theorem put_other {a : Act} {d t : Nat} {v : Value} (h : d ≠ t) : (a.put (some d) v).tmps.getD t undef = a.tmps.getD t undef := by
  simp [Act.put, Array.getD_eq_getD_getElem?, Array.getElem?_setIfInBounds_ne h]
theorem left_lt {n : Nat} {listed : Array Bool} {i : Nat} (hi : i < n) (h : listed.getD i true = false) :
    ((List.range n).filter fun j => !(listed.setIfInBounds i true).getD j true).length < ((List.range n).filter fun j => !listed.getD j true).length := by
  have e : ((List.range n).filter fun j => !(listed.setIfInBounds i true).getD j true) = ((List.range n).filter fun j => !listed.getD j true).filter fun j => !(listed.setIfInBounds i true).getD j true := by
    rw [List.filter_filter]
    congr 1
    funext j
    by_cases hj : i = j
    · subst hj
      have hs : i < listed.size := by
        rcases Nat.lt_or_ge i listed.size with hl | hl
        · exact hl
        · rw [Array.getD_eq_getD_getElem?, Array.getElem?_eq_none hl] at h; cases h
      simp [Array.getD_eq_getD_getElem?, hs]
    · rw [getD_set_ne true hj]; simp
  rw [e, List.length_filter_lt_length_iff_exists]
  refine ⟨i, List.mem_filter.2 ⟨List.mem_range.2 hi, by rw [h]; rfl⟩, ?_⟩
  have hs : i < listed.size := by
    rcases Nat.lt_or_ge i listed.size with hl | hl
    · exact hl
    · rw [Array.getD_eq_getD_getElem?, Array.getElem?_eq_none hl] at h; cases h
  simp [Array.getD_eq_getD_getElem?, hs]
theorem wp_region_loose {id : Nat} {a0 : Act} {w0 : World} (hm : P.follows .mixedOrders = true) (hok : okB ops a0.tmps.size = true) (F : Nat → Value → World → Prop)
    (hF : ∀ i v w w', F i v w → Below w.heap.size w w' → F i v w') (hstep : ∀ i o, ops[i]? = some o → Step P ops Q F a0 w0 i o)
    (hend : ∀ a w, Framed ops a0 w0 a w → (∀ i o d, ops[i]? = some o → o.dst = some d → F i (a.tmps.getD d undef) w) → Q .normal a w) : (Code.region id ops true).wp P Q a0 w0 := by
  have main : ∀ (fuel : Nat) (listed : Array Bool) (a : Act) (w : World), listed.size = ops.size → ((List.range ops.size).filter fun j => !listed.getD j true).length ≤ fuel → Framed ops a0 w0 a w →
      (∀ i o d, ops[i]? = some o → listed.getD i true = true → o.dst = some d → F i (a.tmps.getD d undef) w) → wpAny P .any ops Q fuel listed a w := by
    intro fuel
    induction fuel with
    | zero =>
      intro listed a w hsz hl hfr hd
      have hall : ∀ i, i < ops.size → listed.getD i true = true := by
        intro i hi
        cases hc : listed.getD i true with
        | true => rfl
        | false =>
          have : i ∈ (List.range ops.size).filter fun j => !listed.getD j true := List.mem_filter.2 ⟨List.mem_range.2 hi, by rw [hc]; rfl⟩
          have h0 := List.eq_nil_of_length_eq_zero (Nat.le_zero.1 hl)
          rw [h0] at this
          cases this
      refine ⟨?_, hend a w hfr fun i o d ho hdst => hd i o d ho (hall i (Array.getElem?_eq_some_iff.1 ho).1) hdst⟩
      rw [List.eq_nil_iff_forall_not_mem]
      intro i hi
      obtain ⟨h1, o, ho, _⟩ := mem_ready.1 hi
      rw [hall i (Array.getElem?_eq_some_iff.1 ho).1] at h1
      cases h1
    | succ fuel ih =>
      intro listed a w hsz hl hfr hd
      refine ⟨fun hr => ?_, fun i hi => ?_⟩
      · have hall : ∀ i, i < ops.size → listed.getD i true = true := by
          intro i
          induction i using Nat.strongRecOn with
          | _ i hi =>
            intro hlt
            cases hc : listed.getD i true with
            | true => rfl
            | false =>
              have ho : ops[i]? = some ops[i] := Array.getElem?_eq_getElem hlt
              have : i ∈ Region.ready .any ops listed := mem_ready.2 ⟨hc, _, ho, fun e he hb => by
                have hlt' := (ok_spec hok ho).2.1 e he hb
                have h1 := hi e.on hlt' (by omega)
                rw [Array.getD_eq_getD_getElem?] at h1 ⊢
                have : e.on < listed.size := by omega
                simp [this] at h1 ⊢
                exact h1⟩
              rw [hr] at this
              cases this
        exact hend a w hfr fun i o d ho hdst => hd i o d ho (hall i (Array.getElem?_eq_some_iff.1 ho).1) hdst
      · obtain ⟨hun, o, ho, hdep⟩ := mem_ready.1 hi
        have hlt : i < ops.size := (Array.getElem?_eq_some_iff.1 ho).1
        obtain ⟨⟨d, hdst, hdn⟩, hback, _⟩ := ok_spec hok ho
        have hsz' : (listed.setIfInBounds i true).size = ops.size := by simpa using hsz
        have hl' : ((List.range ops.size).filter fun j => !(listed.setIfInBounds i true).getD j true).length ≤ fuel := by
          have := left_lt (n := ops.size) hlt hun
          omega
        -- whatever the operation leaves
        have next : ∀ v w', F i v w' → Below w.heap.size w w' → wpAny P .any ops Q fuel (listed.setIfInBounds i true) (a.put o.dst v) w' := by
          intro v w' hv hb
          refine ih _ _ _ hsz' hl' ⟨?_, ?_, hfr.below.trans (hb.mono hfr.below.size), fun t ht => ?_⟩ fun j oj dj hoj hlj hdj => ?_
          · rw [hdst]; simpa [Act.put] using hfr.size
          · rw [hdst]; exact hfr.defers
          · rw [hdst, put_other (fun e => ht i o ho (by rw [hdst, e]))]
            exact hfr.free t ht
          · by_cases hji : j = i
            · subst hji
              obtain rfl : oj = o := Option.some.inj (hoj.symm.trans ho)
              obtain rfl : dj = d := Option.some.inj (hdj.symm.trans hdst)
              rw [hdst, put_same (by rw [hfr.size]; exact hdn)]
              exact hv
            · have hne := ok_unlike hok ho hoj hji
              rw [hdst, hdj] at hne
              rw [hdst, put_other (fun e => hne (by rw [e]))]
              rw [getD_set_ne true (Ne.symm hji)] at hlj
              exact hF j _ _ _ (hd j oj dj hoj hlj hdj) hb
        have hdeps : ∀ e ∈ o.after, Region.binds .any e = true → ∀ oj dj, ops[e.on]? = some oj → oj.dst = some dj → F e.on (a.tmps.getD dj undef) w := by
          intro e he hb oj dj hoj hdj
          have h1 := hdep e he hb
          have hs : e.on < listed.size := by have := hback e he hb; omega
          refine hd e.on oj dj hoj ?_ hdj
          rw [Array.getD_eq_getD_getElem?] at h1 ⊢
          simp [hs] at h1 ⊢
          exact h1
        unfold wpOp
        simp only [ho]
        rcases hstep i o ho a w hfr hdeps with ⟨hw, hwp⟩ | ⟨hw, hu⟩
        · rw [if_pos hw]
          refine .inl (Oper.wp_mono ?_ hwp)
          rintro a' w' ⟨v, rfl, hv, hb⟩
          exact next v w' hv hb
        · rw [if_neg (by rw [hw]; simp)]
          exact next undef w hu (Below.refl _ _)
  refine wp_region_any hm (main _ _ _ _ (by simp) ?_ ⟨rfl, rfl, ⟨rfl, rfl, rfl, Nat.le_refl _, fun _ _ => rfl⟩, fun _ _ => rfl⟩ ?_)
  · refine Nat.le_trans (List.length_filter_le _ _) ?_
    simp
  · intro i o d ho hl _
    have hlt : i < ops.size := (Array.getElem?_eq_some_iff.1 ho).1
    rw [Array.getD_eq_getD_getElem?] at hl
    simp [hlt] at hl
/-- the steps, one behind the other -/
def Steps (P : Program) (ops : Array Oper) (Q : Exit → Act → World → Prop) (F : Nat → Value → World → Prop) (a0 : Act) (w0 : World) : Nat → List Oper → Prop
  | _, [] => True
  | k, o :: l => Step P ops Q F a0 w0 k o ∧ Steps P ops Q F a0 w0 (k + 1) l
theorem Steps.at {F : Nat → Value → World → Prop} {a0 : Act} {w0 : World} : ∀ {l : List Oper} {k i : Nat} {o : Oper}, Steps P ops Q F a0 w0 k l → l[i]? = some o → Step P ops Q F a0 w0 (k + i) o
  | [], _, _, _, _, h => by simp at h
  | x :: l, k, 0, o, hs, h => by
    simp only [List.getElem?_cons_zero, Option.some.injEq] at h
    subst h
    exact hs.1
  | x :: l, k, i + 1, o, hs, h => by
    have := Steps.at hs.2 (show l[i]? = some o by simpa using h)
    rwa [Nat.add_assoc, Nat.add_comm 1 i] at this
/-- behind the region: whatever the slots hold, by the facts on it -/
def Ends (Q : Exit → Act → World → Prop) (F : Nat → Value → World → Prop) (w0 : World) : Nat → List Oper → Act → (World → Prop) → Prop
  | _, [], a, C => ∀ w, Below w0.heap.size w0 w → C w → Q .normal a w
  | k, o :: l, a, C => ∀ v, Ends Q F w0 (k + 1) l (a.put o.dst v) (fun w => C w ∧ F k v w)
theorem act_ext {a b : Act} (hs : a.tmps.size = b.tmps.size) (hd : a.defers = b.defers) (h : ∀ t, a.tmps.getD t undef = b.tmps.getD t undef) : a = b := by
  obtain ⟨ta, da⟩ := a
  obtain ⟨tb, db⟩ := b
  simp only at hs hd h
  subst hd
  congr 1
  apply Array.ext hs
  intro i h1 h2
  have := h i
  simpa [Array.getD, h1, h2] using this
theorem ends_sound {F : Nat → Value → World → Prop} {w0 : World} {a : Act} {w : World} (hb : Below w0.heap.size w0 w) : ∀ {l : List Oper} {k : Nat} {b : Act} {C : World → Prop}, Ends Q F w0 k l b C → C w →
    (∀ i o d, l[i]? = some o → o.dst = some d → F (k + i) (a.tmps.getD d undef) w) → (∀ o ∈ l, ∃ d, o.dst = some d ∧ d < a.tmps.size) → b.tmps.size = a.tmps.size → b.defers = a.defers →
    (∀ t, (∀ o ∈ l, o.dst ≠ some t) → b.tmps.getD t undef = a.tmps.getD t undef) → Q .normal a w
  | [], k, b, C, he, hC, _, _, hs, hd, ht => by
    obtain rfl : b = a := act_ext hs hd fun t => ht t (fun o ho => by cases ho)
    exact he w hb hC
  | o :: l, k, b, C, he, hC, hF, hr, hs, hd, ht => by
    obtain ⟨d, hdst, hdn⟩ := hr o (by simp)
    have h0 : F k (a.tmps.getD d undef) w := hF 0 o d rfl hdst
    refine ends_sound hb (he (a.tmps.getD d undef)) ⟨hC, h0⟩ (fun i o' d' ho' hd' => ?_) (fun o' ho' => hr o' (by simp [ho'])) ?_ ?_ fun t hnt => ?_
    · have := hF (i + 1) o' d' (by simpa using ho') hd'
      rwa [show k + (i + 1) = k + 1 + i from by omega] at this
    · rw [hdst]; simpa [Act.put] using hs
    · rw [hdst]; exact hd
    · by_cases e : d = t
      · subst e
        rw [hdst, put_same (by rw [hs]; exact hdn)]
      · rw [hdst, put_other e]
        exact ht t fun o' ho' => by
          rcases List.mem_cons.1 ho' with rfl | h
          · rw [hdst]; exact fun h => e (Option.some.inj h)
          · exact hnt o' h
/-- THE LAW, for a region whose operations are written out -/
theorem wp_region_walk {id : Nat} {l : List Oper} {a0 : Act} {w0 : World} (hm : P.follows .mixedOrders = true) (hok : okB l.toArray a0.tmps.size = true) (F : Nat → Value → World → Prop)
    (hF : ∀ i v w w', F i v w → Below w.heap.size w w' → F i v w') (hsteps : Steps P l.toArray Q F a0 w0 0 l) (hend : Ends Q F w0 0 l a0 (fun _ => True)) : (Code.region id l.toArray true).wp P Q a0 w0 := by
  refine wp_region_loose hm hok F hF (fun i o ho => ?_) fun a w hfr hall => ?_
  · have := hsteps.at (i := i) (o := o) (by simpa using ho)
    rwa [Nat.zero_add] at this
  · refine ends_sound hfr.below hend trivial (fun i o d ho hd => ?_) (fun o ho => ?_) hfr.size.symm hfr.defers.symm fun t ht => ?_
    · rw [Nat.zero_add]
      exact hall i o d (by simpa using ho) hd
    · obtain ⟨i, hi, rfl⟩ := List.getElem_of_mem ho
      obtain ⟨d, h1, h2⟩ := (ok_spec hok (i := i) (o := l[i]) (by simp [hi])).1
      exact ⟨d, h1, by rw [hfr.size]; exact h2⟩
    · exact (hfr.free t fun i o ho => ht o (by
        have := List.mem_of_getElem? (show l[i]? = some o by simpa using ho)
        exact this)).symm
/-- a slot that no operation of the region writes -/
def freeB (ops : Array Oper) (t : Nat) : Bool := ops.all fun o => o.dst != some t
theorem Framed.slot {a0 a : Act} {w0 w : World} (h : Framed ops a0 w0 a w) (t : Nat) (ht : freeB ops t = true) : a.tmps.getD t undef = a0.tmps.getD t undef :=
  h.free t fun i o ho e => by
    have := Array.all_eq_true_iff_forall_mem.1 ht o (Array.mem_of_getElem? ho)
    rw [e] at this
    simp at this
/-- an operation that is no call and only computes, reads or makes memory -/
theorem Step.value {F : Nat → Value → World → Prop} {i : Nat} {o : Oper} {a : Act} {w w' : World} {v : Value} (hg : o.guard = none) (hr : (execOp a.eval o).run P w = .ok (.value v) w') (hv : F i v w') (hb : Below w.heap.size w w') :
    (Region.wanted o (yielded ops a.tmps) = true ∧ o.wp P a w (fun a' w' => ∃ v, a' = a.put o.dst v ∧ F i v w' ∧ Below w.heap.size w w') Q) ∨ (Region.wanted o (yielded ops a.tmps) = false ∧ F i undef w) := by
  refine .inl ⟨by simp [Region.wanted, hg], ?_⟩
  unfold Oper.wp
  rw [hr]
  exact ⟨v, rfl, hv, hb⟩
/-- a call, by its contract -/
theorem Step.call {F : Nat → Value → World → Prop} {i : Nat} {o : Oper} {a : Act} {w : World} {f : FuncId} {args : Array Value} (hg : o.guard = none) (hr : (execOp a.eval o).run P w = .ok (.enter f args) w)
    (hc : Calls P f args w fun e w' => ∃ v, e = .returned v ∧ F i v w' ∧ Below w.heap.size w w') :
    (Region.wanted o (yielded ops a.tmps) = true ∧ o.wp P a w (fun a' w' => ∃ v, a' = a.put o.dst v ∧ F i v w' ∧ Below w.heap.size w w') Q) ∨ (Region.wanted o (yielded ops a.tmps) = false ∧ F i undef w) := by
  refine .inl ⟨by simp [Region.wanted, hg], ?_⟩
  unfold Oper.wp
  rw [hr]
  refine Calls.mono hc ?_
  rintro e w' ⟨v, rfl, hv, hb⟩
  exact ⟨v, rfl, hv, hb⟩
/-- the operation waits for number j, which writes slot d -/
def depB (ops : Array Oper) (o : Oper) (j d : Nat) : Bool := o.after.any (fun e => e.on == j && Region.binds .any e) && (ops[j]?).any fun oj => oj.dst == some d
theorem dep_of {F : Nat → Value → World → Prop} {o : Oper} {a : Act} {w : World} (hdep : ∀ e ∈ o.after, Region.binds .any e = true → ∀ oj d, ops[e.on]? = some oj → oj.dst = some d → F e.on (a.tmps.getD d undef) w)
    (j d : Nat) (h : depB ops o j d = true) : F j (a.tmps.getD d undef) w := by
  unfold depB at h
  rw [Bool.and_eq_true] at h
  obtain ⟨h1, h2⟩ := h
  rw [Array.any_eq_true] at h1
  obtain ⟨i, hi, h1⟩ := h1
  rw [Bool.and_eq_true, beq_iff_eq] at h1
  obtain ⟨rfl, hb⟩ := h1
  cases hj : ops[o.after[i].on]? with
  | none => rw [hj] at h2; cases h2
  | some oj =>
    rw [hj] at h2
    simp only [Option.any_some, beq_iff_eq] at h2
    exact hdep _ (Array.getElem_mem hi) hb oj d hj h2
end Loose
end Go.Proofs.YtbichomjpmmjmaaGreatDoor
