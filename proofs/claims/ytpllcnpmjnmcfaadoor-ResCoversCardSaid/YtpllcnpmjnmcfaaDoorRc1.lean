/-
  From a row's list of variables and the world's shape to what package text's contracts ask (Text.Laid): the table of bits, and a number in internal/bytealg.MaxLen; and one world that fits the list. Condition: the list (text.bytesOf and utf8's two tables) is met.
-/
import Derived.Test.YtpllcnpmjnmcfaaDoorRows
import Derived.Test.YtpllcnpmjnmcfaaDoorRc0
import Derived.Test.YtpllcnpmjnmcfaaDoorShelf
import Derived.LaidLaws
import Derived.LaidHandle
import Derived.LaidSub
import Derived.OpenShut
import Derived.Shelf.Vars
import Derived.Laws.OwnMore
import Derived.Lib.Join
import Derived.RegionTactic
import Derived.Lib.Hide
import Derived.Lib.ItoaLen
namespace Go.Proofs.YtpllcnpmjnmcfaaDoor
open Go.ChangeShapes Go.WideShapes Go.ChangeAt Go.RowKit
namespace LaidText

theorem laid_mem {P : Program} {w : World} : ∀ {l : List (String × DataW Unit)} {ps : List MemPlace} {n : String} {d : DataW Unit}, DataW.LaidVars P w l ps → (n, d) ∈ l →
    ∃ g t cs fuel p, P.globalNamed n = some g ∧ (P.globals[g]?).map (·.type) = some t ∧ w.var? P n = some cs ∧ DataW.trod (fun _ => ()) P w 0 (fun _ => true) false fuel t cs.toList = some (d, p) := by
  intro l
  induction l with
  | nil => intro ps n d _ h; simp at h
  | cons x l ih =>
    intro ps n d h hm
    obtain ⟨m, e⟩ := x
    obtain ⟨g, t, cs, fuel, p, q, h1, h2, h3, h4, h5, _⟩ := h
    rcases List.mem_cons.1 hm with hm | hm
    · injection hm with hm1 hm2
      subst hm1 hm2
      exact ⟨g, t, cs, fuel, p, h1, h2, h3, h4⟩
    · exact ih h5 hm
/-- a table of rows of numbers, cell for cell -/
theorem cells_of_rows {H : Type} {enc : TypeId × Value → H} {P : Program} {w : World} {base : Nat} {sp : Nat → Bool} {held : Bool} {fuel : Nat} {t r e : TypeId} {n m : Nat} {k : IntKind} {cs : List Value} {d : DataW H} {p : List MemPlace}
    (ht : P.underlying t = some (.array n r)) (hr : P.underlying r = some (.array m e)) (he : P.underlying e = some (.int k)) (hce : P.cellsOf e = 1) (hcr : P.cellsOf r = m) (f : Nat → Nat → Int)
    (hd : d = .agg ((List.range n).map fun i => .agg ((List.range m).map fun j => .lit (.int k (f i j)))))
    (h : DataW.trod enc P w base sp held fuel t cs = some (d, p)) (i j : Nat) (hi : i < n) (hj : j < m) : cs[i * m + j]? = some (.int k (f i j)) := by
  obtain ⟨xs, m1, _, hx, _, hl, hall⟩ := DataW.trod_array ht h
  have hi' := hall i hi
  rw [hcr, List.getElem?_eq_getElem (by omega)] at hi'
  obtain ⟨ys, m2, _, hy, _, hl2, hall2⟩ := DataW.trod_array hr hi'
  have hj' := hall2 j hj
  rw [hce, List.getElem?_eq_getElem (by omega)] at hj'
  obtain ⟨z, hz, hz2, _⟩ := DataW.trod_int he hj'
  have h1 : xs[i].1 = .agg ((List.range m).map fun j => .lit (.int k (f i j))) := by
    have h0 := congrArg Prod.fst hx
    rw [hd] at h0
    simp only [DataW.agg.injEq] at h0
    have h2 := congrArg (·[i]?) h0
    simp only [List.getElem?_map, List.getElem?_range hi, List.getElem?_eq_getElem (show i < xs.length by omega), Option.map_some] at h2
    exact (Option.some.inj h2).symm
  have h3 : ys[j].1 = .lit (.int k (f i j)) := by
    have h0 := congrArg Prod.fst hy
    rw [h1] at h0
    simp only [DataW.agg.injEq] at h0
    have h2 := congrArg (·[j]?) h0
    simp only [List.getElem?_map, List.getElem?_range hj, List.getElem?_eq_getElem (show j < ys.length by omega), Option.map_some] at h2
    exact (Option.some.inj h2).symm
  rw [hz2] at h3
  simp only [DataW.lit.injEq, Lit.int.injEq, true_and] at h3
  subst h3
  have h4 := congrArg (·[0]?) hz
  simp only [List.getElem?_cons_zero] at h4
  rw [List.getElem?_take_of_lt (by omega), List.getElem?_drop, List.getElem?_take_of_lt (by omega), List.getElem?_drop] at h4
  simpa using h4
theorem table_datum : (Rows.laid_provost_text_bytesOf : DataW Unit) = .agg ((List.range 5).map fun i => .agg ((List.range 4).map fun j => .lit (.int .u64 (Text.word i j)))) := by kernel_rfl
theorem gTab : Tryd.prog.globalNamed "provost/text.bytesOf" = some 1 := by kernel_rfl
theorem gTabType : (Tryd.prog.globals[1]?).map (·.type) = some 125 := by kernel_rfl
theorem cellsRow : Tryd.prog.cellsOf 124 = 4 := by kernel_rfl
theorem cellsU64 : Tryd.prog.cellsOf 77 = 1 := by kernel_rfl
theorem max_of {W : World} (h : W.ShapedOpen Tryd.prog) : ∃ m, W.cell? ⟨0, 0, none⟩ = some (.int .i64 m) :=
  cell_of_shapedOpen_int (t := 3) (zero := #[.int .i64 0]) h (by decide +kernel) (by kernel_rfl) rfl (by kernel_rfl) (by kernel_rfl) Tryd.underlying3
theorem laid_of {W : World} {l : List (String × DataW Unit)} (h : laidMet Tryd.prog l W) (hsh : W.ShapedOpen Tryd.prog) (hm : ("provost/text.bytesOf", Rows.laid_provost_text_bytesOf) ∈ l) : Text.Laid W := by
  obtain ⟨ps, hv, _⟩ := h
  obtain ⟨g', t', cs, fuel, p, h1, h2, h3, h4⟩ := laid_mem hv hm
  obtain rfl := Option.some.inj (gTab.symm.trans h1)
  obtain rfl := Option.some.inj (gTabType.symm.trans h2)
  refine ⟨max_of hsh, fun k q hk hq => ?_⟩
  have hc := cells_of_rows Tryd.underlying125 Tryd.underlying124 Tryd.underlying77 cellsU64 cellsRow Text.word table_datum h4 k q hk hq
  have hw := World.var?_cell gTab h3 (k * 4 + q)
  rw [hw]
  simpa using hc
/-- the cells of a table, out of its datum -/
def cellOf : DataW Unit → Value
  | .lit (.int k n) => .int k n
  | _ => undef
def rowOf : DataW Unit → List Value
  | .agg l => l.map cellOf
  | _ => []
def tabOf : DataW Unit → Array Value
  | .agg l => (l.flatMap rowOf).toArray
  | _ => #[]
def put (cs : Array Value) : Obj → Obj
  | .cells _ t frozen => .cells cs t frozen
  | o => o
/-- the settled world, the tables as they are laid -/
noncomputable def laidWorld (os : Os) : World :=
  let w0 := World.holding Tryd.prog os ⟨#[], #[], []⟩
  { w0 with heap := ((w0.heap.modify 1 (put (tabOf Rows.laid_provost_text_bytesOf))).modify 5 (put (rowOf Rows.laid_unicode_utf8_first).toArray)).modify 6 (put (tabOf Rows.laid_unicode_utf8_acceptRanges)) }
end LaidText
end Go.Proofs.YtpllcnpmjnmcfaaDoor

/-
  The contract of fail.Path: the path of an error of package fail, in a row of its own; no text of nil. All that was there is left as it was. Conditions: the value is an error of package fail, or nil; its path has at most 1000000 texts.
-/
namespace Go.Proofs.YtpllcnpmjnmcfaaDoor
open Go.RowKit Go.Extern.Stop Go.Stop Go.Extern
namespace Err

theorem info_string : (Tryd.prog.info? 9).map (fun i => (i.zero, i.size, i.bytes)) = some (some (.string ⟨#[]⟩), 1, 16) := by kernel_rfl
/-- a call ends with the texts p in a row of its own -/
def Row (p : List ByteArray) (w : World) (e : Ending) (w' : World) : Prop :=
  ∃ v, e = .returned v ∧ w'.ownsRow w.heap.size 9 1 v p.length (p.map Value.string) ∧ Below w.heap.size w w'
/-- a row of one's own stays while the memory that is there does -/
theorem own_keep {w w' : World} {base : Nat} {t : TypeId} {size n : Nat} {v : Value} {xs : List Value} (h : w.ownsRow base t size v n xs) (hb : Below w.heap.size w w') : w'.ownsRow base t size v n xs := by
  obtain ⟨h1, h2⟩ := h
  refine ⟨h1, ?_⟩
  rcases h2 with h2 | ⟨g, cap, cur, e1, e2, e3, e4⟩
  · exact .inl h2
  · have hlt : g < w.heap.size := by
      rcases Nat.lt_or_ge g w.heap.size with hl | hl
      · exact hl
      · rw [Array.getElem?_eq_none hl] at e3; cases e3
    exact .inr ⟨g, cap, cur, e1, e2, (hb.block g hlt).trans e3, e4⟩
/-- what is left of an error while its path is told: an error, or nothing -/
def Rest (w : World) (E : Value) (q : List ByteArray) : Prop := (∃ c, Is w E c q) ∨ (E = .nilIface ∧ q = [])
open Classical in
noncomputable def restLen (w : World) (E : Value) : Nat := if E = .nilIface then 0 else deep w E + 1
theorem restLen_nil (w : World) : restLen w .nilIface = 0 := if_pos rfl
theorem restLen_iface {w : World} {u : TypeId} {x : Value} {c : Int} {q : List ByteArray} (h : Is w (.iface u x) c q) : restLen w (.iface u x) = q.length + 1 := by
  unfold restLen
  rw [if_neg (by intro h; cases h), deep_eq h]
/-- the loop's head: the texts 'done' have been told, 'rest' are still to come -/
def PathAt (p : List ByteArray) (w : World) (E v : Value) (wl : World) : Prop :=
  ∃ done rest, p = done ++ rest ∧ Below w.heap.size w wl ∧ wl.ownsRow w.heap.size 9 1 v done.length (done.map Value.string) ∧ Rest w E rest
end Err
end Go.Proofs.YtpllcnpmjnmcfaaDoor

/-
  The contract of fail.Text: the path of an error of package fail, with a point between each two texts; the empty text of nil. All that was there is left as it was. Conditions: the value is an error of package fail, or nil; its path has at most 1000000 texts, and its text at most 2^47 bytes.
-/
namespace Go.Proofs.YtpllcnpmjnmcfaaDoor
open Go.RowKit
namespace Err

/-- the texts of a path, a point between each two -/
def pathText (p : List ByteArray) : List UInt8 := Lib.join (p.map (·.data.toList)) [46]
theorem join_row {w : World} {base : Nat} {v : Value} (p : List ByteArray) (h : w.ownsRow base 9 1 v p.length (p.map Value.string)) (hp : p.length ≤ 1000000) (hlen : (pathText p).length ≤ 140737488355328) :
    Calls Tryd.prog 39 #[v, .string ⟨#[46]⟩] w fun e w' => e = .returned (.string ⟨(pathText p).toArray⟩) ∧ Below w.heap.size w w' := by
  rcases h.2 with ⟨rfl, h0⟩ | ⟨g, cap, cur, rfl, e2, e3, e4, e5, e6, e7⟩
  · obtain rfl : p = [] := List.eq_nil_of_length_eq_zero h0
    refine (Any.strings_Join_none Tryd.lays156 Tryd.Builder_Extra_156 none 0 ⟨#[46]⟩ w).mono ?_
    rintro e w' ⟨rfl, rfl⟩
    exact ⟨rfl, Below.refl _ _⟩
  · have hlt : g < w.heap.size := by
      rcases Nat.lt_or_ge g w.heap.size with hl | hl
      · exact hl
      · rw [Array.getElem?_eq_none hl] at e3; cases e3
    refine (Any.strings_Join Tryd.lays156 Tryd.Builder_Extra_156 g 0 cap p ⟨#[46]⟩ w ?_ hlt (by omega) e4 hlen).mono ?_
    · intro j x hx
      have := h.cells (g := g) rfl j (.string x) (by rw [List.getElem?_map, hx]; rfl)
      rw [Nat.zero_add]
      rcases j with _ | j
      · exact this
      · simpa [Addr.add] using this
    · rintro e w' ⟨rfl, hb⟩
      exact ⟨rfl, hb⟩
end Err
end Go.Proofs.YtpllcnpmjnmcfaaDoor

/-
  The contracts of fail.codeWithin and fail.Code: the code of an error of package fail; OK of nil. All that was there is left as it was. Conditions: the value is an error of package fail, or nil; errors.errorType holds the type error (Laid).
-/
namespace Go.Proofs.YtpllcnpmjnmcfaaDoor
open Go.RowKit Go.Extern.Stop Go.Stop Go.Extern
namespace Err

/-- errors.As, what it leaves: the target's variable is set, all else that was there is as it was -/
def AsLeft (c : Int) (t : Addr) (W : World) (e : Ending) (w' : World) : Prop :=
  e = .returned (.bool true) ∧ w'.cell? t = some (.int .i64 c) ∧ (∀ a : Addr, a.block < W.heap.size → a.block ≠ t.block → w'.cell? a = W.cell? a) ∧ (∀ a : Addr, a.block < W.heap.size → w'.frozen? a = W.frozen? a) ∧ Below t.block W w'
theorem frozen_of_below {w w' : World} (h : Below w.heap.size w w') {a : Addr} (ha : a.block < w.heap.size) : w'.frozen? a = w.frozen? a := h.frozen ha
end Err
end Go.Proofs.YtpllcnpmjnmcfaaDoor

/-
  The contracts of fail.In, fail.New and fail.First: an error with one step more; the error of a code with a path, nil of OK; the first that is not nil. All that was there is left as it was. Conditions: the list holds the texts that are spoken of.
-/
namespace Go.Proofs.YtpllcnpmjnmcfaaDoor
open Go.RowKit
namespace Err

theorem in_nil (s : ByteArray) (w : World) :
    Calls Tryd.prog 54 #[.nilIface, .string s] w fun e w' => e = .returned .nilIface ∧ w = w' := by
  go_enter Tryd.func54, Tryd.ntmps54
  go_wp2
  go_ret
  exact ⟨rfl, rfl⟩
theorem in_some (u : TypeId) (x : Value) (s : ByteArray) (w : World) :
    Calls Tryd.prog 54 #[.iface u x, .string s] w fun e w' => e = .returned (.iface 100 (.pointer (some ⟨w.heap.size, 0, none⟩))) ∧ w' = w.alloc (.cells #[.string s, .iface u x] 102) := by
  go_enter Tryd.func54, Tryd.ntmps54
  go_wp2
  go_ret
  exact ⟨rfl, rfl⟩
theorem in_err {w : World} {E : Value} {c : Int} {p : List ByteArray} (h : Is w E c p) (s : ByteArray) :
    Calls Tryd.prog 54 #[E, .string s] w (Made c (s :: p) w) := by
  obtain ⟨u, x, rfl⟩ := h.iface
  refine (in_some u x s w).mono ?_
  rintro e w' ⟨rfl, rfl⟩
  refine ⟨_, rfl, ?_, (Below.refl _ _).alloc (Nat.le_refl _) _⟩
  exact .step _ _ _ _ _ _ (by simp) (by simp) (h.keep ((Below.refl _ _).alloc (Nat.le_refl _) _))
theorem new_ok (v : Value) (w : World) :
    Calls Tryd.prog 44 #[.int .i64 0, v] w fun e w' => e = .returned .nilIface ∧ w = w' := by
  go_enter Tryd.func44, Tryd.ntmps44
  go_wp2
  go_ret
  exact ⟨rfl, rfl⟩
theorem new_any (c : Int) (hc : (c == 0) = false) (A : Option Addr) (cap : Nat) (xs : List ByteArray) (w : World) (hT : Texts w A xs) (hn : xs.length ≤ 9223372036854775807) :
    Calls Tryd.prog 44 #[.int .i64 c, .slice A xs.length cap] w (Made c xs w) := by
  have HT := Lib.hid hT
  clear hT
  go_enter Tryd.func44, Tryd.ntmps44
  go_wp2
  go_loopw [5, 6] (fun E i wr => ∃ (k : Nat) (z : Int), k ≤ xs.length ∧ i = .int .i64 z ∧ z = (k : Int) - 1 ∧ Is wr E c (xs.drop k) ∧ Below w.heap.size w wr) (fun _ i _ => (RowKit.intOf i + 1).toNat)
  case atStart => exact ⟨xs.length, _, Nat.le_refl _, rfl, rfl, by rw [List.drop_length]; exact .code c, Below.refl _ _⟩
  case round =>
    obtain ⟨k, z, hk, rfl, hz, hE, hb⟩ := hrel
    rcases Nat.eq_zero_or_pos k with h0 | h0
    · obtain rfl : z = -1 := by omega
      subst h0
      have HE := Lib.hid hE
      clear hE hz
      go_wp2
      go_ret
      exact ⟨_, rfl, HE.out, hb⟩
    · obtain ⟨j, rfl⟩ : ∃ j, k = j + 1 := ⟨k - 1, by omega⟩
      obtain rfl : z = (j : Int) := by omega
      obtain ⟨a, rfl, hcell⟩ := (HT.out.below hb) j xs[j] (List.getElem?_eq_getElem (by omega))
      have HE := Lib.hid hE
      have Hz := Lib.hid hz
      clear hE hz
      have hj : (j : Int) < (xs.length : Int) := by omega
      go_wp2_with fail
      refine (in_err HE.out _).mono ?_
      rintro e w1 ⟨E1, rfl, h1, hb1⟩
      have H1 := Lib.hid h1
      clear h1
      go_wp2_with fail
      go_roundw
      case rel => exact ⟨j, (j : Int) - 1, by omega, rfl, rfl, by rw [List.drop_eq_getElem_cons (by omega)]; exact H1.out, hb.trans (hb1.mono hb.size)⟩
      case measure => simp [RowKit.intOf]
/-- the first of some values that is not nil -/
def firstOf : List Value → Value
  | [] => .nilIface
  | .nilIface :: r => firstOf r
  | E :: _ => E
theorem first_any (Es : List Value) (A : Option Addr) (cap : Nat) (w : World) (hE : ∀ (k : Nat) (E : Value), Es[k]? = some E → E = .nilIface ∨ ∃ u x, E = .iface u x)
    (hT : ∀ (k : Nat) (E : Value), Es[k]? = some E → ∃ a, A = some a ∧ w.cell? (a.add k) = some E) (hn : Es.length ≤ 9223372036854775807) :
    Calls Tryd.prog 43 #[.slice A Es.length cap] w fun e w' => e = .returned (firstOf Es) ∧ w = w' := by
  have HT := Lib.hid hT
  have HE := Lib.hid hE
  clear hT hE
  go_enter Tryd.func43, Tryd.ntmps43
  go_wp2
  go_loop [7] (fun i => ∃ k : Nat, k ≤ Es.length ∧ i = .int .i64 k ∧ firstOf Es = firstOf (Es.drop k)) (fun i => Es.length - (RowKit.intOf i).toNat)
  case atStart => exact ⟨0, Nat.zero_le _, rfl, rfl⟩
  case round =>
    obtain ⟨k, hk, rfl, hf⟩ := hrel
    have HF := Lib.hid hf
    clear hf
    by_cases hlt : k < Es.length
    · obtain ⟨a, rfl, hcell⟩ := HT.out k Es[k] (List.getElem?_eq_getElem hlt)
      have hd := List.drop_eq_getElem_cons hlt
      have HD := Lib.hid hd
      clear hd
      have hj : (k : Int) < (Es.length : Int) := by omega
      rcases HE.out k Es[k] (List.getElem?_eq_getElem hlt) with h0 | ⟨u, x, h0⟩
      · rw [h0] at hcell
        have H0 := Lib.hid h0
        clear h0
        go_wp2
        go_round
        case rel => exact ⟨k + 1, by omega, by go_num, by rw [HF.out, HD.out, H0.out]; rfl⟩
        case measure => simp [RowKit.intOf]; omega
      · rw [h0] at hcell
        have H0 := Lib.hid h0
        clear h0
        go_wp2
        go_ret
        exact ⟨by rw [HF.out, HD.out, H0.out]; rfl, rfl⟩
    · go_wp2
      go_ret
      exact ⟨by rw [HF.out, List.drop_of_length_le (by omega)]; rfl, rfl⟩
end Err
end Go.Proofs.YtpllcnpmjnmcfaaDoor

/-
  The contracts of package fail at an error of a code, nil being the one of OK: fail.New, fail.In, fail.Code, fail.Path, fail.Text. All that was there is left as it was. Conditions: as the parts say.
-/
namespace Go.Proofs.YtpllcnpmjnmcfaaDoor
open Go.RowKit
namespace Err

/-- the value E is the error of the code c with the path p, or nil, if c is OK (then there is no path) -/
def Opt (w : World) (E : Value) (c : Int) (p : List ByteArray) : Prop := (c = 0 ∧ p = [] ∧ E = .nilIface) ∨ (c ≠ 0 ∧ Is w E c p)
theorem Opt.keep {w w' : World} {E : Value} {c : Int} {p : List ByteArray} (h : Opt w E c p) (hb : Below w.heap.size w w') : Opt w' E c p := by
  rcases h with h | ⟨h0, h⟩
  · exact .inl h
  · exact .inr ⟨h0, h.keep hb⟩
/-- the path of New(c, xs) -/
def pathOf (c : Int) (xs : List ByteArray) : List ByteArray := if c = 0 then [] else xs
/-- a call ends with such an error, in new memory -/
def OptMade (c : Int) (p : List ByteArray) (w : World) (e : Ending) (w' : World) : Prop := ∃ E, e = .returned E ∧ Opt w' E c p ∧ Below w.heap.size w w'
theorem new_opt (c : Int) (A : Option Addr) (cap : Nat) (xs : List ByteArray) (w : World) (hT : Texts w A xs) (hn : xs.length ≤ 9223372036854775807) :
    Calls Tryd.prog 44 #[.int .i64 c, .slice A xs.length cap] w (OptMade c (pathOf c xs) w) := by
  by_cases h0 : c = 0
  · subst h0
    refine (new_ok _ w).mono ?_
    rintro e w' ⟨rfl, rfl⟩
    exact ⟨_, rfl, .inl ⟨rfl, if_pos rfl, rfl⟩, Below.refl _ _⟩
  · refine (new_any c (beq_eq_false_iff_ne.2 h0) A cap xs w hT hn).mono ?_
    rintro e w' ⟨E, rfl, hE, hb⟩
    exact ⟨_, rfl, .inr ⟨h0, by unfold pathOf; rw [if_neg h0]; exact hE⟩, hb⟩
theorem in_opt {w : World} {E : Value} {c : Int} {p : List ByteArray} (h : Opt w E c p) (s : ByteArray) :
    Calls Tryd.prog 54 #[E, .string s] w (OptMade c (pathOf c (s :: p)) w) := by
  rcases h with ⟨rfl, rfl, rfl⟩ | ⟨h0, h⟩
  · refine (in_nil s w).mono ?_
    rintro e w' ⟨rfl, rfl⟩
    exact ⟨_, rfl, .inl ⟨rfl, if_pos rfl, rfl⟩, Below.refl _ _⟩
  · refine (in_err h s).mono ?_
    rintro e w' ⟨E, rfl, hE, hb⟩
    exact ⟨_, rfl, .inr ⟨h0, by unfold pathOf; rw [if_neg h0]; exact hE⟩, hb⟩
/-- a row of one's own holds its texts -/
theorem Texts.of_own {w : World} {base : Nat} {A : Option Addr} {n c : Nat} {p : List ByteArray} (h : w.ownsRow base 9 1 (.slice A n c) p.length (p.map Value.string)) : Texts w A p ∧ n = p.length := by
  rcases h.2 with ⟨h1, h0⟩ | ⟨g, cap, cur, h1, _⟩
  · obtain rfl : p = [] := List.eq_nil_of_length_eq_zero h0
    injection h1 with e1 e2 e3
    exact ⟨fun k x hx => by simp at hx, e2⟩
  · injection h1 with e1 e2 e3
    subst e1
    exact ⟨fun k x hx => ⟨_, rfl, h.cells (g := g) rfl k (.string x) (by rw [List.getElem?_map, hx]; rfl)⟩, e2⟩
theorem own_slice {w : World} {base : Nat} {t : TypeId} {size n : Nat} {v : Value} {xs : List Value} (h : w.ownsRow base t size v n xs) : ∃ A c, v = .slice A n c := by
  rcases h.2 with ⟨h1, h0⟩ | ⟨g, cap, cur, h1, _⟩
  · exact ⟨none, 0, by rw [h1, h0]⟩
  · exact ⟨_, _, h1⟩
/-- a row of one's own as the source of an append -/
theorem own_source {w : World} {base : Nat} {t : TypeId} {A : Option Addr} {n c : Nat} {xs : List Value} (h : w.ownsRow base t 1 (.slice A n c) n xs) :
    (A = none ∧ n = 0 ∧ c = 0) ∨ ∃ ad, A = some ad ∧ ∀ (j : Nat) u, xs[j]? = some u → w.cell? (ad.add j) = some u := by
  rcases h.2 with ⟨h1, h0⟩ | ⟨g, cap, cur, h1, _⟩
  · injection h1 with e1 e2 e3
    exact .inl ⟨e1, e2, e3⟩
  · injection h1 with e1 e2 e3
    subst e1
    exact .inr ⟨_, rfl, h.cells (g := g) rfl⟩
end Err
end Go.Proofs.YtpllcnpmjnmcfaaDoor

/-
  A list of texts, and a list of numbers, in memory. No condition.
-/
namespace Go.Proofs.YtpllcnpmjnmcfaaDoor
open Go.RowKit
namespace Lists

theorem add_block (a : Addr) (k : Nat) : (a.add k).block = a.block := by
  unfold Addr.add; split <;> rfl
/-- the slice at A holds the texts xs -/
def Texts (w : World) (A : Option Addr) (xs : List ByteArray) : Prop := ∀ (k : Nat) (x : ByteArray), xs[k]? = some x → ∃ a, A = some a ∧ a.block < w.heap.size ∧ w.cell? (a.add k) = some (.string x)
/-- the slice at A holds the numbers zs -/
def Nums (q : IntKind) (w : World) (A : Option Addr) (zs : List Int) : Prop := ∀ (k : Nat) (z : Int), zs[k]? = some z → (Lit.int q z).wf = true ∧ ∃ a, A = some a ∧ a.block < w.heap.size ∧ w.cell? (a.add k) = some (.int q z)
theorem Texts.at {w : World} {A : Option Addr} {xs : List ByteArray} (h : Texts w A xs) {k : Nat} (hk : k < xs.length) : ∃ a, A = some a ∧ a.block < w.heap.size ∧ w.cell? (a.add k) = some (.string xs[k]) := h k _ (List.getElem?_eq_getElem hk)
theorem Nums.at {q : IntKind} {w : World} {A : Option Addr} {zs : List Int} (h : Nums q w A zs) {k : Nat} (hk : k < zs.length) : (Lit.int q zs[k]).wf = true ∧ ∃ a, A = some a ∧ a.block < w.heap.size ∧ w.cell? (a.add k) = some (.int q zs[k]) := h k _ (List.getElem?_eq_getElem hk)
end Lists
end Go.Proofs.YtpllcnpmjnmcfaaDoor

/-
  Specs in memory: labels, containers, a spec's value; what keeps them. No condition.
-/
namespace Go.Proofs.YtpllcnpmjnmcfaaDoor
open Go.RowKit
namespace Sd
open Lists

/-- a label -/
structure Lbl where
  key : ByteArray
  val : ByteArray
/-- a container: its name, its image, what it asks for, what it may have, its ports, its probe -/
structure Ctr where
  name : ByteArray
  image : ByteArray
  rc : Int
  rm : Int
  rp : Int
  lc : Int
  lm : Int
  lp : Int
  ports : List Int
  ev : Int
  fl : Int
/-- a spec -/
structure Spc where
  name : ByteArray
  labels : List Lbl
  init : List Ctr
  main : List Ctr
  restart : Int
  grace : Int
  prio : Int
def I64 (z : Int) : Prop := -9223372036854775808 ≤ z ∧ z ≤ 9223372036854775807
/-- the cells of a label -/
def Lbl.cellsAt (x : Lbl) (w : World) (a : Addr) : Prop := w.cell? a = some (.string x.key) ∧ w.cell? ⟨a.block, a.off + 1, none⟩ = some (.string x.val)
/-- the cells of a container, its ports at P, with room for c -/
def Ctr.cells (x : Ctr) (P : Option Addr) (c : Nat) : List Value :=
  [.string x.name, .string x.image, .int .i64 x.rc, .int .i64 x.rm, .int .i64 x.rp, .int .i64 x.lc, .int .i64 x.lm, .int .i64 x.lp, .slice P x.ports.length c, .int .i64 x.ev, .int .i64 x.fl]
def Ctr.cellsAt (x : Ctr) (P : Option Addr) (c : Nat) (w : World) (a : Addr) : Prop :=
  w.cell? a = some (.string x.name) ∧ w.cell? ⟨a.block, a.off + 1, none⟩ = some (.string x.image) ∧
  w.cell? ⟨a.block, a.off + 2, none⟩ = some (.int .i64 x.rc) ∧ w.cell? ⟨a.block, a.off + 3, none⟩ = some (.int .i64 x.rm) ∧ w.cell? ⟨a.block, a.off + 4, none⟩ = some (.int .i64 x.rp) ∧
  w.cell? ⟨a.block, a.off + 5, none⟩ = some (.int .i64 x.lc) ∧ w.cell? ⟨a.block, a.off + 6, none⟩ = some (.int .i64 x.lm) ∧ w.cell? ⟨a.block, a.off + 7, none⟩ = some (.int .i64 x.lp) ∧
  w.cell? ⟨a.block, a.off + 8, none⟩ = some (.slice P x.ports.length c) ∧ w.cell? ⟨a.block, a.off + 9, none⟩ = some (.int .i64 x.ev) ∧ w.cell? ⟨a.block, a.off + 10, none⟩ = some (.int .i64 x.fl) ∧ x.ports.length ≤ c
/-- its numbers fit -/
structure Ctr.Fits (x : Ctr) : Prop where
  rc : I64 x.rc
  rm : I64 x.rm
  rp : I64 x.rp
  lc : I64 x.lc
  lm : I64 x.lm
  lp : I64 x.lp
  ev : I64 x.ev
  fl : I64 x.fl
  ports : x.ports.length ≤ 9223372036854775807
/-- a list of labels at A -/
def Lbls (w : World) (A : Option Addr) (l : List Lbl) : Prop := ∀ (k : Nat) (x : Lbl), l[k]? = some x → ∃ a, A = some a ∧ a.block < w.heap.size ∧ x.cellsAt w (a.add (k * 2))
/-- a list of containers at A -/
def Ctrs (w : World) (A : Option Addr) (l : List Ctr) : Prop := ∀ (k : Nat) (x : Ctr), l[k]? = some x → x.Fits ∧ ∃ a P c, A = some a ∧ a.block < w.heap.size ∧ x.cellsAt P c w (a.add (k * 11)) ∧ Nums .i64 w P x.ports
/-- a spec's value, and its lists -/
structure Spc.In (S : Spc) (w : World) (LA : Option Addr) (lc : Nat) (IA : Option Addr) (ic : Nat) (MA : Option Addr) (mc : Nat) : Prop where
  labels : Lbls w LA S.labels
  init : Ctrs w IA S.init
  main : Ctrs w MA S.main
  nl : S.labels.length ≤ 9223372036854775807
  ni : S.init.length ≤ 9223372036854775807
  nm : S.main.length ≤ 9223372036854775807
  restart : I64 S.restart
  grace : I64 S.grace
  prio : I64 S.prio
def Spc.cells (S : Spc) (LA : Option Addr) (lc : Nat) (IA : Option Addr) (ic : Nat) (MA : Option Addr) (mc : Nat) : Array Value :=
  #[.string S.name, .slice LA S.labels.length lc, .slice IA S.init.length ic, .slice MA S.main.length mc, .int .i64 S.restart, .int .i64 S.grace, .int .i64 S.prio]
theorem Lbl.cellsAt.keep {x : Lbl} {w w' : World} {a : Addr} (h : x.cellsAt w a) (hb : w'.heap[a.block]? = w.heap[a.block]?) : x.cellsAt w' a := by
  have e : ∀ p : Addr, p.block = a.block → w'.cell? p = w.cell? p := fun p hp => World.cell?_of_block (by rw [hp]; exact hb)
  unfold Lbl.cellsAt at *
  rw [e a rfl, e ⟨a.block, a.off + 1, none⟩ rfl]
  exact h
theorem Ctr.cellsAt.keep {x : Ctr} {P : Option Addr} {c : Nat} {w w' : World} {a : Addr} (h : x.cellsAt P c w a) (hb : w'.heap[a.block]? = w.heap[a.block]?) : x.cellsAt P c w' a := by
  have e : ∀ p : Addr, p.block = a.block → w'.cell? p = w.cell? p := fun p hp => World.cell?_of_block (by rw [hp]; exact hb)
  unfold Ctr.cellsAt at *
  rw [e a rfl, e ⟨a.block, a.off + 1, none⟩ rfl, e ⟨a.block, a.off + 2, none⟩ rfl, e ⟨a.block, a.off + 3, none⟩ rfl, e ⟨a.block, a.off + 4, none⟩ rfl, e ⟨a.block, a.off + 5, none⟩ rfl, e ⟨a.block, a.off + 6, none⟩ rfl, e ⟨a.block, a.off + 7, none⟩ rfl, e ⟨a.block, a.off + 8, none⟩ rfl, e ⟨a.block, a.off + 9, none⟩ rfl, e ⟨a.block, a.off + 10, none⟩ rfl]
  exact h
theorem Nums.below {q : IntKind} {w w' : World} {A : Option Addr} {l : List Int} (h : Nums q w A l) (hb : Below w.heap.size w w') : Nums q w' A l := by
  intro k x hk
  obtain ⟨h1, a, hA, ha, hc⟩ := h k x hk
  exact ⟨h1, a, hA, Nat.lt_of_lt_of_le ha hb.size, (hb.cell (p := a.add k) (by rw [add_block]; exact ha)).trans hc⟩
theorem Lbls.below {w w' : World} {A : Option Addr} {l : List Lbl} (h : Lbls w A l) (hb : Below w.heap.size w w') : Lbls w' A l := by
  intro k x hk
  obtain ⟨a, hA, ha, hc⟩ := h k x hk
  exact ⟨a, hA, Nat.lt_of_lt_of_le ha hb.size, hc.keep (by rw [add_block]; exact hb.block _ ha)⟩
theorem Ctrs.below {w w' : World} {A : Option Addr} {l : List Ctr} (h : Ctrs w A l) (hb : Below w.heap.size w w') : Ctrs w' A l := by
  intro k x hk
  obtain ⟨hf, a, P, c, hA, ha, hc, hn⟩ := h k x hk
  exact ⟨hf, a, P, c, hA, Nat.lt_of_lt_of_le ha hb.size, hc.keep (by rw [add_block]; exact hb.block _ ha), Nums.below hn hb⟩
theorem Spc.In.below {S : Spc} {w w' : World} {LA : Option Addr} {lc : Nat} {IA : Option Addr} {ic : Nat} {MA : Option Addr} {mc : Nat} (h : S.In w LA lc IA ic MA mc) (hb : Below w.heap.size w w') : S.In w' LA lc IA ic MA mc :=
  ⟨h.labels.below hb, h.init.below hb, h.main.below hb, h.nl, h.ni, h.nm, h.restart, h.grace, h.prio⟩
theorem Lbls.at {w : World} {A : Option Addr} {l : List Lbl} (h : Lbls w A l) {k : Nat} (hk : k < l.length) : ∃ a, A = some a ∧ a.block < w.heap.size ∧ (l[k]).cellsAt w (a.add (k * 2)) := h k _ (List.getElem?_eq_getElem hk)
theorem Ctrs.at {w : World} {A : Option Addr} {l : List Ctr} (h : Ctrs w A l) {k : Nat} (hk : k < l.length) : (l[k]).Fits ∧ ∃ a P c, A = some a ∧ a.block < w.heap.size ∧ (l[k]).cellsAt P c w (a.add (k * 11)) ∧ Nums .i64 w P (l[k]).ports := h k _ (List.getElem?_eq_getElem hk)
end Sd
end Go.Proofs.YtpllcnpmjnmcfaaDoor

/-
  The document's words of what may be a spec, in plain functions: the first code, and the path's text. No condition.
-/
namespace Go.Proofs.YtpllcnpmjnmcfaaDoor
open TextPure
namespace Sd

def isName (s : ByteArray) : Bool := nameL s.data.toList
def isKey (s : ByteArray) : Bool := keyL s.data.toList
def isVal (s : ByteArray) : Bool := valL s.data.toList
def isImage (s : ByteArray) : Bool := imageL s.data.toList
/-- a name, a number between brackets -/
def atB (name : ByteArray) (i : Nat) : ByteArray := name ++ ⟨#[91]⟩ ++ ⟨(Lib.itoa (i : Int)).toArray⟩ ++ ⟨#[93]⟩
def t_name : ByteArray := ⟨#[110, 97, 109, 101]⟩
def t_labels : ByteArray := ⟨#[108, 97, 98, 101, 108, 115]⟩
def t_key : ByteArray := ⟨#[46, 107, 101, 121]⟩
def t_val : ByteArray := ⟨#[46, 118, 97, 108]⟩
def t_init : ByteArray := ⟨#[105, 110, 105, 116]⟩
def t_main : ByteArray := ⟨#[109, 97, 105, 110]⟩
def t_image : ByteArray := ⟨#[105, 109, 97, 103, 101]⟩
def t_req : ByteArray := ⟨#[114, 101, 113, 46]⟩
def t_lim : ByteArray := ⟨#[108, 105, 109, 46]⟩
def t_cpu : ByteArray := ⟨#[99, 112, 117]⟩
def t_mem : ByteArray := ⟨#[109, 101, 109]⟩
def t_pids : ByteArray := ⟨#[112, 105, 100, 115]⟩
def t_ports : ByteArray := ⟨#[112, 111, 114, 116, 115]⟩
def t_every : ByteArray := ⟨#[112, 114, 111, 98, 101, 46, 101, 118, 101, 114, 121]⟩
def t_fails : ByteArray := ⟨#[112, 114, 111, 98, 101, 46, 102, 97, 105, 108, 115]⟩
def t_restart : ByteArray := ⟨#[114, 101, 115, 116, 97, 114, 116]⟩
def t_grace : ByteArray := ⟨#[103, 114, 97, 99, 101]⟩
def t_prio : ByteArray := ⟨#[112, 114, 105, 111]⟩
/-- what is told: a code, and a path's text; nothing is wrong: 0, and no text -/
abbrev Say := Int × ByteArray
def fine : Say := (0, ⟨#[]⟩)
/-- is a label not greater than the one ahead? -/
def notMore (p : Option Lbl) (x : Lbl) : Bool := match p with
  | none => false
  | some q => !(Op.bytesLess q.key.toList x.key.toList)
/-- the labels from number i on, the one ahead being known -/
def labelsFrom (name : ByteArray) : Nat → Option Lbl → List Lbl → Say
  | _, _, [] => fine
  | i, p, x :: l =>
    if isKey x.key = false then (31, atB name i ++ t_key)
    else if notMore p x = true then (4, atB name i ++ t_key)
    else if isVal x.val = false then (32, atB name i ++ t_val)
    else labelsFrom name (i + 1) (some x) l
theorem labelsFrom_cons (name : ByteArray) (i : Nat) (p : Option Lbl) (x : Lbl) (l : List Lbl) : labelsFrom name i p (x :: l) =
    if isKey x.key = false then (31, atB name i ++ t_key) else if notMore p x = true then (4, atB name i ++ t_key) else if isVal x.val = false then (32, atB name i ++ t_val) else labelsFrom name (i + 1) (some x) l := by
  cases p <;> rfl
def labelsV (name : ByteArray) (l : List Lbl) : Say := if 4 < l.length then (2, name) else labelsFrom name 0 none l
def big : Int := 1099511627776
/-- the first of three numbers out of bounds: which -/
def numV (free : Bool) (n least : Int) : Bool := (!free || n != 0) && (decide (n < least) || decide (big < n))
def numsV (free : Bool) (n0 n1 n2 l0 l1 l2 : Int) : Int := if numV free n0 l0 then 0 else if numV free n1 l1 then 1 else if numV free n2 l2 then 2 else -1
def t_res (k : Int) : ByteArray := if k = 0 then t_cpu else if k = 1 then t_mem else t_pids
/-- is a port one of these containers'? -/
def hasV (l : List Ctr) (p : Int) : Bool := l.any fun c => c.ports.contains p
/-- the ports from number k on, those ahead in the container being known -/
def portsFrom (ahead : List Ctr) : Nat → List Int → List Int → Say
  | _, _, [] => fine
  | k, seen, p :: l =>
    if p < 1 ∨ 65535 < p then (1, atB t_ports k)
    else if hasV ahead p || seen.contains p then (150, atB t_ports k)
    else portsFrom ahead (k + 1) (seen ++ [p]) l
/-- a probe -/
def probeV (ev fl : Int) (init : Bool) : Say :=
  if ev < 0 ∨ 1000 < ev ∨ (init = true ∧ 0 < ev) then (1, t_every)
  else if (ev = 0 ∧ fl ≠ 0) ∨ (0 < ev ∧ (fl < 1 ∨ 10 < fl)) then (1, t_fails)
  else fine
/-- a container, behind others -/
def oneV (x : Ctr) (ahead : List Ctr) (init : Bool) : Say :=
  if isName x.name = false then (30, t_name)
  else if ahead.any (fun c => c.name.toList == x.name.toList) then (7, t_name)
  else if isImage x.image = false then (33, t_image)
  else if 0 ≤ numsV false x.rc x.rm x.rp 0 0 0 then (1, t_req ++ t_res (numsV false x.rc x.rm x.rp 0 0 0))
  else if 0 ≤ numsV true x.lc x.lm x.lp x.rc x.rm x.rp then (1, t_lim ++ t_res (numsV true x.lc x.lm x.lp x.rc x.rm x.rp))
  else if 3 < x.ports.length ∨ (init = true ∧ 0 < x.ports.length) then (2, t_ports)
  else if (portsFrom ahead 0 [] x.ports).1 ≠ 0 then portsFrom ahead 0 [] x.ports
  else probeV x.ev x.fl init
/-- the containers from number i on, those ahead being known -/
def ctrsFrom (name : ByteArray) (init : Bool) : Nat → List Ctr → List Ctr → Say
  | _, _, [] => fine
  | i, ahead, x :: l => if (oneV x ahead init).1 ≠ 0 then ((oneV x ahead init).1, atB name i ++ ⟨#[46]⟩ ++ (oneV x ahead init).2) else ctrsFrom name init (i + 1) (ahead ++ [x]) l
/-- what stands behind the lists -/
def tailV (S : Spc) : Say :=
  if S.restart < 1 ∨ 3 < S.restart then (1, t_restart)
  else if S.grace < 0 ∨ 1000 < S.grace then (1, t_grace)
  else if S.prio < 0 ∨ 10 < S.prio then (1, t_prio)
  else fine
/-- a spec -/
def checkV (S : Spc) : Say :=
  if isName S.name = false then (30, t_name)
  else if (labelsV t_labels S.labels).1 ≠ 0 then labelsV t_labels S.labels
  else if 3 < S.init.length then (2, t_init)
  else if (ctrsFrom t_init true 0 [] S.init).1 ≠ 0 then ctrsFrom t_init true 0 [] S.init
  else if S.main.length < 1 ∨ 4 < S.main.length then (2, t_main)
  else if (ctrsFrom t_main false 0 S.init S.main).1 ≠ 0 then ctrsFrom t_main false 0 S.init S.main
  else tailV S
end Sd
end Go.Proofs.YtpllcnpmjnmcfaaDoor

/-
  What an error of package fail says: a code and its path's text (nil: nothing is wrong), its steps lying in blocks of which something is known; fail.New of one step, fail.In, fail.First, fail.Code, fail.Text by it. Conditions: texts are not too long.
-/
namespace Go.Proofs.YtpllcnpmjnmcfaaDoor
open Go.RowKit Err
namespace Sd

/-- the value E is the error of the code c with the path p, its steps in blocks of D -/
inductive IsIn (D : Nat → Prop) (w : World) : Value → Int → List ByteArray → Prop
  | code (c : Int) : IsIn D w (.iface 73 (.int .i64 c)) c []
  | step (b : Nat) (E : Value) (s : ByteArray) (c : Int) (p : List ByteArray) : D b → w.cell? ⟨b, 0, none⟩ = some (.string s) → w.cell? ⟨b, 1, none⟩ = some E → IsIn D w E c p →
      IsIn D w (.iface 100 (.pointer (some ⟨b, 0, none⟩))) c (s :: p)
theorem IsIn.is {D : Nat → Prop} {w : World} {E : Value} {c : Int} {p : List ByteArray} (h : IsIn D w E c p) : Is w E c p := by
  induction h with
  | code c => exact .code c
  | step b E s c p _ h0 h1 _ ih => exact .step b 0 E s c p h0 h1 ih
theorem IsIn.keep {D D' : Nat → Prop} {w w' : World} {E : Value} {c : Int} {p : List ByteArray} (h : IsIn D w E c p) (hd : ∀ b, D b → b < w.heap.size → D' b ∧ w'.heap[b]? = w.heap[b]?) : IsIn D' w' E c p := by
  induction h with
  | code c => exact .code c
  | step b E s c p hb h0 h1 _ ih =>
    obtain ⟨h2, h3⟩ := hd b hb (lt_of_cell h0)
    exact .step b E s c p h2 ((World.cell?_of_block (a := ⟨b, 0, none⟩) h3).trans h0) ((World.cell?_of_block (a := ⟨b, 1, none⟩) h3).trans h1) ih
theorem in_in {D : Nat → Prop} {w : World} {E : Value} {c : Int} {p : List ByteArray} (h : IsIn D w E c p) (s : ByteArray) :
    Calls Tryd.prog 54 #[E, .string s] w fun e w' => ∃ E', e = .returned E' ∧ IsIn (fun b => D b ∨ w.heap.size ≤ b) w' E' c (s :: p) ∧ Below w.heap.size w w' := by
  obtain ⟨u, x, rfl⟩ := h.is.iface
  refine (in_some u x s w).mono ?_
  rintro e w' ⟨rfl, rfl⟩
  refine ⟨_, rfl, ?_, (Below.refl _ _).alloc (Nat.le_refl _) _⟩
  exact .step _ _ _ _ _ (.inr (Nat.le_refl _)) (by simp) (by simp) (h.keep fun b hb hlt => ⟨.inl hb, ((Below.refl _ _).alloc (Nat.le_refl _) _).block b hlt⟩)
theorem new_in (c : Int) (hc : (c == 0) = false) (A : Option Addr) (cap : Nat) (xs : List ByteArray) (w : World) (hT : Texts w A xs) (hn : xs.length ≤ 9223372036854775807) :
    Calls Tryd.prog 44 #[.int .i64 c, .slice A xs.length cap] w fun e w' => ∃ E', e = .returned E' ∧ IsIn (fun b => w.heap.size ≤ b) w' E' c xs ∧ Below w.heap.size w w' := by
  have HT := Lib.hid hT
  clear hT
  go_enter Tryd.func44, Tryd.ntmps44
  go_wp2
  go_loopw [5, 6] (fun E i wr => ∃ (k : Nat) (z : Int), k ≤ xs.length ∧ i = .int .i64 z ∧ z = (k : Int) - 1 ∧ IsIn (fun b => w.heap.size ≤ b) wr E c (xs.drop k) ∧ Below w.heap.size w wr) (fun _ i _ => (RowKit.intOf i + 1).toNat)
  case atStart => exact ⟨xs.length, _, Nat.le_refl _, rfl, rfl, by rw [List.drop_length]; exact .code c, Below.refl _ _⟩
  case round =>
    obtain ⟨k, z, hk, rfl, hz, hE, hb⟩ := hrel
    rcases Nat.eq_zero_or_pos k with h0 | h0
    · obtain rfl : z = -1 := by omega
      subst h0
      have HE := Lib.hid hE
      clear hE hz
      go_wp2
      go_ret
      exact ⟨_, rfl, HE.out, hb⟩
    · obtain ⟨j, rfl⟩ : ∃ j, k = j + 1 := ⟨k - 1, by omega⟩
      obtain rfl : z = (j : Int) := by omega
      obtain ⟨a, rfl, hcell⟩ := (HT.out.below hb) j xs[j] (List.getElem?_eq_getElem (by omega))
      have HE := Lib.hid hE
      have Hz := Lib.hid hz
      clear hE hz
      have hj : (j : Int) < (xs.length : Int) := by omega
      go_wp2_with fail
      refine (in_in HE.out _).mono ?_
      rintro e w1 ⟨E1, rfl, h1, hb1⟩
      have H1 := Lib.hid (h1.keep (D' := fun b => w.heap.size ≤ b) (w' := w1) fun b hd _ => ⟨hd.elim (fun x => x) fun x => Nat.le_trans hb.size x, rfl⟩)
      clear h1
      go_wp2_with fail
      go_roundw
      case rel => exact ⟨j, (j : Int) - 1, by omega, rfl, rfl, by rw [List.drop_eq_getElem_cons (by omega)]; exact H1.out, hb.trans (hb1.mono hb.size)⟩
      case measure => simp [RowKit.intOf]
/-- the value E says y: nil, if nothing is wrong; else it is the error of y's code whose path reads as y's text -/
def Says (D : Nat → Prop) (w : World) (E : Value) (y : Say) : Prop :=
  (y = fine ∧ E = .nilIface) ∨ (y.1 ≠ 0 ∧ y.2.size ≤ 100000 ∧ ∃ p, IsIn D w E y.1 p ∧ p ≠ [] ∧ (⟨(pathText p).toArray⟩ : ByteArray) = y.2)
theorem Says.keep {D D' : Nat → Prop} {w w' : World} {E : Value} {y : Say} (h : Says D w E y) (hd : ∀ b, D b → b < w.heap.size → D' b ∧ w'.heap[b]? = w.heap[b]?) : Says D' w' E y := by
  rcases h with h | ⟨h0, hs, p, h1, h2, h4⟩
  · exact .inl h
  · exact .inr ⟨h0, hs, p, h1.keep hd, h2, h4⟩
theorem Says.below {D : Nat → Prop} {w w' : World} {E : Value} {y : Say} (h : Says D w E y) (hb : Below w.heap.size w w') : Says D w' E y := h.keep fun b hd hlt => ⟨hd, hb.block b hlt⟩
theorem Says.form {D : Nat → Prop} {w : World} {E : Value} {y : Say} (h : Says D w E y) : E = .nilIface ∨ ∃ u x, E = .iface u x := by
  rcases h with ⟨_, h⟩ | ⟨_, _, p, h, _⟩
  · exact .inl h
  · exact .inr h.is.iface
theorem Says.nil_iff {D : Nat → Prop} {w : World} {E : Value} {y : Say} (h : Says D w E y) : E = .nilIface ↔ y.1 = 0 := by
  rcases h with ⟨rfl, h⟩ | ⟨h0, _, p, h, _⟩
  · simp [h, fine]
  · obtain ⟨u, x, rfl⟩ := h.is.iface
    simp [h0]
theorem Says.zero {D : Nat → Prop} {w : World} {E : Value} {y : Say} (h : Says D w E y) (h0 : y.1 = 0) : y = fine := by
  rcases h with ⟨h, _⟩ | ⟨h, _⟩
  · exact h
  · exact absurd h0 h
/-- a call ends with what says y, in new memory -/
def Tells (y : Say) (w : World) (e : Ending) (w' : World) : Prop := ∃ E, e = .returned E ∧ Says (fun b => w.heap.size ≤ b) w' E y ∧ Below w.heap.size w w'
theorem pathText_one (s : ByteArray) : (⟨(pathText [s]).toArray⟩ : ByteArray) = s := by
  apply ByteArray.ext
  show (pathText [s]).toArray = s.data
  simp [pathText, Lib.join_one]
theorem pathText_cons (s : ByteArray) {p : List ByteArray} (hp : p ≠ []) : (⟨(pathText (s :: p)).toArray⟩ : ByteArray) = s ++ ⟨#[46]⟩ ++ ⟨(pathText p).toArray⟩ := by
  rcases p with _ | ⟨q, p⟩
  · exact absurd rfl hp
  · apply ByteArray.ext
    show (pathText (s :: q :: p)).toArray = _
    simp [pathText, Lib.join_cons, Lib.joinTail, ByteArray.data_append]
/-- one step of a code -/
def newV (c : Int) (s : ByteArray) : Say := if c = 0 then fine else (c, s)
theorem new_says (c : Int) (s : ByteArray) (g cap : Nat) (w : World) (hs : s.size ≤ 100000) (hc : w.cell? ⟨g, 0, none⟩ = some (.string s)) :
    Calls Tryd.prog 44 #[.int .i64 c, .slice (some ⟨g, 0, none⟩) 1 cap] w (Tells (newV c s) w) := by
  by_cases h0 : c = 0
  · subst h0
    refine (new_ok _ w).mono ?_
    rintro e w' ⟨rfl, rfl⟩
    exact ⟨_, rfl, .inl ⟨if_pos rfl, rfl⟩, Below.refl _ _⟩
  · refine (new_in c (beq_eq_false_iff_ne.2 h0) (some ⟨g, 0, none⟩) cap [s] w ?_ (by simp)).mono ?_
    · intro k x hx
      rcases k with _ | k
      · simp at hx; subst hx; exact ⟨_, rfl, hc⟩
      · simp at hx
    · rintro e w' ⟨E, rfl, hE, hb⟩
      refine ⟨_, rfl, .inr ?_, hb⟩
      unfold newV
      rw [if_neg h0]
      exact ⟨h0, hs, [s], hE, by simp, pathText_one s⟩
/-- one step ahead -/
def inV (s : ByteArray) (y : Say) : Say := if y.1 = 0 then fine else (y.1, s ++ ⟨#[46]⟩ ++ y.2)
theorem in_says {D : Nat → Prop} {w : World} {E : Value} {y : Say} (h : Says D w E y) (s : ByteArray) (hs : s.size + y.2.size ≤ 90000) :
    Calls Tryd.prog 54 #[E, .string s] w fun e w' => ∃ E', e = .returned E' ∧ Says (fun b => D b ∨ w.heap.size ≤ b) w' E' (inV s y) ∧ Below w.heap.size w w' := by
  rcases h with ⟨rfl, rfl⟩ | ⟨h0, hs0, p, h1, h2, h4⟩
  · refine (in_nil s w).mono ?_
    rintro e w' ⟨rfl, rfl⟩
    exact ⟨_, rfl, .inl ⟨if_pos rfl, rfl⟩, Below.refl _ _⟩
  · refine (in_in h1 s).mono ?_
    rintro e w' ⟨E', rfl, hE, hb⟩
    refine ⟨_, rfl, .inr ?_, hb⟩
    unfold inV
    rw [if_neg h0]
    refine ⟨h0, ?_, s :: p, hE, by simp, ?_⟩
    · show (s ++ ⟨#[46]⟩ ++ y.2).size ≤ _
      rw [ByteArray.size_append, ByteArray.size_append]
      show _ + 1 + _ ≤ _
      omega
    · rw [pathText_cons s h2, h4]
/-- the first of some -/
def firstV : List Say → Say
  | [] => fine
  | y :: l => if y.1 = 0 then firstV l else y
theorem first_says {D : Nat → Prop} {w : World} : ∀ {Es : List Value} {ys : List Say}, Es.length = ys.length → (∀ (k : Nat) (E : Value) (y : Say), Es[k]? = some E → ys[k]? = some y → Says D w E y) → Says D w (firstOf Es) (firstV ys)
  | [], [], _, _ => .inl ⟨rfl, rfl⟩
  | [], _ :: _, h, _ => by simp at h
  | _ :: _, [], h, _ => by simp at h
  | E :: Es, y :: ys, hl, h => by
    have h0 := h 0 E y rfl rfl
    have ih := first_says (Es := Es) (ys := ys) (by simpa using hl) (fun k E' c' h1 h2 => h (k + 1) E' c' (by simpa using h1) (by simpa using h2))
    rcases h0 with ⟨rfl, rfl⟩ | ⟨hc, hsz, p, hE, hq⟩
    · simpa [firstV, firstOf, fine] using ih
    · obtain ⟨u, x, rfl⟩ := hE.is.iface
      have : Says D w (.iface u x) y := .inr ⟨hc, hsz, p, hE, hq⟩
      simpa [firstV, firstOf, hc] using this
end Sd
end Go.Proofs.YtpllcnpmjnmcfaaDoor
