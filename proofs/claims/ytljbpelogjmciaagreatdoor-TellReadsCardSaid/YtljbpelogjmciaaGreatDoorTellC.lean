/-
 The line of a message: its parts, and how replyLine's closure adds one (add_any); names of the kinds of events, great numbers' digits. Conditions: the texts are short; the listed variables hold what the program's text lays. And what follows of it, part by part, each with its conditions.
-/
import Derived.Test.YtljbpelogjmciaaGreatDoorTellB
import Derived.Test.YtljbpelogjmciaaGreatDoorAppendAny
import Derived.Test.YtljbpelogjmciaaGreatDoorFormatUint
import Derived.Test.YtljbpelogjmciaaGreatDoorRegionAll
import Derived.Test.YtljbpelogjmciaaGreatDoorTellA
import Derived.Deep.MidRow
set_option maxHeartbeats 4000000
set_option maxRecDepth 100000
set_option linter.unusedVariables false
set_option linter.unusedSimpArgs false
namespace Go.Proofs.YtljbpelogjmciaaGreatDoor
open Go.ChangeShapes Go.WideShapes Go.ChangeAt Go.RowKit Go.Lib
open LebMath WirePure Sd Wire SpecOwn SpecRef Book Pk
namespace Tl
def addP (is : Bool) (nm v : ByteArray) (xs : List ByteArray) : List ByteArray := if is then xs ++ [nm ++ ⟨#[61]⟩ ++ v] else xs
def Parts (w : World) (B p : Nat) (xs : List ByteArray) : Prop := ∃ (A : Option Addr) (c : Nat), B ≤ p ∧ xs.length ≤ 50 ∧ w.heap[p]? = some (.cells #[.slice A xs.length c] 116 (0, 0)) ∧ w.ownsRow B 9 1 (.slice A xs.length c) xs.length (xs.map Value.string) ∧ (Value.slice A xs.length c).ownBlock ≠ some p
theorem own_other {w w' : World} {base : Nat} {e : TypeId} {size n : Nat} {v : Value} {xs : List Value} (h : w.ownsRow base e size v n xs) (hk : ∀ g, v.ownBlock = some g → w'.heap[g]? = w.heap[g]?) : w'.ownsRow base e size v n xs := by
 obtain ⟨h1, h2⟩ := h
 refine ⟨h1, ?_⟩
 rcases h2 with h2 | ⟨g, cap, cur, hv, hg, hh, r⟩
 · exact .inl h2
 · exact .inr ⟨g, cap, cur, hv, hg, by rw [hk g (by rw [hv]; rfl)]; exact hh, r⟩
theorem Parts.keep {w w' : World} {B p : Nat} {xs : List ByteArray} (h : Parts w B p xs) (hb : Below w.heap.size w w') : Parts w' B p xs := by
 obtain ⟨A, c, h1, h5, h2, h3, h4⟩ := h
 refine ⟨A, c, h1, h5, (hb.block p (lt_of_block h2)).trans h2, own_other h3 (fun g hg => hb.block g ?_), h4⟩
 rcases h3.2 with ⟨e1, _⟩ | ⟨g', cap, cur, e1, e2, e3, _⟩
 · rw [e1] at hg; cases hg
 · rw [e1] at hg; injection hg with hg; subst hg; exact lt_of_block e3
set_option maxHeartbeats 1000000 in
theorem add_any (B p : Nat) (xs : List ByteArray) (nm v : ByteArray) (is : Bool) (hx : xs.length ≤ 20) (hnm : nm.size ≤ 10) (hv : v.size ≤ 1000) (w : World) (hP : Parts w B p xs) :
 Calls Tryz.prog 119 #[.string nm, .string v, .bool is, .pointer (some ⟨p, 0, none⟩)] w fun e w' => e = .returned (.tuple #[]) ∧ Parts w' B p (addP is nm v xs) ∧ Below B w w' := by
 cases is with
 | false =>
  have HP := hid hP
  clear hP
  go_enter Tryz.func119, Tryz.ntmps119
  go_wp2_with fail
  go_end0
  exact ⟨rfl, HP.out, Below.refl _ _⟩
 | true =>
  obtain ⟨A, c, hB, hx50, hp, ho, hne⟩ := hP
  have hpl := lt_of_block hp
  have hc := box_cell hp 0 rfl
  have hf := box_free hp 0
  obtain ⟨i0, hi, hz0, hz1, hz2⟩ := info_parts (show (Tryz.prog.info? 9).map (fun i => (i.zero, i.size, i.bytes)) = some (some (.string ⟨#[]⟩), 1, 16) by kernel_rfl)
  have hs1 : (nm ++ ⟨#[61]⟩ : ByteArray).size = nm.size + 1 := by rw [ByteArray.size_append]; rfl
  have ra : ∀ u, (Op.stringOp .add nm ⟨#[61]⟩).run Tryz.prog u = .ok (.string (nm ++ ⟨#[61]⟩)) u := fun u => run_string_add_sum u nm ⟨#[61]⟩ (by show nm.size + 1 ≤ _; omega)
  have rb : ∀ u, (Op.stringOp .add (nm ++ ⟨#[61]⟩) v).run Tryz.prog u = .ok (.string (nm ++ ⟨#[61]⟩ ++ v)) u := fun u => run_string_add_sum u _ v (by rw [hs1]; omega)
  have HP := hid hp
  have HO := hid ho
  have HN := hid hne
  obtain ⟨z, hzz⟩ : ∃ z, nm ++ ⟨#[61]⟩ ++ v = z := ⟨_, rfl⟩
  rw [hzz] at rb
  have HZ := hid hzz
  clear hp ho hne hs1 hzz
  go_enter Tryz.func119, Tryz.ntmps119
  go_wp2_with (at_builtin; refine AppendAny.wpList_append_want rfl _ _ 116 rfl B 9 i0 (.string ⟨#[]⟩) 1 16 Tryz.underlying116 hi hz0 hz1 hz2 rfl (by decide) (.slice A xs.length c) xs.length (xs.map Value.string) rfl (HO.out.alloc (.cells #[.string z] 9)) (some ⟨w.heap.size, 0, none⟩) 1 1 [.string z] rfl rfl ?c1 ?c2 ?c3 ?c4 ?c5 ?_)
  case c1 => exact .inr ⟨_, rfl, (World.ownsRow_lit (base := 0) (size := 1) (e := 9) w ([.string z] : List Value).toArray 1 (Nat.zero_le _) (by decide) rfl).cells rfl⟩
  case c2 => intro u hu; simp only [List.mem_cons, List.not_mem_nil, or_false] at hu; rcases hu with rfl; rfl
  case c3 => unfold maxLen; omega
  case c4 => omega
  case c5 => simp; omega
  intro v' w1 hown1 hgrow
  have hP1 : w1.heap[p]? = some (.cells #[.slice A xs.length c] 116 (0, 0)) := (hgrow.block p (by simp; omega) (fun e => HN.out e.symm)).trans ((((Below.refl w.heap.size w).alloc (Nat.le_refl _) _).block p hpl).trans HP.out)
  obtain ⟨A', c', rfl⟩ : ∃ A' c', v' = .slice A' (xs.length + 1) c' := by
   rcases hown1.2 with ⟨e1, e2⟩ | ⟨g, cap, cur, e1, _⟩
   · exact ⟨none, 0, by rw [e1, e2]⟩
   · exact ⟨_, _, e1⟩
  have hne1 : (Value.slice A' (xs.length + 1) c').ownBlock ≠ some p := by
   intro he
   rcases hown1.2 with ⟨e1, e2⟩ | ⟨g, cap, cur, e1, _, e3, _⟩
   · omega
   · rw [e1] at he
     injection he with he
     subst he
     rw [hP1] at e3
     injection e3 with e3
     injection e3 with _ e3
     exact absurd e3 (by decide)
  have hB1 : Below B w w1 := (((Below.refl B w).alloc (by omega) _)).grown hgrow (by simp; omega) (fun k hk => by
   rcases HO.out.2 with ⟨e1, _⟩ | ⟨g', cap, cur, e1, e2, _⟩
   · rw [e1] at hk; cases hk
   · rw [e1] at hk; have hk2 : g' = k := Option.some.inj hk; omega)
  have hk1 := box_cell hP1 0 rfl
  have hf1 := box_free hP1 0
  have HP1 := hid hP1
  have HO1 := hid hown1
  have HN1 := hid hne1
  have HB1 := hid hB1
  clear hown1 hgrow hP1 hne1 hB1 hc hf; go_wp2_with fail
  go_end0
  have hP2 : (w1.setCell ⟨p, 0, none⟩ (.slice A' (xs.length + 1) c')).heap[p]? = some (.cells #[.slice A' (xs.length + 1) c'] 116 (0, 0)) := box_set HP1.out 0 _ rfl
  refine ⟨rfl, ⟨A', c', hB, by unfold addP; simp; omega, ?_, ?_, ?_⟩, HB1.out.setCell (p := ⟨p, 0, none⟩) hB _⟩
  · unfold addP
    rw [if_pos rfl, List.length_append]
    exact hP2
  · unfold addP
    rw [if_pos rfl, List.length_append, HZ.out, List.map_append]
    refine own_other HO1.out (fun g hg => Below.heap_setCell _ _ _ _ (fun e => ?_))
    subst e
    exact HN1.out hg
  · unfold addP
    rw [if_pos rfl, List.length_append]
    exact HN1.out
end Tl
end Go.Proofs.YtljbpelogjmciaaGreatDoor
namespace Go.Proofs.YtljbpelogjmciaaGreatDoor
open Go.ChangeShapes Go.WideShapes Go.ChangeAt Go.RowKit Go.Lib
open LebMath WirePure Sd Wire SpecOwn SpecRef Book Pk
namespace Tl
open SpecOwn
theorem put_lit (l : List Value) (ds : List Deferred) (d : Nat) (v : Value) : (Act.mk l.toArray ds).put (some d) v = Act.mk (l.set d v).toArray ds := by
 simp [Act.put]
structure FitR (r : Rp) : Prop where
 code : -9223372036854775808 ≤ r.code ∧ r.code ≤ 9223372036854775807
 uid : -9223372036854775808 ≤ r.uid ∧ r.uid ≤ 9223372036854775807
 id : -9223372036854775808 ≤ r.id ∧ r.id ≤ 9223372036854775807
 rev : r.rev < 18446744073709551616
 data : r.data.size ≤ 300
 np : -9223372036854775808 ≤ ((r.pods.length : Nat) : Int) ∧ ((r.pods.length : Nat) : Int) ≤ 9223372036854775807
 nu : -9223372036854775808 ≤ ((r.use.length : Nat) : Int) ∧ ((r.use.length : Nat) : Int) ≤ 9223372036854775807
def p0 (n c : Int) : List ByteArray := [⟨#[114, 101, 112, 108, 121]⟩, ⟨(itoa n).toArray⟩, ⟨(itoa c).toArray⟩]
def replyParts (n : Int) (r : Rp) : List ByteArray :=
 (addP (((r.use.length : Int) != 0)) ⟨#[117, 115, 101]⟩ ⟨(itoa (r.use.length : Nat)).toArray⟩ (addP (((r.pods.length : Int) != 0)) ⟨#[112, 111, 100, 115]⟩ ⟨(itoa (r.pods.length : Nat)).toArray⟩ (addP (!(r.data.toList.isEmpty)) ⟨#[100, 97, 116, 97]⟩ r.data (addP (((r.rev : Int) != 0)) ⟨#[114, 101, 118]⟩ ⟨(decDigits r.rev).toArray⟩ (addP ((r.id != 0)) ⟨#[105, 100]⟩ ⟨(itoa r.id).toArray⟩ (addP ((r.uid != 0)) ⟨#[117, 105, 100]⟩ ⟨(itoa r.uid).toArray⟩ (p0 n r.code)))))))
def lineR (n : Int) (r : Rp) : List UInt8 := Lib.join ((replyParts n r).map (·.data.toList)) [32]
theorem addP_len {is : Bool} {nm v : ByteArray} {xs : List ByteArray} {k : Nat} (h : xs.length ≤ k) : (addP is nm v xs).length ≤ k + 1 := by
 unfold addP
 cases is
 · simp; omega
 · simp; omega
theorem itoa_short (n : Int) (h : -9223372036854775808 ≤ n ∧ n ≤ 9223372036854775807) : (⟨(itoa n).toArray⟩ : ByteArray).size ≤ 1000 := by
 have := itoa_length_le n h.1 h.2
 show (itoa n).toArray.size ≤ 1000
 rw [List.size_toArray]; omega
theorem lens_le (l : List ByteArray) (h : ∀ x ∈ l, x.size ≤ 1100) : Lib.lens (l.map (·.data.toList)) ≤ l.length * 1100 := by
 induction l with
 | nil => simp [Lib.lens]
 | cons x l ih =>
  have h1 := ih (fun y hy => h y (by simp [hy]))
  have h2 := h x (by simp)
  have h3 : x.data.toList.length = x.size := by rw [Array.length_toList]; rfl
  simp only [List.map_cons, Lib.lens, List.sum_cons, List.length_cons] at h1 ⊢
  rw [h3]
  omega
theorem join_le (l : List ByteArray) (h : ∀ x ∈ l, x.size ≤ 1100) (hl : l.length ≤ 20) : (Lib.join (l.map (·.data.toList)) [32]).length ≤ 140737488355328 := by
 have h1 := lens_le l h
 cases l with
 | nil => simp [Lib.join_nil]
 | cons x l =>
  rw [List.map_cons] at h1 ⊢
  rw [Lib.join_length]
  simp only [List.length_map, List.length_cons, List.length_nil] at h1 hl ⊢
  omega
theorem addP_all {is : Bool} {nm v : ByteArray} {xs : List ByteArray} (h : ∀ x ∈ xs, x.size ≤ 1100) (hn : nm.size ≤ 10) (hv : v.size ≤ 1000) : ∀ x ∈ addP is nm v xs, x.size ≤ 1100 := by
 unfold addP
 cases is
 · simpa using h
 · intro x hx
   simp only [if_true, List.mem_append, List.mem_singleton] at hx
   rcases hx with hx | rfl
   · exact h x hx
   · rw [ByteArray.size_append, ByteArray.size_append]
     show nm.size + 1 + v.size ≤ 1100
     omega
theorem dec_short {u : Nat} (h : u < 18446744073709551616) : (⟨(decDigits u).toArray⟩ : ByteArray).size ≤ 1000 := by
 have := nDigits_le20 u h
 show (decDigits u).toArray.size ≤ 1000
 rw [List.size_toArray, decDigits_length]; omega
theorem lineR_len (n : Int) (r : Rp) (hn : -9223372036854775808 ≤ n ∧ n ≤ 9223372036854775807) (hf : FitR r) : (lineR n r).length ≤ 140737488355328 := by
 refine join_le _ ?_ ?_
 · refine addP_all (addP_all (addP_all (addP_all (addP_all (addP_all ?_ (by decide) (itoa_short _ hf.uid)) (by decide) (itoa_short _ hf.id)) (by decide) (dec_short hf.rev)) (by decide) (by have := hf.data; omega)) (by decide) (itoa_short _ hf.np)) (by decide) (itoa_short _ hf.nu)
   have h1 := itoa_short n hn
   have h2 := itoa_short r.code hf.code
   intro x hx
   simp only [p0, List.mem_cons, List.not_mem_nil, or_false] at hx
   rcases hx with rfl | rfl | rfl
   · decide
   · omega
   · omega
 · refine Nat.le_trans (addP_len (addP_len (addP_len (addP_len (addP_len (addP_len (Nat.le_refl _))))))) (by have : (p0 n r.code).length = 3 := rfl; omega)
def FL (n c : Int) (y B : Nat) : Nat → Value → World → Prop
 | 0 => fun v _ => v = .int .i64 n
 | 1 => fun v _ => v = .string ⟨(itoa n).toArray⟩
 | 2 => fun v _ => v = .pointer (some ⟨y, 0, none⟩)
 | 3 => fun v _ => v = .int .i64 c
 | 4 => fun v _ => v = .string ⟨(itoa c).toArray⟩
 | 5 => fun v w => ∃ g, v = .slice (some ⟨g, 0, none⟩) 3 3 ∧ B ≤ g ∧ w.heap[g]? = some (.cells #[.string ⟨#[114, 101, 112, 108, 121]⟩, .string ⟨(itoa n).toArray⟩, .string ⟨(itoa c).toArray⟩] 9 (0, 0))
 | _ => fun v w => ∃ p, v = .pointer (some ⟨p, 0, none⟩) ∧ B ≤ p ∧ w.heap[p]? = some (.cells #[.slice none 0 0] 116 (0, 0))
theorem FL_keep (n c : Int) (y B : Nat) (i : Nat) (v : Value) (w w' : World) (h : FL n c y B i v w) (hb : Below w.heap.size w w') : FL n c y B i v w' := by
 unfold FL at h ⊢
 split at h <;> first | exact h | (obtain ⟨g, h1, h2, h3⟩ := h; exact ⟨g, h1, h2, (hb.block g (lt_of_block h3)).trans h3⟩)
def addPlan (B p : Nat) (xs xs2 : List ByteArray) (k : Nat) (X : Nat → Value) : Line.Plan where
 A := fun w w' => B ≤ w.heap.size → Below B w w'
 refl := fun w _ => Below.refl _ _
 trans := fun h1 h2 hB => (h1 hB).trans (h2 (Nat.le_trans hB (h1 hB).size))
 below := fun h hB => h.mono hB
 cs := [k]
 G := fun j w => Parts w B p (if j = 0 then xs else xs2)
 F := fun i v _ => v = X i
 keepG := fun j w w' h hb => h.keep hb
 keepF := fun i v w w' h _ => h
theorem dep_val {B p : Nat} {xs xs2 : List ByteArray} {k : Nat} {X : Nat → Value} {ops : Array Oper} {o : Oper} {a : Act} {w : World}
 (hdep : ∀ e ∈ o.after, Region.binds .any e = true → ∀ oj d, ops[e.on]? = some oj → oj.dst = some d → (addPlan B p xs xs2 k X).F e.on (a.tmps.getD d undef) w) (j d : Nat) (hj : Loose.depB ops o j d = true) : a.tmps.getD d undef = X j :=
 Loose.dep_of (F := (addPlan B p xs xs2 k X).F) hdep j d hj
theorem parts_made {w : World} {B p g : Nat} {a b c : ByteArray} (hpB : B ≤ p) (hgB : B ≤ g) (hg : w.heap[g]? = some (.cells #[.string a, .string b, .string c] 9 (0, 0))) (hp : w.heap[p]? = some (.cells #[.slice none 0 0] 116 (0, 0))) :
 Parts (w.setCell ⟨p, 0, none⟩ (.slice (some ⟨g, 0, none⟩) 3 3)) B p [a, b, c] := by
 have hne : p ≠ g := by
  intro e
  subst e
  rw [hp] at hg
  injection hg with hg
  injection hg with _ hg
  exact absurd hg (by decide)
 refine ⟨some ⟨g, 0, none⟩, 3, hpB, by simp, box_set hp 0 _ rfl, ?_, fun e => hne (Option.some.inj e).symm⟩
 refine ⟨rfl, .inr ⟨g, 3, _, rfl, hgB, (Below.heap_setCell _ _ _ _ (fun e => hne e.symm)).trans hg, Nat.le_refl _, by unfold maxLen; omega, rfl, rfl⟩⟩
theorem bigtext_any (u : Nat) (h : u < 18446744073709551616) (w : World) (hT : NumText.Tab w) :
 Calls Tryz.prog 120 #[.int .u64 u] w fun e w' => e = .returned (.string ⟨(decDigits u).toArray⟩) ∧ Below w.heap.size w w' := by
 go_enter Tryz.func120, Tryz.ntmps120
 go_wp2_with fail
 refine (Fu.format_any u _ h hT).mono ?_
 rintro e w' ⟨rfl, hb⟩
 go_wp2_with fail
 go_ret
 exact ⟨rfl, hb⟩
theorem join_sp {w : World} {base : Nat} {v : Value} (p : List ByteArray) (h : w.ownsRow base 9 1 v p.length (p.map Value.string)) (hp : p.length ≤ 1000000) (hlen : (Lib.join (p.map (·.data.toList)) [32]).length ≤ 140737488355328) :
 Calls Tryz.prog 86 #[v, .string ⟨#[32]⟩] w fun e w' => e = .returned (.string ⟨(Lib.join (p.map (·.data.toList)) [32]).toArray⟩) ∧ Below w.heap.size w w' := by
 rcases h.2 with ⟨rfl, h0⟩ | ⟨g, cap, cur, rfl, e2, e3, e4, e5, e6, e7⟩
 · obtain rfl : p = [] := List.eq_nil_of_length_eq_zero h0
   refine (Any.strings_Join_none Tryz.lays156 Tryz.Builder_Extra_156 none 0 ⟨#[32]⟩ w).mono ?_
   rintro e w' ⟨rfl, rfl⟩
   exact ⟨rfl, Below.refl _ _⟩
 · have hlt : g < w.heap.size := lt_of_block e3
   refine (Any.strings_Join Tryz.lays156 Tryz.Builder_Extra_156 g 0 cap p ⟨#[32]⟩ w ?_ hlt (by omega) e4 hlen).mono ?_
   · intro j x hx
     have := h.cells (g := g) rfl j (.string x) (by rw [List.getElem?_map, hx]; rfl)
     rw [Nat.zero_add]
     rcases j with _ | j
     · exact this
     · simpa [Addr.add] using this
   · rintro e w' ⟨rfl, hb⟩
     exact ⟨rfl, hb⟩
def X3 (p y : Nat) (n : Int) (r : Rp) (PA : Option Addr) (pc : Nat) (UA : Option Addr) (uc : Nat) : Nat → Value
 | 0 => .func (.func 119) #[] #[.pointer (some ⟨p, 0, none⟩)]
 | 1 => .pointer (some ⟨y, 1, none⟩)
 | 2 => .int .i64 r.uid
 | 3 => .string ⟨(itoa r.uid).toArray⟩
 | 4 => .pointer (some ⟨y, 1, none⟩)
 | 5 => .int .i64 r.uid
 | 6 => .bool ((r.uid : Int) != 0)
 | _ => .tuple #[]
def X4 (p y : Nat) (n : Int) (r : Rp) (PA : Option Addr) (pc : Nat) (UA : Option Addr) (uc : Nat) : Nat → Value
 | 0 => .func (.func 119) #[] #[.pointer (some ⟨p, 0, none⟩)]
 | 1 => .pointer (some ⟨y, 2, none⟩)
 | 2 => .int .i64 r.id
 | 3 => .string ⟨(itoa r.id).toArray⟩
 | 4 => .pointer (some ⟨y, 2, none⟩)
 | 5 => .int .i64 r.id
 | 6 => .bool ((r.id : Int) != 0)
 | _ => .tuple #[]
def X5 (p y : Nat) (n : Int) (r : Rp) (PA : Option Addr) (pc : Nat) (UA : Option Addr) (uc : Nat) : Nat → Value
 | 0 => .func (.func 119) #[] #[.pointer (some ⟨p, 0, none⟩)]
 | 1 => .pointer (some ⟨y, 3, none⟩)
 | 2 => .int .u64 (r.rev : Nat)
 | 3 => .string ⟨(decDigits r.rev).toArray⟩
 | 4 => .pointer (some ⟨y, 3, none⟩)
 | 5 => .int .u64 (r.rev : Nat)
 | 6 => .bool (((r.rev : Nat) : Int) != 0)
 | _ => .tuple #[]
def X7 (p y : Nat) (n : Int) (r : Rp) (PA : Option Addr) (pc : Nat) (UA : Option Addr) (uc : Nat) : Nat → Value
 | 0 => .func (.func 119) #[] #[.pointer (some ⟨p, 0, none⟩)]
 | 1 => .pointer (some ⟨y, 5, none⟩)
 | 2 => .slice PA r.pods.length pc
 | 3 => .int .i64 (r.pods.length : Nat)
 | 4 => .string ⟨(itoa (r.pods.length : Nat)).toArray⟩
 | 5 => .pointer (some ⟨y, 5, none⟩)
 | 6 => .slice PA r.pods.length pc
 | 7 => .int .i64 (r.pods.length : Nat)
 | 8 => .bool (((r.pods.length : Nat) : Int) != 0)
 | _ => .tuple #[]
def X8 (p y : Nat) (n : Int) (r : Rp) (PA : Option Addr) (pc : Nat) (UA : Option Addr) (uc : Nat) : Nat → Value
 | 0 => .func (.func 119) #[] #[.pointer (some ⟨p, 0, none⟩)]
 | 1 => .pointer (some ⟨y, 6, none⟩)
 | 2 => .slice UA r.use.length uc
 | 3 => .int .i64 (r.use.length : Nat)
 | 4 => .string ⟨(itoa (r.use.length : Nat)).toArray⟩
 | 5 => .pointer (some ⟨y, 6, none⟩)
 | 6 => .slice UA r.use.length uc
 | 7 => .int .i64 (r.use.length : Nat)
 | 8 => .bool (((r.use.length : Nat) : Int) != 0)
 | _ => .tuple #[]
theorem reply_line (n : Int) (hn : -9223372036854775808 ≤ n ∧ n ≤ 9223372036854775807) (r : Rp) (hf : FitR r) (PA : Option Addr) (pc : Nat) (UA : Option Addr) (uc : Nat) (w : World) (hT : NumText.Tab w) :
 Calls Tryz.prog 65 #[.int .i64 n, .agg (Y7 r PA pc UA uc).toArray] w fun e w' => e = .returned (.string ⟨(lineR n r).toArray⟩) ∧ Below w.heap.size w w' := by
 have HLEN := hid (show (lineR n r).length ≤ 140737488355328 from lineR_len n r hn hf)
 obtain ⟨y, hy⟩ : ∃ y, w.heap.size = y := ⟨_, rfl⟩
 obtain ⟨w2, hw2⟩ : ∃ v, w.alloc (.cells (Y7 r PA pc UA uc).toArray 46) = v := ⟨_, rfl⟩
 have HY := hid (show w2.heap[y]? = some (.cells (Y7 r PA pc UA uc).toArray 46 (0, 0)) by rw [← hw2, ← hy]; exact heap_alloc_new w _)
 have B2 := hid (show Below w.heap.size w w2 by rw [← hw2]; exact (Below.refl _ _).alloc (Nat.le_refl _) _)
 have HT := hid (hT.below B2.out)
 have HT0 := hid hT
 have HN := hid hn
 have HC := hid hf.code
 have HU := hid hf.uid
 have HI := hid hf.id
 have HREV := hid hf.rev
 have HDA := hid hf.data
 have HNP := hid hf.np
 have HNU := hid hf.nu
 have HYL := hid (show y < w2.heap.size from lt_of_block HY.out)
 have HYE := hid hy
 have HWE := hid hw2
 clear hT hn hf hy hw2
 go_enter Tryz.func65, Tryz.ntmps65
 go_wp2_with fail
 rw [HYE.out, HWE.out]
 obtain ⟨B, hB⟩ : ∃ b, w2.heap.size = b := ⟨_, rfl⟩
 have HBB := hid (show B ≤ w2.heap.size by rw [hB]; exact Nat.le_refl _)
 have HYB := hid (show y < B by rw [← hB]; exact HYL.out)
 have HWB := hid (show w.heap.size ≤ B by rw [← hB]; exact B2.out.size)
 clear hB
 refine Tail.wp_region_walk (by kernel_rfl) rfl (by kernel_rfl) (by kernel_rfl) (FL n r.code y B) (FL_keep n r.code y B) ?_ ?_
 · simp only [List.dropLast]
   refine ⟨?_, ?_, ?_, ?_, ?_, ?_, ?_, trivial⟩
   · intro a w1 hfr hdep
     have f0 : a.tmps.getD 0 undef = .int .i64 n := hfr.slot 0 (by kernel_rfl)
     refine Loose.Step.value rfl (v := .int .i64 n) (w' := w1) ?_ rfl (Below.refl _ _)
     simp [go_sem, Act.eval, f0]
   · intro a w1 hfr hdep
     have e0 : a.tmps.getD 7 undef = .int .i64 n := Loose.dep_of hdep 0 7 (by kernel_rfl)
     refine Loose.Step.call rfl (f := 118) (args := #[.int .i64 n]) ?_ ?_
     · simp [go_sem, Act.eval, e0]
     · refine (NumText.numtext_any n w1 HN.out.1 HN.out.2 (HT.out.below hfr.below)).mono ?_
       rintro e w2 ⟨rfl, hb⟩
       exact ⟨_, rfl, rfl, hb⟩
   · intro a w1 hfr hdep
     have f0 : a.tmps.getD 3 undef = .pointer (some ⟨y, 0, none⟩) := hfr.slot 3 (by kernel_rfl)
     refine Loose.Step.value rfl (v := .pointer (some ⟨y, 0, none⟩)) (w' := w1) ?_ rfl (Below.refl _ _)
     simp [go_sem, Act.eval, f0]
   · intro a w1 hfr hdep
     have hc_ := box_cell ((hfr.below.block y HYL.out).trans HY.out) 0 rfl
     have e0 : a.tmps.getD 9 undef = .pointer (some ⟨y, 0, none⟩) := Loose.dep_of hdep 2 9 (by kernel_rfl)
     refine Loose.Step.value rfl (v := .int .i64 r.code) (w' := w1) ?_ rfl (Below.refl _ _)
     simp [go_sem, Act.eval, e0, hc_]
   · intro a w1 hfr hdep
     have e0 : a.tmps.getD 10 undef = .int .i64 r.code := Loose.dep_of hdep 3 10 (by kernel_rfl)
     refine Loose.Step.call rfl (f := 118) (args := #[.int .i64 r.code]) ?_ ?_
     · simp [go_sem, Act.eval, e0]
     · refine (NumText.numtext_any r.code w1 HC.out.1 HC.out.2 (HT.out.below hfr.below)).mono ?_
       rintro e w2 ⟨rfl, hb⟩
       exact ⟨_, rfl, rfl, hb⟩
   · intro a w1 hfr hdep
     have e0 : a.tmps.getD 8 undef = .string ⟨(itoa n).toArray⟩ := Loose.dep_of hdep 1 8 (by kernel_rfl)
     have e1 : a.tmps.getD 11 undef = .string ⟨(itoa r.code).toArray⟩ := Loose.dep_of hdep 4 11 (by kernel_rfl)
     refine Loose.Step.value rfl (v := .slice (some ⟨w1.heap.size, 0, none⟩) 3 3) (w' := (w1.alloc (.cells #[.string ⟨#[114, 101, 112, 108, 121]⟩, .string ⟨(itoa n).toArray⟩, .string ⟨(itoa r.code).toArray⟩] 9))) ?_ ⟨_, rfl, Nat.le_trans HBB.out hfr.below.size, heap_alloc_new w1 _⟩ ((Below.refl _ _).alloc (Nat.le_refl _) _)
     rw [Array.getD_eq_getD_getElem?] at e0 e1; simp [go_sem, Act.eval, e0, e1]
   · intro a w1 hfr hdep
     refine Loose.Step.value rfl (v := .pointer (some ⟨w1.heap.size, 0, none⟩)) (w' := (w1.alloc (.cells #[.slice none 0 0] 116))) ?_ ⟨_, rfl, Nat.le_trans HBB.out hfr.below.size, heap_alloc_new w1 _⟩ ((Below.refl _ _).alloc (Nat.le_refl _) _)
     simp [go_sem, Act.eval]
 simp only [List.dropLast, List.getLastD, List.getLast]
 intro u7 u8 u9 u10 u11 u12 u5 w6 hb6 hC
 have h12 : (fun v w => ∃ g, v = .slice (some ⟨g, 0, none⟩) 3 3 ∧ B ≤ g ∧ w.heap[g]? = some (.cells #[.string ⟨#[114, 101, 112, 108, 121]⟩, .string ⟨(itoa n).toArray⟩, .string ⟨(itoa r.code).toArray⟩] 9 (0, 0))) u12 w6 := hC.1.2
 have h5 : (fun v w => ∃ p, v = .pointer (some ⟨p, 0, none⟩) ∧ B ≤ p ∧ w.heap[p]? = some (.cells #[.slice none 0 0] 116 (0, 0))) u5 w6 := hC.2
 clear hC
 simp only [put_lit, List.set_cons_succ, List.set_cons_zero]
 obtain ⟨g, e12, hgB, hgc⟩ := h12
 obtain ⟨p, e5, hpB, hpc⟩ := h5
 subst e12
 subst e5
 have hc_ := box_cell hpc 0 rfl
 have hf_ := box_free hpc 0
 unfold Oper.wp
 simp [execOp, Act.eval, go_sem, hc_, hf_]
 have HP3 := hid (parts_made hpB hgB hgc hpc)
 have B3 := hid ((B2.out.trans (hb6.mono B2.out.size)).setCell (p := ⟨p, 0, none⟩) (Nat.le_trans HWB.out hpB) (.slice (some ⟨g, 0, none⟩) 3 3))
 have hb3 : Below B w2 (w6.setCell ⟨p, 0, none⟩ (.slice (some ⟨g, 0, none⟩) 3 3)) := (hb6.mono HBB.out).setCell (p := ⟨p, 0, none⟩) hpB _
 have HY3 := hid ((hb3.block y HYB.out).trans HY.out)
 have HBS3 := hid (Nat.le_trans HBB.out hb3.size)
 generalize w6.setCell ⟨p, 0, none⟩ (.slice (some ⟨g, 0, none⟩) 3 3) = w3 at *
 clear hb3 hb6 hgc hpc hc_ hf_
 obtain ⟨xs3, hx3⟩ : ∃ l, p0 n r.code = l := ⟨_, rfl⟩
 have HX3 := hid (show xs3.length ≤ 3 by rw [← hx3]; exact Nat.le_refl _)
 have HE3 := hid hx3
 have HPP := hid (show Parts w3 B p xs3 by rw [← hx3]; exact HP3.out)
 clear hx3
 go_wp2_with fail
 refine Line.wp_region_walk (by kernel_rfl) (by kernel_rfl) (addPlan B p xs3 (addP ((r.uid != 0)) ⟨#[117, 105, 100]⟩ ⟨(itoa r.uid).toArray⟩ xs3) 7 (X3 p y n r PA pc UA uc)) (by kernel_rfl) (by kernel_rfl) HPP.out ?_ ?_
 · refine ⟨?_, ?_, ?_, ?_, ?_, ?_, ?_, ?_, trivial⟩
   · intro a w1 hfr hdep _
     have f0 := hfr.slot 6 (by kernel_rfl)
     refine Line.Step.value (by simp [addPlan]) (Line.wanted_free rfl) (v := .func (.func 119) #[] #[.pointer (some ⟨p, 0, none⟩)]) (w' := w1) ?_ rfl (Below.refl _ _)
     simp [go_sem, Act.eval, f0]
   · intro a w1 hfr hdep _
     have f0 := hfr.slot 3 (by kernel_rfl)
     refine Line.Step.value (by simp [addPlan]) (Line.wanted_free rfl) (v := .pointer (some ⟨y, 1, none⟩)) (w' := w1) ?_ rfl (Below.refl _ _)
     simp [go_sem, Act.eval, f0]
   · intro a w1 hfr hdep _
     have e0 : a.tmps.getD 15 undef = .pointer (some ⟨y, 1, none⟩) := dep_val hdep 1 15 (by kernel_rfl)
     have hc_ := box_cell (((hfr.kept HBS3.out).block y HYB.out).trans HY3.out) 1 rfl
     refine Line.Step.value (by simp [addPlan]) (Line.wanted_free rfl) (v := .int .i64 r.uid) (w' := w1) ?_ rfl (Below.refl _ _)
     simp [go_sem, Act.eval, e0, hc_]
   · intro a w1 hfr hdep _
     have e0 : a.tmps.getD 16 undef = .int .i64 r.uid := dep_val hdep 2 16 (by kernel_rfl)
     refine Line.Step.call (by simp [addPlan]) (Line.wanted_free rfl) (f := 118) (args := #[.int .i64 r.uid]) ?_ ?_
     · simp [go_sem, Act.eval, e0]
     · refine (NumText.numtext_any r.uid w1 HU.out.1 HU.out.2 (HT0.out.below (B3.out.trans ((hfr.kept HBS3.out).mono HWB.out)))).mono ?_
       rintro e w2 ⟨rfl, hb⟩
       exact ⟨_, rfl, rfl, hb⟩
   · intro a w1 hfr hdep _
     have f0 := hfr.slot 3 (by kernel_rfl)
     refine Line.Step.value (by simp [addPlan]) (Line.wanted_free rfl) (v := .pointer (some ⟨y, 1, none⟩)) (w' := w1) ?_ rfl (Below.refl _ _)
     simp [go_sem, Act.eval, f0]
   · intro a w1 hfr hdep _
     have e0 : a.tmps.getD 18 undef = .pointer (some ⟨y, 1, none⟩) := dep_val hdep 4 18 (by kernel_rfl)
     have hc_ := box_cell (((hfr.kept HBS3.out).block y HYB.out).trans HY3.out) 1 rfl
     refine Line.Step.value (by simp [addPlan]) (Line.wanted_free rfl) (v := .int .i64 r.uid) (w' := w1) ?_ rfl (Below.refl _ _)
     simp [go_sem, Act.eval, e0, hc_]
   · intro a w1 hfr hdep _
     have e0 : a.tmps.getD 19 undef = .int .i64 r.uid := dep_val hdep 5 19 (by kernel_rfl)
     refine Line.Step.value (by simp [addPlan]) (Line.wanted_free rfl) (v := .bool ((r.uid : Int) != 0)) (w' := w1) ?_ rfl (Below.refl _ _)
     simp [go_sem, Act.eval, e0]
   · intro a w1 hfr hdep hG
     have e0 : a.tmps.getD 14 undef = .func (.func 119) #[] #[.pointer (some ⟨p, 0, none⟩)] := dep_val hdep 0 14 (by kernel_rfl)
     have e1 : a.tmps.getD 17 undef = .string ⟨(itoa r.uid).toArray⟩ := dep_val hdep 3 17 (by kernel_rfl)
     have e2 : a.tmps.getD 20 undef = .bool ((r.uid : Int) != 0) := dep_val hdep 6 20 (by kernel_rfl)
     refine Line.Step.write 0 rfl (Line.wanted_free rfl) (f := 119) (args := #[.string ⟨#[117, 105, 100]⟩, .string ⟨(itoa r.uid).toArray⟩, .bool ((r.uid : Int) != 0), .pointer (some ⟨p, 0, none⟩)]) ?_ ?_
     · simp [go_sem, Act.eval, e0, e1, e2]
     · refine (add_any B p xs3 ⟨#[117, 105, 100]⟩ _ _ (by have := HX3.out; omega) (by decide) (itoa_short _ HU.out) w1 (hG 0 rfl)).mono ?_
       rintro e w2 ⟨rfl, h1, h2⟩
       exact ⟨_, rfl, rfl, fun _ => h2, h1⟩
 intro u14 u15 u16 u17 u18 u19 u20 u21 w4 hk hC hG
 clear hC
 have h2 := hk HBS3.out
 obtain ⟨xs4, hx4⟩ : ∃ l, (addP ((r.uid != 0)) ⟨#[117, 105, 100]⟩ ⟨(itoa r.uid).toArray⟩ xs3) = l := ⟨_, rfl⟩
 have HX4 := hid (show xs4.length ≤ 4 by rw [← hx4]; exact addP_len HX3.out)
 have HE4 := hid hx4
 have HPP := hid (show Parts w4 B p xs4 by rw [← hx4]; exact hG)
 have HY4 := hid ((h2.block y HYB.out).trans HY3.out)
 have B4 := hid (B3.out.trans (h2.mono HWB.out))
 have HBS4 := hid (Nat.le_trans HBS3.out h2.size)
 clear h2 hx4 hk hG
 simp only [put_lit, List.set_cons_succ, List.set_cons_zero]
 go_wp2_with fail
 refine Line.wp_region_walk (by kernel_rfl) (by kernel_rfl) (addPlan B p xs4 (addP ((r.id != 0)) ⟨#[105, 100]⟩ ⟨(itoa r.id).toArray⟩ xs4) 7 (X4 p y n r PA pc UA uc)) (by kernel_rfl) (by kernel_rfl) HPP.out ?_ ?_
 · refine ⟨?_, ?_, ?_, ?_, ?_, ?_, ?_, ?_, trivial⟩
   · intro a w1 hfr hdep _
     have f0 := hfr.slot 6 (by kernel_rfl)
     refine Line.Step.value (by simp [addPlan]) (Line.wanted_free rfl) (v := .func (.func 119) #[] #[.pointer (some ⟨p, 0, none⟩)]) (w' := w1) ?_ rfl (Below.refl _ _)
     simp [go_sem, Act.eval, f0]
   · intro a w1 hfr hdep _
     have f0 := hfr.slot 3 (by kernel_rfl)
     refine Line.Step.value (by simp [addPlan]) (Line.wanted_free rfl) (v := .pointer (some ⟨y, 2, none⟩)) (w' := w1) ?_ rfl (Below.refl _ _)
     simp [go_sem, Act.eval, f0]
   · intro a w1 hfr hdep _
     have e0 : a.tmps.getD 23 undef = .pointer (some ⟨y, 2, none⟩) := dep_val hdep 1 23 (by kernel_rfl)
     have hc_ := box_cell (((hfr.kept HBS4.out).block y HYB.out).trans HY4.out) 2 rfl
     refine Line.Step.value (by simp [addPlan]) (Line.wanted_free rfl) (v := .int .i64 r.id) (w' := w1) ?_ rfl (Below.refl _ _)
     simp [go_sem, Act.eval, e0, hc_]
   · intro a w1 hfr hdep _
     have e0 : a.tmps.getD 24 undef = .int .i64 r.id := dep_val hdep 2 24 (by kernel_rfl)
     refine Line.Step.call (by simp [addPlan]) (Line.wanted_free rfl) (f := 118) (args := #[.int .i64 r.id]) ?_ ?_
     · simp [go_sem, Act.eval, e0]
     · refine (NumText.numtext_any r.id w1 HI.out.1 HI.out.2 (HT0.out.below (B4.out.trans ((hfr.kept HBS4.out).mono HWB.out)))).mono ?_
       rintro e w2 ⟨rfl, hb⟩
       exact ⟨_, rfl, rfl, hb⟩
   · intro a w1 hfr hdep _
     have f0 := hfr.slot 3 (by kernel_rfl)
     refine Line.Step.value (by simp [addPlan]) (Line.wanted_free rfl) (v := .pointer (some ⟨y, 2, none⟩)) (w' := w1) ?_ rfl (Below.refl _ _)
     simp [go_sem, Act.eval, f0]
   · intro a w1 hfr hdep _
     have e0 : a.tmps.getD 26 undef = .pointer (some ⟨y, 2, none⟩) := dep_val hdep 4 26 (by kernel_rfl)
     have hc_ := box_cell (((hfr.kept HBS4.out).block y HYB.out).trans HY4.out) 2 rfl
     refine Line.Step.value (by simp [addPlan]) (Line.wanted_free rfl) (v := .int .i64 r.id) (w' := w1) ?_ rfl (Below.refl _ _)
     simp [go_sem, Act.eval, e0, hc_]
   · intro a w1 hfr hdep _
     have e0 : a.tmps.getD 27 undef = .int .i64 r.id := dep_val hdep 5 27 (by kernel_rfl)
     refine Line.Step.value (by simp [addPlan]) (Line.wanted_free rfl) (v := .bool ((r.id : Int) != 0)) (w' := w1) ?_ rfl (Below.refl _ _)
     simp [go_sem, Act.eval, e0]
   · intro a w1 hfr hdep hG
     have e0 : a.tmps.getD 22 undef = .func (.func 119) #[] #[.pointer (some ⟨p, 0, none⟩)] := dep_val hdep 0 22 (by kernel_rfl)
     have e1 : a.tmps.getD 25 undef = .string ⟨(itoa r.id).toArray⟩ := dep_val hdep 3 25 (by kernel_rfl)
     have e2 : a.tmps.getD 28 undef = .bool ((r.id : Int) != 0) := dep_val hdep 6 28 (by kernel_rfl)
     refine Line.Step.write 0 rfl (Line.wanted_free rfl) (f := 119) (args := #[.string ⟨#[105, 100]⟩, .string ⟨(itoa r.id).toArray⟩, .bool ((r.id : Int) != 0), .pointer (some ⟨p, 0, none⟩)]) ?_ ?_
     · simp [go_sem, Act.eval, e0, e1, e2]
     · refine (add_any B p xs4 ⟨#[105, 100]⟩ _ _ (by have := HX4.out; omega) (by decide) (itoa_short _ HI.out) w1 (hG 0 rfl)).mono ?_
       rintro e w2 ⟨rfl, h1, h2⟩
       exact ⟨_, rfl, rfl, fun _ => h2, h1⟩
 intro u22 u23 u24 u25 u26 u27 u28 u29 w5 hk hC hG
 clear hC
 have h2 := hk HBS4.out
 obtain ⟨xs5, hx5⟩ : ∃ l, (addP ((r.id != 0)) ⟨#[105, 100]⟩ ⟨(itoa r.id).toArray⟩ xs4) = l := ⟨_, rfl⟩
 have HX5 := hid (show xs5.length ≤ 5 by rw [← hx5]; exact addP_len HX4.out)
 have HE5 := hid hx5
 have HPP := hid (show Parts w5 B p xs5 by rw [← hx5]; exact hG)
 have HY5 := hid ((h2.block y HYB.out).trans HY4.out)
 have B5 := hid (B4.out.trans (h2.mono HWB.out))
 have HBS5 := hid (Nat.le_trans HBS4.out h2.size)
 clear h2 hx5 hk hG
 simp only [put_lit, List.set_cons_succ, List.set_cons_zero]
 go_wp2_with fail
 refine Line.wp_region_walk (by kernel_rfl) (by kernel_rfl) (addPlan B p xs5 (addP (((r.rev : Int) != 0)) ⟨#[114, 101, 118]⟩ ⟨(decDigits r.rev).toArray⟩ xs5) 7 (X5 p y n r PA pc UA uc)) (by kernel_rfl) (by kernel_rfl) HPP.out ?_ ?_
 · refine ⟨?_, ?_, ?_, ?_, ?_, ?_, ?_, ?_, trivial⟩
   · intro a w1 hfr hdep _
     have f0 := hfr.slot 6 (by kernel_rfl)
     refine Line.Step.value (by simp [addPlan]) (Line.wanted_free rfl) (v := .func (.func 119) #[] #[.pointer (some ⟨p, 0, none⟩)]) (w' := w1) ?_ rfl (Below.refl _ _)
     simp [go_sem, Act.eval, f0]
   · intro a w1 hfr hdep _
     have f0 := hfr.slot 3 (by kernel_rfl)
     refine Line.Step.value (by simp [addPlan]) (Line.wanted_free rfl) (v := .pointer (some ⟨y, 3, none⟩)) (w' := w1) ?_ rfl (Below.refl _ _)
     simp [go_sem, Act.eval, f0]
   · intro a w1 hfr hdep _
     have e0 : a.tmps.getD 31 undef = .pointer (some ⟨y, 3, none⟩) := dep_val hdep 1 31 (by kernel_rfl)
     have hc_ := box_cell (((hfr.kept HBS5.out).block y HYB.out).trans HY5.out) 3 rfl
     refine Line.Step.value (by simp [addPlan]) (Line.wanted_free rfl) (v := .int .u64 (r.rev : Nat)) (w' := w1) ?_ rfl (Below.refl _ _)
     simp [go_sem, Act.eval, e0, hc_]
   · intro a w1 hfr hdep _
     have e0 : a.tmps.getD 32 undef = .int .u64 (r.rev : Nat) := dep_val hdep 2 32 (by kernel_rfl)
     refine Line.Step.call (by simp [addPlan]) (Line.wanted_free rfl) (f := 120) (args := #[.int .u64 (r.rev : Nat)]) ?_ ?_
     · simp [go_sem, Act.eval, e0]
     · refine (bigtext_any r.rev HREV.out w1 (HT0.out.below (B5.out.trans ((hfr.kept HBS5.out).mono HWB.out)))).mono ?_
       rintro e w2 ⟨rfl, hb⟩
       exact ⟨_, rfl, rfl, hb⟩
   · intro a w1 hfr hdep _
     have f0 := hfr.slot 3 (by kernel_rfl)
     refine Line.Step.value (by simp [addPlan]) (Line.wanted_free rfl) (v := .pointer (some ⟨y, 3, none⟩)) (w' := w1) ?_ rfl (Below.refl _ _)
     simp [go_sem, Act.eval, f0]
   · intro a w1 hfr hdep _
     have e0 : a.tmps.getD 34 undef = .pointer (some ⟨y, 3, none⟩) := dep_val hdep 4 34 (by kernel_rfl)
     have hc_ := box_cell (((hfr.kept HBS5.out).block y HYB.out).trans HY5.out) 3 rfl
     refine Line.Step.value (by simp [addPlan]) (Line.wanted_free rfl) (v := .int .u64 (r.rev : Nat)) (w' := w1) ?_ rfl (Below.refl _ _)
     simp [go_sem, Act.eval, e0, hc_]
   · intro a w1 hfr hdep _
     have e0 : a.tmps.getD 35 undef = .int .u64 (r.rev : Nat) := dep_val hdep 5 35 (by kernel_rfl)
     refine Line.Step.value (by simp [addPlan]) (Line.wanted_free rfl) (v := .bool (((r.rev : Nat) : Int) != 0)) (w' := w1) ?_ rfl (Below.refl _ _)
     simp [go_sem, Act.eval, e0]
   · intro a w1 hfr hdep hG
     have e0 : a.tmps.getD 30 undef = .func (.func 119) #[] #[.pointer (some ⟨p, 0, none⟩)] := dep_val hdep 0 30 (by kernel_rfl)
     have e1 : a.tmps.getD 33 undef = .string ⟨(decDigits r.rev).toArray⟩ := dep_val hdep 3 33 (by kernel_rfl)
     have e2 : a.tmps.getD 36 undef = .bool (((r.rev : Nat) : Int) != 0) := dep_val hdep 6 36 (by kernel_rfl)
     refine Line.Step.write 0 rfl (Line.wanted_free rfl) (f := 119) (args := #[.string ⟨#[114, 101, 118]⟩, .string ⟨(decDigits r.rev).toArray⟩, .bool (((r.rev : Nat) : Int) != 0), .pointer (some ⟨p, 0, none⟩)]) ?_ ?_
     · simp [go_sem, Act.eval, e0, e1, e2]
     · refine (add_any B p xs5 ⟨#[114, 101, 118]⟩ _ _ (by have := HX5.out; omega) (by decide) (dec_short HREV.out) w1 (hG 0 rfl)).mono ?_
       rintro e w2 ⟨rfl, h1, h2⟩
       exact ⟨_, rfl, rfl, fun _ => h2, h1⟩
 intro u30 u31 u32 u33 u34 u35 u36 u37 w6 hk hC hG
 clear hC
 have h2 := hk HBS5.out
 obtain ⟨xs6, hx6⟩ : ∃ l, (addP (((r.rev : Int) != 0)) ⟨#[114, 101, 118]⟩ ⟨(decDigits r.rev).toArray⟩ xs5) = l := ⟨_, rfl⟩
 have HX6 := hid (show xs6.length ≤ 6 by rw [← hx6]; exact addP_len HX5.out)
 have HE6 := hid hx6
 have HPP := hid (show Parts w6 B p xs6 by rw [← hx6]; exact hG)
 have HY6 := hid ((h2.block y HYB.out).trans HY5.out)
 have B6 := hid (B5.out.trans (h2.mono HWB.out))
 have HBS6 := hid (Nat.le_trans HBS5.out h2.size)
 clear h2 hx6 hk hG
 simp only [put_lit, List.set_cons_succ, List.set_cons_zero]
 have hc_ := box_cell HY6.out 4 rfl
 go_wp2_with fail
 refine (add_any B p xs6 ⟨#[100, 97, 116, 97]⟩ r.data _ (by have := HX6.out; omega) (by decide) (by have := HDA.out; omega) w6 HPP.out).mono ?_
 rintro e w7 ⟨rfl, h1, h2⟩
 obtain ⟨xs7, hx7⟩ : ∃ l, (addP (!(r.data.toList.isEmpty)) ⟨#[100, 97, 116, 97]⟩ r.data xs6) = l := ⟨_, rfl⟩
 have HX7 := hid (show xs7.length ≤ 7 by rw [← hx7]; exact addP_len HX6.out)
 have HE7 := hid hx7
 have HPP := hid (show Parts w7 B p xs7 by rw [← hx7]; exact h1)
 have HY7 := hid ((h2.block y HYB.out).trans HY6.out)
 have B7 := hid (B6.out.trans (h2.mono HWB.out))
 have HBS7 := hid (Nat.le_trans HBS6.out h2.size)
 clear h1 h2 hx7 hc_
 go_wp2_with fail
 refine Line.wp_region_walk (by kernel_rfl) (by kernel_rfl) (addPlan B p xs7 (addP (((r.pods.length : Int) != 0)) ⟨#[112, 111, 100, 115]⟩ ⟨(itoa (r.pods.length : Nat)).toArray⟩ xs7) 9 (X7 p y n r PA pc UA uc)) (by kernel_rfl) (by kernel_rfl) HPP.out ?_ ?_
 · refine ⟨?_, ?_, ?_, ?_, ?_, ?_, ?_, ?_, ?_, ?_, trivial⟩
   · intro a w1 hfr hdep _
     have f0 := hfr.slot 6 (by kernel_rfl)
     refine Line.Step.value (by simp [addPlan]) (Line.wanted_free rfl) (v := .func (.func 119) #[] #[.pointer (some ⟨p, 0, none⟩)]) (w' := w1) ?_ rfl (Below.refl _ _)
     simp [go_sem, Act.eval, f0]
   · intro a w1 hfr hdep _
     have f0 := hfr.slot 3 (by kernel_rfl)
     refine Line.Step.value (by simp [addPlan]) (Line.wanted_free rfl) (v := .pointer (some ⟨y, 5, none⟩)) (w' := w1) ?_ rfl (Below.refl _ _)
     simp [go_sem, Act.eval, f0]
   · intro a w1 hfr hdep _
     have e0 : a.tmps.getD 46 undef = .pointer (some ⟨y, 5, none⟩) := dep_val hdep 1 46 (by kernel_rfl)
     have hc_ := box_cell (((hfr.kept HBS7.out).block y HYB.out).trans HY7.out) 5 rfl
     refine Line.Step.value (by simp [addPlan]) (Line.wanted_free rfl) (v := .slice PA r.pods.length pc) (w' := w1) ?_ rfl (Below.refl _ _)
     simp [go_sem, Act.eval, e0, hc_]
   · intro a w1 hfr hdep _
     have e0 : a.tmps.getD 47 undef = .slice PA r.pods.length pc := dep_val hdep 2 47 (by kernel_rfl)
     refine Line.Step.value (by simp [addPlan]) (Line.wanted_free rfl) (v := .int .i64 (r.pods.length : Nat)) (w' := w1) ?_ rfl (Below.refl _ _)
     simp [go_sem, Act.eval, e0]
   · intro a w1 hfr hdep _
     have e0 : a.tmps.getD 48 undef = .int .i64 (r.pods.length : Nat) := dep_val hdep 3 48 (by kernel_rfl)
     refine Line.Step.call (by simp [addPlan]) (Line.wanted_free rfl) (f := 118) (args := #[.int .i64 (r.pods.length : Nat)]) ?_ ?_
     · simp [go_sem, Act.eval, e0]
     · refine (NumText.numtext_any (r.pods.length : Nat) w1 HNP.out.1 HNP.out.2 (HT0.out.below (B7.out.trans ((hfr.kept HBS7.out).mono HWB.out)))).mono ?_
       rintro e w2 ⟨rfl, hb⟩
       exact ⟨_, rfl, rfl, hb⟩
   · intro a w1 hfr hdep _
     have f0 := hfr.slot 3 (by kernel_rfl)
     refine Line.Step.value (by simp [addPlan]) (Line.wanted_free rfl) (v := .pointer (some ⟨y, 5, none⟩)) (w' := w1) ?_ rfl (Below.refl _ _)
     simp [go_sem, Act.eval, f0]
   · intro a w1 hfr hdep _
     have e0 : a.tmps.getD 50 undef = .pointer (some ⟨y, 5, none⟩) := dep_val hdep 5 50 (by kernel_rfl)
     have hc_ := box_cell (((hfr.kept HBS7.out).block y HYB.out).trans HY7.out) 5 rfl
     refine Line.Step.value (by simp [addPlan]) (Line.wanted_free rfl) (v := .slice PA r.pods.length pc) (w' := w1) ?_ rfl (Below.refl _ _)
     simp [go_sem, Act.eval, e0, hc_]
   · intro a w1 hfr hdep _
     have e0 : a.tmps.getD 51 undef = .slice PA r.pods.length pc := dep_val hdep 6 51 (by kernel_rfl)
     refine Line.Step.value (by simp [addPlan]) (Line.wanted_free rfl) (v := .int .i64 (r.pods.length : Nat)) (w' := w1) ?_ rfl (Below.refl _ _)
     simp [go_sem, Act.eval, e0]
   · intro a w1 hfr hdep _
     have e0 : a.tmps.getD 52 undef = .int .i64 (r.pods.length : Nat) := dep_val hdep 7 52 (by kernel_rfl)
     refine Line.Step.value (by simp [addPlan]) (Line.wanted_free rfl) (v := .bool (((r.pods.length : Nat) : Int) != 0)) (w' := w1) ?_ rfl (Below.refl _ _)
     simp [go_sem, Act.eval, e0]
   · intro a w1 hfr hdep hG
     have e0 : a.tmps.getD 45 undef = .func (.func 119) #[] #[.pointer (some ⟨p, 0, none⟩)] := dep_val hdep 0 45 (by kernel_rfl)
     have e1 : a.tmps.getD 49 undef = .string ⟨(itoa (r.pods.length : Nat)).toArray⟩ := dep_val hdep 4 49 (by kernel_rfl)
     have e2 : a.tmps.getD 53 undef = .bool (((r.pods.length : Nat) : Int) != 0) := dep_val hdep 8 53 (by kernel_rfl)
     refine Line.Step.write 0 rfl (Line.wanted_free rfl) (f := 119) (args := #[.string ⟨#[112, 111, 100, 115]⟩, .string ⟨(itoa (r.pods.length : Nat)).toArray⟩, .bool (((r.pods.length : Nat) : Int) != 0), .pointer (some ⟨p, 0, none⟩)]) ?_ ?_
     · simp [go_sem, Act.eval, e0, e1, e2]
     · refine (add_any B p xs7 ⟨#[112, 111, 100, 115]⟩ _ _ (by have := HX7.out; omega) (by decide) (itoa_short _ HNP.out) w1 (hG 0 rfl)).mono ?_
       rintro e w2 ⟨rfl, h1, h2⟩
       exact ⟨_, rfl, rfl, fun _ => h2, h1⟩
 intro u45 u46 u47 u48 u49 u50 u51 u52 u53 u54 w8 hk hC hG
 clear hC
 have h2 := hk HBS7.out
 obtain ⟨xs8, hx8⟩ : ∃ l, (addP (((r.pods.length : Int) != 0)) ⟨#[112, 111, 100, 115]⟩ ⟨(itoa (r.pods.length : Nat)).toArray⟩ xs7) = l := ⟨_, rfl⟩
 have HX8 := hid (show xs8.length ≤ 8 by rw [← hx8]; exact addP_len HX7.out)
 have HE8 := hid hx8
 have HPP := hid (show Parts w8 B p xs8 by rw [← hx8]; exact hG)
 have HY8 := hid ((h2.block y HYB.out).trans HY7.out)
 have B8 := hid (B7.out.trans (h2.mono HWB.out))
 have HBS8 := hid (Nat.le_trans HBS7.out h2.size)
 clear h2 hx8 hk hG
 simp only [put_lit, List.set_cons_succ, List.set_cons_zero]
 go_wp2_with fail
 refine Line.wp_region_walk (by kernel_rfl) (by kernel_rfl) (addPlan B p xs8 (addP (((r.use.length : Int) != 0)) ⟨#[117, 115, 101]⟩ ⟨(itoa (r.use.length : Nat)).toArray⟩ xs8) 9 (X8 p y n r PA pc UA uc)) (by kernel_rfl) (by kernel_rfl) HPP.out ?_ ?_
 · refine ⟨?_, ?_, ?_, ?_, ?_, ?_, ?_, ?_, ?_, ?_, trivial⟩
   · intro a w1 hfr hdep _
     have f0 := hfr.slot 6 (by kernel_rfl)
     refine Line.Step.value (by simp [addPlan]) (Line.wanted_free rfl) (v := .func (.func 119) #[] #[.pointer (some ⟨p, 0, none⟩)]) (w' := w1) ?_ rfl (Below.refl _ _)
     simp [go_sem, Act.eval, f0]
   · intro a w1 hfr hdep _
     have f0 := hfr.slot 3 (by kernel_rfl)
     refine Line.Step.value (by simp [addPlan]) (Line.wanted_free rfl) (v := .pointer (some ⟨y, 6, none⟩)) (w' := w1) ?_ rfl (Below.refl _ _)
     simp [go_sem, Act.eval, f0]
   · intro a w1 hfr hdep _
     have e0 : a.tmps.getD 56 undef = .pointer (some ⟨y, 6, none⟩) := dep_val hdep 1 56 (by kernel_rfl)
     have hc_ := box_cell (((hfr.kept HBS8.out).block y HYB.out).trans HY8.out) 6 rfl
     refine Line.Step.value (by simp [addPlan]) (Line.wanted_free rfl) (v := .slice UA r.use.length uc) (w' := w1) ?_ rfl (Below.refl _ _)
     simp [go_sem, Act.eval, e0, hc_]
   · intro a w1 hfr hdep _
     have e0 : a.tmps.getD 57 undef = .slice UA r.use.length uc := dep_val hdep 2 57 (by kernel_rfl)
     refine Line.Step.value (by simp [addPlan]) (Line.wanted_free rfl) (v := .int .i64 (r.use.length : Nat)) (w' := w1) ?_ rfl (Below.refl _ _)
     simp [go_sem, Act.eval, e0]
   · intro a w1 hfr hdep _
     have e0 : a.tmps.getD 58 undef = .int .i64 (r.use.length : Nat) := dep_val hdep 3 58 (by kernel_rfl)
     refine Line.Step.call (by simp [addPlan]) (Line.wanted_free rfl) (f := 118) (args := #[.int .i64 (r.use.length : Nat)]) ?_ ?_
     · simp [go_sem, Act.eval, e0]
     · refine (NumText.numtext_any (r.use.length : Nat) w1 HNU.out.1 HNU.out.2 (HT0.out.below (B8.out.trans ((hfr.kept HBS8.out).mono HWB.out)))).mono ?_
       rintro e w2 ⟨rfl, hb⟩
       exact ⟨_, rfl, rfl, hb⟩
   · intro a w1 hfr hdep _
     have f0 := hfr.slot 3 (by kernel_rfl)
     refine Line.Step.value (by simp [addPlan]) (Line.wanted_free rfl) (v := .pointer (some ⟨y, 6, none⟩)) (w' := w1) ?_ rfl (Below.refl _ _)
     simp [go_sem, Act.eval, f0]
   · intro a w1 hfr hdep _
     have e0 : a.tmps.getD 60 undef = .pointer (some ⟨y, 6, none⟩) := dep_val hdep 5 60 (by kernel_rfl)
     have hc_ := box_cell (((hfr.kept HBS8.out).block y HYB.out).trans HY8.out) 6 rfl
     refine Line.Step.value (by simp [addPlan]) (Line.wanted_free rfl) (v := .slice UA r.use.length uc) (w' := w1) ?_ rfl (Below.refl _ _)
     simp [go_sem, Act.eval, e0, hc_]
   · intro a w1 hfr hdep _
     have e0 : a.tmps.getD 61 undef = .slice UA r.use.length uc := dep_val hdep 6 61 (by kernel_rfl)
     refine Line.Step.value (by simp [addPlan]) (Line.wanted_free rfl) (v := .int .i64 (r.use.length : Nat)) (w' := w1) ?_ rfl (Below.refl _ _)
     simp [go_sem, Act.eval, e0]
   · intro a w1 hfr hdep _
     have e0 : a.tmps.getD 62 undef = .int .i64 (r.use.length : Nat) := dep_val hdep 7 62 (by kernel_rfl)
     refine Line.Step.value (by simp [addPlan]) (Line.wanted_free rfl) (v := .bool (((r.use.length : Nat) : Int) != 0)) (w' := w1) ?_ rfl (Below.refl _ _)
     simp [go_sem, Act.eval, e0]
   · intro a w1 hfr hdep hG
     have e0 : a.tmps.getD 55 undef = .func (.func 119) #[] #[.pointer (some ⟨p, 0, none⟩)] := dep_val hdep 0 55 (by kernel_rfl)
     have e1 : a.tmps.getD 59 undef = .string ⟨(itoa (r.use.length : Nat)).toArray⟩ := dep_val hdep 4 59 (by kernel_rfl)
     have e2 : a.tmps.getD 63 undef = .bool (((r.use.length : Nat) : Int) != 0) := dep_val hdep 8 63 (by kernel_rfl)
     refine Line.Step.write 0 rfl (Line.wanted_free rfl) (f := 119) (args := #[.string ⟨#[117, 115, 101]⟩, .string ⟨(itoa (r.use.length : Nat)).toArray⟩, .bool (((r.use.length : Nat) : Int) != 0), .pointer (some ⟨p, 0, none⟩)]) ?_ ?_
     · simp [go_sem, Act.eval, e0, e1, e2]
     · refine (add_any B p xs8 ⟨#[117, 115, 101]⟩ _ _ (by have := HX8.out; omega) (by decide) (itoa_short _ HNU.out) w1 (hG 0 rfl)).mono ?_
       rintro e w2 ⟨rfl, h1, h2⟩
       exact ⟨_, rfl, rfl, fun _ => h2, h1⟩
 intro u55 u56 u57 u58 u59 u60 u61 u62 u63 u64 w9 hk hC hG
 clear hC
 have h2 := hk HBS8.out
 obtain ⟨xs9, hx9⟩ : ∃ l, (addP (((r.use.length : Int) != 0)) ⟨#[117, 115, 101]⟩ ⟨(itoa (r.use.length : Nat)).toArray⟩ xs8) = l := ⟨_, rfl⟩
 have HX9 := hid (show xs9.length ≤ 9 by rw [← hx9]; exact addP_len HX8.out)
 have HE9 := hid hx9
 have HPP := hid (show Parts w9 B p xs9 by rw [← hx9]; exact hG)
 have HY9 := hid ((h2.block y HYB.out).trans HY8.out)
 have B9 := hid (B8.out.trans (h2.mono HWB.out))
 have HBS9 := hid (Nat.le_trans HBS8.out h2.size)
 clear h2 hx9 hk hG
 simp only [put_lit, List.set_cons_succ, List.set_cons_zero]
 obtain ⟨Ax, cx, hBp, hx50, hpc, ho, _⟩ := HPP.out
 have hc_ := box_cell hpc 0 rfl
 have HO := hid ho
 have HJ := hid (show Lib.join (xs9.map (·.data.toList)) [32] = lineR n r by unfold lineR replyParts; rw [HE3.out, HE4.out, HE5.out, HE6.out, HE7.out, HE8.out, HE9.out])
 clear ho hpc
 go_wp2_with fail
 refine (join_sp xs9 HO.out (by have := HX9.out; omega) (by rw [HJ.out]; exact HLEN.out)).mono ?_
 rintro e wz ⟨rfl, hbz⟩
 rw [HJ.out]
 go_wp2_with fail
 go_ret
 exact ⟨rfl, B9.out.trans (hbz.mono B9.out.size)⟩
def evT : Nat → ByteArray
 | 1 => ⟨#[97, 100, 100]⟩
 | 2 => ⟨#[109, 111, 100]⟩
 | 3 => ⟨#[100, 101, 108]⟩
 | 4 => ⟨#[109, 97, 114, 107]⟩
 | 5 => ⟨#[111, 118, 101, 114]⟩
 | _ => ⟨#[45]⟩
def evName (k : Int) : ByteArray := if k < 0 ∨ 6 ≤ k then ⟨#[45]⟩ else evT k.toNat
structure EvLaid (w : World) : Prop where
 names : ∀ k, k < 6 → w.cell? ⟨0, k, none⟩ = some (.string (evT k))
theorem EvLaid.below {w w' : World} (h : EvLaid w) (hb : Below w.heap.size w w') : EvLaid w' :=
 ⟨fun k hk => by have := h.names k hk; rw [hb.cell (World.block_lt_of_cell? _ _ this)]; exact this⟩
structure Laid (w : World) : Prop where
 spec : SLaid w
 names : EvLaid w
theorem Laid.below {w w' : World} (h : Laid w) (hb : Below w.heap.size w w') : Laid w' := ⟨h.spec.below hb, h.names.below hb⟩
def evParts (n : Int) (u : Ev) : List ByteArray := [⟨#[101, 118, 101, 110, 116]⟩, ⟨(itoa n).toArray⟩, evName u.kind, ⟨(decDigits u.rev).toArray⟩] ++ (if hasB u.kind then [u.pod.spec.name] else [])
def lineE (n : Int) (u : Ev) : List UInt8 := Lib.join ((evParts n u).map (·.data.toList)) [32]
def lineM (m : Mg) : List UInt8 := if m.kind = 1 then lineR m.num m.reply else if m.kind = 2 then lineE m.num m.event else []
structure FitM (m : Mg) : Prop where
 num : -9223372036854775808 ≤ m.num ∧ m.num ≤ 9223372036854775807
 reply : FitR m.reply
 rev : m.event.rev < 18446744073709551616
 name : m.event.pod.spec.name.size ≤ 1000
end Tl
end Go.Proofs.YtljbpelogjmciaaGreatDoor
namespace Go.Proofs.YtljbpelogjmciaaGreatDoor
open Go.ChangeShapes Go.WideShapes Go.ChangeAt Go.RowKit Go.Lib
open LebMath WirePure Sd Wire SpecOwn SpecRef Book Pk
namespace Tl
theorem line_R (m : Mg) (hf : FitM m) (h1 : m.kind = 1) (PA : Option Addr) (pc : Nat) (UA : Option Addr) (uc : Nat) (LA : Option Addr) (lc : Nat) (IA : Option Addr) (ic : Nat) (MA : Option Addr) (mc : Nat) (RA : Option Addr) (rc : Nat) (w : World) (hL : SLaid w) :
 Calls Tryz.prog 27 #[.agg (M24 m PA pc UA uc LA lc IA ic MA mc RA rc).toArray] w fun e w' => e = .returned (.string ⟨(lineM m).toArray⟩) ∧ Below w.heap.size w w' := by
 obtain ⟨y, hy⟩ : ∃ y, w.heap.size = y := ⟨_, rfl⟩
 obtain ⟨w2, hw2⟩ : ∃ v, w.alloc (.cells (M24 m PA pc UA uc LA lc IA ic MA mc RA rc).toArray 50) = v := ⟨_, rfl⟩
 have HY := hid (show w2.heap[y]? = some (.cells (M24 m PA pc UA uc LA lc IA ic MA mc RA rc).toArray 50 (0, 0)) by rw [← hw2, ← hy]; exact heap_alloc_new w _)
 have B2 := hid (show Below w.heap.size w w2 by rw [← hw2]; exact (Below.refl _ _).alloc (Nat.le_refl _) _)
 have HL := hid (hL.below B2.out)
 have HF := hid hf
 have HYE := hid hy
 have HWE := hid hw2
 clear hL hf hy hw2
 have hk : (m.kind == 1) = true := by simpa using h1
 have HE := hid (show lineM m = lineR m.num m.reply by unfold lineM; rw [if_pos h1])
 clear h1
 have HRUN := hid (reply_line m.num HF.out.num m.reply HF.out.reply PA pc UA uc w2 HL.out.tab)
 go_enter Tryz.func27, Tryz.ntmps27
 have c0 := box_cell HY.out 0 rfl
 have c1 := box_cell HY.out 1 rfl
 have RG := hid (range_at HY.out 2 (Y7 m.reply PA pc UA uc) rfl)
 go_wp2_with (refine wpList_load_mid rfl _ _ rfl _ _ rfl _ _ RG.out Tryz.underlying46 rfl (by kernel_rfl) ?_)
 rw [HWE.out]
 refine HRUN.out.mono ?_
 rintro e w3 ⟨rfl, hb3⟩
 go_wp2_with fail
 go_ret
 exact ⟨by rw [HE.out]; rfl, B2.out.trans (hb3.mono B2.out.size)⟩
def M0 : Mg := ⟨1, 3, ⟨6, 0, 0, 0, ⟨#[]⟩, [], []⟩, zeroE⟩
theorem m0_fine : msgB M0 = true := by decide +kernel
theorem m0_put : msgC.put M0 = [1, 3, 6, 0, 0, 0, 0, 0, 0] := by decide +kernel
theorem m0_line : lineM M0 = [114, 101, 112, 108, 121, 32, 51, 32, 54] := by decide +kernel
theorem m0_revs : revsM M0 := by unfold revsM; simp [M0, zeroE, zeroP, revsR]
theorem m0_light : LightM M0 := msg_light (msg_ok m0_fine m0_revs)
theorem zm_light : LightM zeroM := ⟨⟨by decide, by decide, by decide, fun p hp => by cases hp⟩, m0_light.pod⟩
theorem zm_not : msgB zeroM = false := by decide +kernel
theorem m0_up (B : Nat) (w : World) : MgUp B M0 w none none none none none none := ⟨⟨PodsUp.nil _ _ _, UsesUp.nil _ _ _, by decide, by decide, by decide⟩, pod_zero _ _, by decide⟩
theorem m0_fit : FitM M0 := ⟨by decide, ⟨by decide, by decide, by decide, by decide, by decide, by decide, by decide⟩, by decide, by decide⟩
theorem bytes_0 (w : World) (hL : SLaid w) : Calls Tryz.prog 26 #[.agg (X24 1 3 6).toArray] w fun e w' => e = .returned (.tuple #[.string ⟨#[1, 3, 6, 0, 0, 0, 0, 0, 0]⟩, .int .i64 0]) ∧ Below w.heap.size w w' := by
 refine (bytes_R M0 none 0 none 0 none 0 none 0 none 0 none 0 w m0_light hL (m0_up 0 w).in m0_fine rfl rfl rfl).mono ?_
 rintro e w' ⟨hb, ⟨_, rfl⟩ | ⟨hno, _⟩⟩
 · exact ⟨by rw [m0_put], hb⟩
 · rw [m0_fine] at hno; cases hno
theorem of_m0 (w : World) (hL : SLaid w) : Calls Tryz.prog 30 #[.string ⟨#[1, 3, 6, 0, 0, 0, 0, 0, 0]⟩] w fun e w' => ∃ (PA : Option Addr) (pc : Nat) (UA : Option Addr) (uc : Nat) (LA : Option Addr) (lc : Nat) (IA : Option Addr) (ic : Nat) (MA : Option Addr) (mc : Nat) (RA : Option Addr) (rc : Nat),
 e = .returned (.tuple #[.agg #[.int .i64 1, .int .i64 3, .int .i64 6, .int .i64 0, .int .i64 0, .int .u64 0, .string ⟨#[]⟩, .slice PA 0 pc, .slice UA 0 uc, .int .i64 0, .int .u64 0, .int .i64 0, .int .u64 0, .string ⟨#[]⟩, .slice LA 0 lc, .slice IA 0 ic, .slice MA 0 mc, .int .i64 0, .int .i64 0, .int .i64 0, .int .i64 0, .slice RA 0 rc, .int .i64 0, .int .i64 0], .int .i64 0]) ∧ Below w.heap.size w w' := by
 have h1 : (⟨#[1, 3, 6, 0, 0, 0, 0, 0, 0]⟩ : ByteArray).data.toList = msgC.put M0 := by rw [m0_put]
 have h2 := ofM_back m0_fine m0_revs
 refine (of_any ⟨#[1, 3, 6, 0, 0, 0, 0, 0, 0]⟩ (by rw [h1, m0_put]; show (9 : Nat) ≤ 281474976710656; decide) w hL).mono ?_
 rintro e w' ⟨m, PA, pc, UA, uc, LA, lc, IA, ic, MA, mc, RA, rc, rfl, h3, _, _, hb⟩
 rw [h1] at h3
 have h4 := h3 h2.2
 rw [h2.1] at h4
 subst h4
 refine ⟨PA, pc, UA, uc, LA, lc, IA, ic, MA, mc, RA, rc, ?_, hb⟩
 rw [h1, h2.2]
 rfl
theorem line_0 (w : World) (hL : Laid w) : Calls Tryz.prog 27 #[.agg (X24 1 3 6).toArray] w fun e w' => e = .returned (.string ⟨#[114, 101, 112, 108, 121, 32, 51, 32, 54]⟩) ∧ Below w.heap.size w w' := by
 refine (line_R M0 m0_fit rfl none 0 none 0 none 0 none 0 none 0 none 0 w hL.spec).mono ?_
 rintro e w' ⟨rfl, hb⟩
 exact ⟨by rw [m0_line], hb⟩
theorem check_0 (w : World) (hL : SLaid w) : Calls Tryz.prog 24 #[.agg Z24.toArray] w fun e w' => e = .returned (.int .i64 4) ∧ Below w.heap.size w w' := by
 refine (check_code zeroM none 0 none 0 none 0 none 0 none 0 none 0 w zm_light hL (mg_zero 0 w).in).mono ?_
 rintro e w' ⟨rfl, hb⟩
 exact ⟨by rw [zm_not]; rfl, hb⟩
theorem works_any (w : World) (hL : Laid w) :
 Calls Tryz.prog 17 #[] w fun e w' => e = .returned (.bool true) ∧ Below w.heap.size w w' := by
 have HL := hid hL
 clear hL
 have hx_ := heap_alloc_new w (.cells Z24.toArray 50)
 obtain ⟨wa, hwa⟩ : ∃ v, w.alloc (.cells Z24.toArray 50) = v := ⟨_, rfl⟩
 rw [hwa] at hx_
 have hba_ : Below w.heap.size w wa := by rw [← hwa]; exact (Below.refl _ _).alloc (Nat.le_refl _) _
 obtain ⟨w2, hw2⟩ : ∃ v, wa.setCells w.heap.size 0 (X24 1 3 6) = v := ⟨_, rfl⟩
 have X2 := hid (show w2.heap[w.heap.size]? = some (.cells (X24 1 3 6).toArray 50 (0, 0)) by rw [← hw2]; exact box_into hx_ 0 _ (over_24 _ _ _ _ _ _ _ _ _ _ _ _ _ _ _ _ _ _ _ _ _ _ _ _ _ _ _ _ _ _ _ _ _ _ _ _ _ _ _ _ _ _ _ _ _ _ _ _))
 have hb_ : Below w.heap.size w w2 := by rw [← hw2]; exact below_cells (Nat.le_refl _) _ 0 hba_
 have THw2 := hid (show wa.there w.heap.size 0 24 from box_there hx_ 0 24 (by decide))
 have ONEw2 := hid (show ((X24 1 3 6).toArray : Array Value).all (·.oneCell') = true by simp [Value.oneCell'])
 have HVw2 := hid hw2
 have HWw2 := hid hwa
 clear hw2 hx_ hwa hba_
 have B2 := hid hb_
 clear hb_
 have HLT := hid (HL.out.below B2.out)
 go_enter Tryz.func17, Tryz.ntmps17
 have RG := hid (range_at X2.out 0 (X24 1 3 6) rfl)
 go_wp2_with (first | (refine wpList_load_mid rfl _ _ rfl _ _ rfl _ _ RG.out Tryz.underlying50 rfl (by kernel_rfl) ?_) | (refine wpList_store_to rfl _ _ _ rfl _ _ _ rfl rfl ?th (by kernel_rfl) ?one (v := w2) ?hv ?_))
 case th => rw [HWw2.out]; exact THw2.out
 case one => exact ONEw2.out
 case hv => rw [HWw2.out]; exact HVw2.out
 clear THw2 ONEw2 HVw2 HWw2
 refine (bytes_0 w2 HLT.out.spec).mono ?_
 rintro e w3 ⟨rfl, hb3⟩
 have X3 := hid ((hb3.block w.heap.size (lt_of_block X2.out)).trans X2.out)
 have B3 := hid (B2.out.trans (hb3.mono B2.out.size))
 clear hb3 RG HLT X2
 go_wp2_with fail
 refine (of_m0 w3 (HL.out.below B3.out).spec).mono ?_
 rintro e w4 ⟨PA, pc, UA, uc, LA, lc, IA, ic, MA, mc, RA, rc, rfl, hb4⟩
 have X4 := hid ((hb4.block w.heap.size (lt_of_block X3.out)).trans X3.out)
 have B4 := hid (B3.out.trans (hb4.mono B3.out.size))
 clear hb4 X3
 have hx_ := heap_alloc_new w4 (.cells Z24.toArray 50)
 obtain ⟨wc, hwc⟩ : ∃ v, w4.alloc (.cells Z24.toArray 50) = v := ⟨_, rfl⟩
 rw [hwc] at hx_
 have hba_ : Below w4.heap.size w4 wc := by rw [← hwc]; exact (Below.refl _ _).alloc (Nat.le_refl _) _
 obtain ⟨w5, hw5⟩ : ∃ v, wc.setCells w4.heap.size 0 [.int .i64 1, .int .i64 3, .int .i64 6, .int .i64 0, .int .i64 0, .int .u64 0, .string ⟨#[]⟩, .slice PA 0 pc, .slice UA 0 uc, .int .i64 0, .int .u64 0, .int .i64 0, .int .u64 0, .string ⟨#[]⟩, .slice LA 0 lc, .slice IA 0 ic, .slice MA 0 mc, .int .i64 0, .int .i64 0, .int .i64 0, .int .i64 0, .slice RA 0 rc, .int .i64 0, .int .i64 0] = v := ⟨_, rfl⟩
 have Y5 := hid (show w5.heap[w4.heap.size]? = some (.cells #[.int .i64 1, .int .i64 3, .int .i64 6, .int .i64 0, .int .i64 0, .int .u64 0, .string ⟨#[]⟩, .slice PA 0 pc, .slice UA 0 uc, .int .i64 0, .int .u64 0, .int .i64 0, .int .u64 0, .string ⟨#[]⟩, .slice LA 0 lc, .slice IA 0 ic, .slice MA 0 mc, .int .i64 0, .int .i64 0, .int .i64 0, .int .i64 0, .slice RA 0 rc, .int .i64 0, .int .i64 0] 50 (0, 0)) by rw [← hw5]; exact box_into hx_ 0 _ (over_24 _ _ _ _ _ _ _ _ _ _ _ _ _ _ _ _ _ _ _ _ _ _ _ _ _ _ _ _ _ _ _ _ _ _ _ _ _ _ _ _ _ _ _ _ _ _ _ _))
 have hb_ : Below w4.heap.size w4 w5 := by rw [← hw5]; exact below_cells (Nat.le_refl _) _ 0 hba_
 have THw5 := hid (show wc.there w4.heap.size 0 24 from box_there hx_ 0 24 (by decide))
 have ONEw5 := hid (show (#[.int .i64 1, .int .i64 3, .int .i64 6, .int .i64 0, .int .i64 0, .int .u64 0, .string ⟨#[]⟩, .slice PA 0 pc, .slice UA 0 uc, .int .i64 0, .int .u64 0, .int .i64 0, .int .u64 0, .string ⟨#[]⟩, .slice LA 0 lc, .slice IA 0 ic, .slice MA 0 mc, .int .i64 0, .int .i64 0, .int .i64 0, .int .i64 0, .slice RA 0 rc, .int .i64 0, .int .i64 0] : Array Value).all (·.oneCell') = true by simp [Value.oneCell'])
 have HVw5 := hid hw5
 have HWw5 := hid hwc
 clear hw5 hx_ hwc hba_
 have B5 := hid (B4.out.trans (hb_.mono B4.out.size))
 have X5 := hid ((hb_.block w.heap.size (lt_of_block X4.out)).trans X4.out)
 clear hb_ X4
 have RG := hid (range_at X5.out 0 (X24 1 3 6) rfl)
 go_wp2_with (first | (refine wpList_load_mid rfl _ _ rfl _ _ rfl _ _ RG.out Tryz.underlying50 rfl (by kernel_rfl) ?_) | (refine wpList_store_to rfl _ _ _ rfl _ _ _ rfl rfl ?th (by kernel_rfl) ?one (v := w5) ?hv ?_))
 case th => rw [HWw5.out]; exact THw5.out
 case one => exact ONEw5.out
 case hv => rw [HWw5.out]; exact HVw5.out
 clear THw5 ONEw5 HVw5 HWw5
 refine (line_0 w5 (HL.out.below B5.out)).mono ?_
 rintro e w6 ⟨rfl, hb6⟩
 have Y6 := hid ((hb6.block w4.heap.size (lt_of_block Y5.out)).trans Y5.out)
 have B6 := hid (B5.out.trans (hb6.mono B5.out.size))
 clear hb6 RG X5 Y5
 have hc_ := box_cell Y6.out 1 rfl
 go_wp2_with fail
 refine (check_0 w6 (HL.out.below B6.out).spec).mono ?_
 rintro e w7 ⟨rfl, hb7⟩
 go_wp2_with fail
 go_ret
 exact ⟨rfl, B6.out.trans (hb7.mono B6.out.size)⟩
end Tl
end Go.Proofs.YtljbpelogjmciaaGreatDoor
