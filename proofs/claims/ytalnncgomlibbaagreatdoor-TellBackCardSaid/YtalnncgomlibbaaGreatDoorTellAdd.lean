/-
 The line of a message: its parts, and how replyLine's closure adds one (add_any); names of the kinds of events, great numbers' digits. Conditions: the texts are short; the listed variables hold what the program's text lays.
-/
import Derived.Test.YtalnncgomlibbaaGreatDoorTellMsg
import Derived.Test.YtalnncgomlibbaaGreatDoorAppendAny
import Derived.Test.YtalnncgomlibbaaGreatDoorFormatUint
set_option linter.unusedVariables false
set_option linter.unusedSimpArgs false
namespace Go.Proofs.YtalnncgomlibbaaGreatDoor
open Go.ChangeShapes Go.WideShapes Go.ChangeAt Go.RowKit Go.Lib
open LebMath WirePure Sd Wire SpecOwn SpecRef Book Pk
namespace Tl

def addP (is : Bool) (nm v : ByteArray) (xs : List ByteArray) : List ByteArray := if is then xs ++ [nm ++ ⟨#[61]⟩ ++ v] else xs
def Parts (w : World) (B p : Nat) (xs : List ByteArray) : Prop := ∃ (A : Option Addr) (c : Nat), B ≤ p ∧ xs.length ≤ 50 ∧ w.heap[p]? = some (.cells #[.slice A xs.length c] 116 (0, 0)) ∧ w.ownsRow B 9 1 (.slice A xs.length c) xs.length (xs.map Value.string) ∧ (Value.slice A xs.length c).ownBlock ≠ some p
theorem own_other {w w' : World} {base : Nat} {e : TypeId} {size n : Nat} {v : Value} {xs : List Value} (h : w.ownsRow base e size v n xs) (hk : ∀ g, v.ownBlock = some g → w'.heap[g]? = w.heap[g]?) : w'.ownsRow base e size v n xs := by
 obtain ⟨h1, h2⟩ := h
 refine ⟨h1, ?_⟩
 rcases h2 with h2 | ⟨g, cap, cur, hv, hg, hh, r⟩
 · exact .inl h2
 · exact .inr ⟨g, cap, cur, hv, hg, by rw [hk g (by rw [hv]; rfl)]; exact hh, r⟩
theorem Parts.keep {w w' : World} {B p : Nat} {xs : List ByteArray} (h : Parts w B p xs) (hb : Below w.heap.size w w') : Parts w' B p xs := by
 obtain ⟨A, c, h1, h5, h2, h3, h4⟩ := h
 refine ⟨A, c, h1, h5, (hb.block p (lt_of_block h2)).trans h2, own_other h3 (fun g hg => hb.block g ?_), h4⟩
 rcases h3.2 with ⟨e1, _⟩ | ⟨g', cap, cur, e1, e2, e3, _⟩
 · rw [e1] at hg; cases hg
 · rw [e1] at hg; injection hg with hg; subst hg; exact lt_of_block e3

set_option maxRecDepth 100000 in
set_option maxHeartbeats 1000000 in
theorem add_any (B p : Nat) (xs : List ByteArray) (nm v : ByteArray) (is : Bool) (hx : xs.length ≤ 20) (hnm : nm.size ≤ 10) (hv : v.size ≤ 1000) (w : World) (hP : Parts w B p xs) :
 Calls Tryz.prog 119 #[.string nm, .string v, .bool is, .pointer (some ⟨p, 0, none⟩)] w fun e w' => e = .returned (.tuple #[]) ∧ Parts w' B p (addP is nm v xs) ∧ Below B w w' := by
 cases is with
 | false =>
  have HP := Lib.hid hP
  clear hP
  go_enter Tryz.func119, Tryz.ntmps119
  go_wp2_with fail
  go_end0
  exact ⟨rfl, HP.out, Below.refl _ _⟩
 | true =>
  obtain ⟨A, c, hB, hx50, hp, ho, hne⟩ := hP
  have hpl := lt_of_block hp
  have hc := box_cell hp 0 rfl
  have hf := box_free hp 0
  obtain ⟨i0, hi, hz0, hz1, hz2⟩ := info_parts (show (Tryz.prog.info? 9).map (fun i => (i.zero, i.size, i.bytes)) = some (some (.string ⟨#[]⟩), 1, 16) by kernel_rfl)
  have hs1 : (nm ++ ⟨#[61]⟩ : ByteArray).size = nm.size + 1 := by rw [ByteArray.size_append]; rfl
  have ra : ∀ u, (Op.stringOp .add nm ⟨#[61]⟩).run Tryz.prog u = .ok (.string (nm ++ ⟨#[61]⟩)) u := fun u => run_string_add_sum u nm ⟨#[61]⟩ (by show nm.size + 1 ≤ _; omega)
  have rb : ∀ u, (Op.stringOp .add (nm ++ ⟨#[61]⟩) v).run Tryz.prog u = .ok (.string (nm ++ ⟨#[61]⟩ ++ v)) u := fun u => run_string_add_sum u _ v (by rw [hs1]; omega)
  have HP := Lib.hid hp
  have HO := Lib.hid ho
  have HN := Lib.hid hne
  obtain ⟨z, hzz⟩ : ∃ z, nm ++ ⟨#[61]⟩ ++ v = z := ⟨_, rfl⟩
  rw [hzz] at rb
  have HZ := Lib.hid hzz
  clear hp ho hne hs1 hzz
  go_enter Tryz.func119, Tryz.ntmps119
  go_wp2_with (at_builtin; refine AppendAny.wpList_append_want rfl _ _ 116 rfl B 9 i0 (.string ⟨#[]⟩) 1 16 Tryz.underlying116 hi hz0 hz1 hz2 rfl (by decide) (.slice A xs.length c) xs.length (xs.map Value.string) rfl (HO.out.alloc (.cells #[.string z] 9)) (some ⟨w.heap.size, 0, none⟩) 1 1 [.string z] rfl rfl ?c1 ?c2 ?c3 ?c4 ?c5 ?_)
  case c1 => exact .inr ⟨_, rfl, (World.ownsRow_lit (base := 0) (size := 1) (e := 9) w ([.string z] : List Value).toArray 1 (Nat.zero_le _) (by decide) rfl).cells rfl⟩
  case c2 => intro u hu; simp only [List.mem_cons, List.not_mem_nil, or_false] at hu; rcases hu with rfl; rfl
  case c3 => unfold maxLen; omega
  case c4 => omega
  case c5 => simp; omega
  intro v' w1 hown1 hgrow
  have hP1 : w1.heap[p]? = some (.cells #[.slice A xs.length c] 116 (0, 0)) := (hgrow.block p (by simp; omega) (fun e => HN.out e.symm)).trans ((((Below.refl w.heap.size w).alloc (Nat.le_refl _) _).block p hpl).trans HP.out)
  obtain ⟨A', c', rfl⟩ : ∃ A' c', v' = .slice A' (xs.length + 1) c' := by
   rcases hown1.2 with ⟨e1, e2⟩ | ⟨g, cap, cur, e1, _⟩
   · exact ⟨none, 0, by rw [e1, e2]⟩
   · exact ⟨_, _, e1⟩
  have hne1 : (Value.slice A' (xs.length + 1) c').ownBlock ≠ some p := by
   intro he
   rcases hown1.2 with ⟨e1, e2⟩ | ⟨g, cap, cur, e1, _, e3, _⟩
   · omega
   · rw [e1] at he
     injection he with he
     subst he
     rw [hP1] at e3
     injection e3 with e3
     injection e3 with _ e3
     exact absurd e3 (by decide)
  have hB1 : Below B w w1 := (((Below.refl B w).alloc (by omega) _)).grown hgrow (by simp; omega) (fun k hk => by
   rcases HO.out.2 with ⟨e1, _⟩ | ⟨g', cap, cur, e1, e2, _⟩
   · rw [e1] at hk; cases hk
   · rw [e1] at hk; have hk2 : g' = k := Option.some.inj hk; omega)
  have hk1 := box_cell hP1 0 rfl
  have hf1 := box_free hP1 0
  have HP1 := Lib.hid hP1
  have HO1 := Lib.hid hown1
  have HN1 := Lib.hid hne1
  have HB1 := Lib.hid hB1
  clear hown1 hgrow hP1 hne1 hB1 hc hf
  go_wp2_with fail
  go_end0
  have hP2 : (w1.setCell ⟨p, 0, none⟩ (.slice A' (xs.length + 1) c')).heap[p]? = some (.cells #[.slice A' (xs.length + 1) c'] 116 (0, 0)) := box_set HP1.out 0 _ rfl
  refine ⟨rfl, ⟨A', c', hB, by unfold addP; simp; omega, ?_, ?_, ?_⟩, HB1.out.setCell (p := ⟨p, 0, none⟩) hB _⟩
  · unfold addP
    rw [if_pos rfl, List.length_append]
    exact hP2
  · unfold addP
    rw [if_pos rfl, List.length_append, HZ.out, List.map_append]
    refine own_other HO1.out (fun g hg => Below.heap_setCell _ _ _ _ (fun e => ?_))
    subst e
    exact HN1.out hg
  · unfold addP
    rw [if_pos rfl, List.length_append]
    exact HN1.out
end Tl
end Go.Proofs.YtalnncgomlibbaaGreatDoor
