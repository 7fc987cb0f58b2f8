/-
  The contract of provostlaw02.works: the chapter's example holds. All that was there is left as it was. Conditions: errors.errorType holds the type error (Laid).
-/
import Derived.Test.YtikaghinkpcknaaDoorErrText
import Derived.Test.YtikaghinkpcknaaDoorErrCode
import Derived.Test.YtikaghinkpcknaaDoorFailNew
namespace Go.Proofs.YtikaghinkpcknaaDoor
open Go.RowKit
namespace Err

theorem text_as {w : World} (c : Int) (p : List ByteArray) (E : Value) (s : ByteArray) (h : Is w E c p) (hs : ⟨(pathText p).toArray⟩ = s) (hp : p.length ≤ 1000000) (hlen : (pathText p).length ≤ 140737488355328) :
    Calls Tryd.prog 15 #[E] w fun e w' => e = .returned (.string s) ∧ Below w.heap.size w w' := by
  rw [← hs]; exact text_some c p E h hp hlen

theorem first_none (w : World) :
    Calls Tryd.prog 19 #[.slice none 0 0] w fun e w' => e = .returned .nilIface ∧ w = w' :=
  first_any [] none 0 w (fun k E h => by simp at h) (fun k E h => by simp at h) (by simp)

theorem works (w : World) (hL : Laid w) :
    Calls Tryd.prog 7 #[] w fun e w' => e = .returned (.bool true) ∧ Below w.heap.size w w' := by
  have HL := Lib.hid hL
  clear hL
  go_enter Tryd.func7, Tryd.ntmps7
  go_wp2_with fail
  refine (new_any 30 (by decide) (some ⟨w.heap.size, 0, none⟩) 2 [⟨#[115, 112, 101, 99]⟩, ⟨#[109, 97, 105, 110]⟩] _ ?_ (by simp)).mono ?_
  · intro k x hx
    rcases k with _ | _ | k
    · simp at hx; subst hx; exact ⟨_, rfl, by simp [Addr.add]⟩
    · simp at hx; subst hx; exact ⟨_, rfl, by simp [Addr.add]⟩
    · simp at hx
  rintro e w1 ⟨E, rfl, hE, hb1⟩
  have hb : Below w.heap.size w w1 := ((Below.refl _ _).alloc (Nat.le_refl _) _).trans (hb1.mono (by simp))
  obtain ⟨t, x, rfl⟩ := hE.iface
  have H1 := Lib.hid hE
  clear hE hb1
  go_wp2_with fail
  refine (text_as 30 _ _ ⟨#[115, 112, 101, 99, 46, 109, 97, 105, 110]⟩ H1.out (by decide) (by simp) (by decide)).mono ?_
  rintro e w2 ⟨rfl, hb2⟩
  have H2 := Lib.hid (H1.out.keep hb2)
  have hbb2 := hb.trans (hb2.mono hb.size)
  clear hb hb2 H1
  go_wp2_with fail
  refine (in_err H2.out _).mono ?_
  rintro e w3 ⟨E3, rfl, hE3, hb3⟩
  have H3 := Lib.hid hE3
  have H4 := Lib.hid (H2.out.keep hb3)
  have hbb3 := hbb2.trans (hb3.mono hbb2.size)
  clear hE3 hb3 H2 hbb2
  go_wp2_with fail
  refine (text_as 30 _ _ ⟨#[114, 117, 110, 46, 115, 112, 101, 99, 46, 109, 97, 105, 110]⟩ H3.out (by decide) (by simp) (by decide)).mono ?_
  rintro e w4 ⟨rfl, hb4⟩
  have H5 := Lib.hid (H4.out.keep hb4)
  have hbb4 := hbb3.trans (hb4.mono hbb3.size)
  clear hb4 H3 H4 hbb3
  go_wp2_with fail
  refine (code_some 30 _ _ H5.out (HL.out.keep hbb4)).mono ?_
  rintro e w5 ⟨rfl, hb5⟩
  have hbb5 := hbb4.trans (hb5.mono hbb4.size)
  clear hb5 hbb4
  go_wp2_with fail
  refine (in_nil _ _).mono ?_
  rintro e w6 ⟨rfl, rfl⟩
  go_wp2_with fail
  refine (first_none _).mono ?_
  rintro e w6 ⟨rfl, rfl⟩
  go_wp2_with fail
  go_ret
  exact ⟨rfl, hbb5⟩
end Err
end Go.Proofs.YtikaghinkpcknaaDoor
