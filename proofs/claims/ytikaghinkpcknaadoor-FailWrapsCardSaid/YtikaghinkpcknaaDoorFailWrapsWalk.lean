/-
  The walk of the law FailWraps: it returns true, and leaves all that was there as it was. Conditions: the list holds its texts; errors.errorType holds the type error (Laid).
-/
import Derived.Test.YtikaghinkpcknaaDoorErrOpt
import Derived.Test.YtikaghinkpcknaaDoorFailWorks
import Derived.Test.YtikaghinkpcknaaDoorSameTexts
import Derived.Test.YtikaghinkpcknaaDoorAppendAny
import Derived.Laws.OwnMore
namespace Go.Proofs.YtikaghinkpcknaaDoor.FailWrapsWalk
open Go.RowKit Err

/-- behind the works: nothing is wrapped around nil -/
theorem walk_nil (z : Int) (hz : (z == 0) = true) (A : Option Addr) (c : Nat) (xs : List ByteArray) (s : ByteArray) (w : World) (hL : Laid w) :
    Calls Tryd.prog 5 #[.int .i64 z, .slice A xs.length c, .string s] w fun e w' => e = .returned (.bool true) ∧ Below w.heap.size w w' := by
  have HL := Lib.hid hL
  clear hL
  go_enter Tryd.func5, Tryd.ntmps5
  go_wp2_with fail
  refine (works _ HL.out).mono ?_
  rintro e w1 ⟨rfl, hb1⟩
  go_wp2_with fail
  refine (new_ok _ _).mono ?_
  rintro e w2 ⟨rfl, rfl⟩
  go_wp2_with fail
  refine (in_nil _ _).mono ?_
  rintro e w2 ⟨rfl, rfl⟩
  go_wp2_with fail
  go_ret
  exact ⟨rfl, hb1⟩

theorem walk_long (z : Int) (hz : (z == 0) = false) (A : Option Addr) (c : Nat) (xs : List ByteArray) (hl : (50 : Int) < (xs.length : Int)) (s : ByteArray) (w : World) (hL : Laid w) :
    Calls Tryd.prog 5 #[.int .i64 z, .slice A xs.length c, .string s] w fun e w' => e = .returned (.bool true) ∧ Below w.heap.size w w' := by
  have HL := Lib.hid hL
  clear hL
  go_enter Tryd.func5, Tryd.ntmps5
  go_wp2_with fail
  refine (works _ HL.out).mono ?_
  rintro e w1 ⟨rfl, hb1⟩
  go_wp2_with fail
  refine (new_ok _ _).mono ?_
  rintro e w2 ⟨rfl, rfl⟩
  go_wp2_with fail
  refine (in_nil _ _).mono ?_
  rintro e w2 ⟨rfl, rfl⟩
  go_wp2_with fail
  go_ret
  exact ⟨rfl, hb1⟩

set_option maxRecDepth 100000 in
theorem walk_some (z : Int) (hz : (z == 0) = false) (A : Option Addr) (c : Nat) (xs : List ByteArray) (hl : ¬ (50 : Int) < (xs.length : Int)) (s : ByteArray) (w : World) (hA : Texts w A xs) (hL : Laid w) :
    Calls Tryd.prog 5 #[.int .i64 z, .slice A xs.length c, .string s] w fun e w' => e = .returned (.bool true) ∧ Below w.heap.size w w' := by
  have HL := Lib.hid hL
  have HA := Lib.hid hA
  clear hL hA
  have hn : xs.length ≤ 9223372036854775807 := by omega
  have HN := Lib.hid hn
  clear hn
  obtain ⟨i0, hi, hz0, hz1, hz2⟩ := info_parts info_string
  go_enter Tryd.func5, Tryd.ntmps5
  go_wp2_with fail
  refine (works _ HL.out).mono ?_
  rintro e w1 ⟨rfl, hb1⟩
  go_wp2_with fail
  refine (new_any z hz A c xs _ (HA.out.below hb1) HN.out).mono ?_
  rintro e w2 ⟨E, rfl, hE, hb2⟩
  have hbb2 := hb1.trans (hb2.mono hb1.size)
  have H1 := Lib.hid hE
  clear hE hb2 hb1
  go_wp2_with fail
  refine (in_err H1.out s).mono ?_
  rintro e w3 ⟨F, rfl, hF, hb3⟩
  have hbb3 := hbb2.trans (hb3.mono hbb2.size)
  have H2 := Lib.hid hF
  have H3 := Lib.hid (H1.out.keep hb3)
  clear hF hb3 hbb2 H1
  go_wp2_with fail
  refine (code_some z _ F H2.out (HL.out.keep hbb3)).mono ?_
  rintro e w4 ⟨rfl, hb4⟩
  have hbb4 := hbb3.trans (hb4.mono hbb3.size)
  have H4 := Lib.hid (H2.out.keep hb4)
  have H5 := Lib.hid (H3.out.keep hb4)
  clear hb4 hbb3 H2 H3
  go_wp2_with fail
  refine (code_some z _ E H5.out (HL.out.keep hbb4)).mono ?_
  rintro e w5 ⟨rfl, hb5⟩
  have hbb5 := hbb4.trans (hb5.mono hbb4.size)
  have H6 := Lib.hid (H4.out.keep hb5)
  have H7 := Lib.hid (H5.out.keep hb5)
  clear hb5 hbb4 H4 H5
  go_wp2_with fail
  refine (path_some z _ F H6.out (by simp; omega)).mono ?_
  rintro e w6 ⟨v1, rfl, hown1, hb6⟩
  obtain ⟨A1, c1, rfl⟩ := own_slice hown1
  have hbb6 := hbb5.trans (hb6.mono hbb5.size)
  have H8 := Lib.hid (H7.out.keep hb6)
  have O1 := Lib.hid hown1
  clear hb6 hbb5 H6 H7 hown1
  have hb7 : Below w6.heap.size w6 (w6.alloc (.cells #[.string s] 9)) := (Below.refl _ _).alloc (Nat.le_refl _) _
  have H9 := Lib.hid (H8.out.keep hb7)
  have O2 := Lib.hid (World.ownsRow_lit (base := w6.heap.size) (e := 9) (size := 1) w6 #[.string s] 1 (Nat.le_refl _) (by decide) rfl)
  have hbb7 := hbb6.trans (hb7.mono hbb6.size)
  go_wp2_with fail
  refine (path_some z _ E H9.out (by omega)).mono ?_
  rintro e w8 ⟨v2, rfl, hown2, hb8⟩
  obtain ⟨A2, c2, rfl⟩ := own_slice hown2
  have hbb8 := hbb7.trans (hb8.mono hbb7.size)
  have hb68 : Below w6.heap.size w6 w8 := hb7.trans (hb8.mono (by simp))
  have H10 := Lib.hid (H9.out.keep hb8)
  have O3 := Lib.hid (own_keep O2.out hb8)
  have O4 := Lib.hid hown2
  clear hb8 hbb7 H9 hown2 O2
  go_wp2_with (at_builtin; refine AppendAny.wpList_append_want ?c0 _ _ 23 rfl w6.heap.size 9 i0 (.string ⟨#[]⟩) 1 16 Tryd.underlying23 hi hz0 hz1 hz2 rfl (by decide) _ _ _ rfl O3.out A2 xs.length c2 (xs.map Value.string) rfl ?c1 ?c2 ?c3 ?c4 ?c5 ?c6 ?_)
  case c1 => simp
  case c2 => exact own_source O4.out
  case c3 =>
    intro u hu
    obtain ⟨x, _, rfl⟩ := List.mem_map.1 hu
    rfl
  case c4 => unfold maxLen; omega
  case c5 => omega
  case c6 => exact hb68.size
  intro v9 w9 hown9 hgrow
  rw [Nat.add_comm] at hown9
  have hb9 : Below w6.heap.size w6 w9 := hb68.grown hgrow hb68.size (fun k hk => by simp [Value.ownBlock] at hk; omega)
  obtain ⟨A9, c9, rfl⟩ := own_slice hown9
  have T1 := Lib.hid ((Texts.of_own O1.out).1.below hb9)
  have T9 := Lib.hid (Texts.of_own (p := s :: xs) hown9).1
  have hbb9 := hbb6.trans (hb9.mono hbb6.size)
  have H11 := Lib.hid (H8.out.keep hb9)
  clear hgrow hown9 O1 O3 O4 hb68 hbb8 H10 H8 hb9 hbb6 hb7
  go_wp2_with fail
  refine (same_texts A1 A9 c1 c9 (s :: xs) _ T1.out T9.out (by simp; omega)).mono ?_
  rintro e w10 ⟨rfl, hb10⟩
  have hbb10 := hbb9.trans (hb10.mono hbb9.size)
  have H12 := Lib.hid (H11.out.keep hb10)
  clear T1 T9 hb10 hbb9 H11
  go_wp2_with fail
  refine (path_some z _ E H12.out (by omega)).mono ?_
  rintro e w11 ⟨v3, rfl, hown3, hb11⟩
  obtain ⟨A3, c3, rfl⟩ := own_slice hown3
  have hbb11 := hbb10.trans (hb11.mono hbb10.size)
  have T3 := Lib.hid (Texts.of_own hown3).1
  have TA := Lib.hid (HA.out.below hbb11)
  clear hown3 hb11 hbb10
  go_wp2_with fail
  refine (same_texts A3 A c3 c xs _ T3.out TA.out (by omega)).mono ?_
  rintro e w12 ⟨rfl, hb12⟩
  have hbb12 := hbb11.trans (hb12.mono hbb11.size)
  go_wp2_with fail
  go_ret
  exact ⟨rfl, hbb12⟩

theorem walk (z : Int) (A : Option Addr) (c : Nat) (xs : List ByteArray) (s : ByteArray) (w : World) (hA : Texts w A xs) (hL : Laid w) :
    Calls Tryd.prog 5 #[.int .i64 z, .slice A xs.length c, .string s] w fun e w' => e = .returned (.bool true) ∧ Below w.heap.size w w' := by
  cases hz : (z == 0) with
  | true => exact walk_nil z hz A c xs s w hL
  | false =>
    by_cases hl : (50 : Int) < (xs.length : Int)
    · exact walk_long z hz A c xs hl s w hL
    · exact walk_some z hz A c xs hl s w hA hL

end Go.Proofs.YtikaghinkpcknaaDoor.FailWrapsWalk
