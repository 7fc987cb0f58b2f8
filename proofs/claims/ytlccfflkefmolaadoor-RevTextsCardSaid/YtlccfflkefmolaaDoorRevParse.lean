/-
  The contract of rev.Parse: the number of 64 bits whose text it is, and true, else 0 and false. Conditions: strconv's table of powers and its two errors hold what the program's text lays (Laid), and the text is within the form's reach.
-/
import Derived.Test.YtlccfflkefmolaaDoorRevDoor
namespace Go.Proofs.YtlccfflkefmolaaDoor
open Go.ChangeShapes Go.WideShapes Go.ChangeAt Go.RowKit Go.Sort
open Go.Lib TextMath RevMath
namespace Rv
open Fu

/-- what strconv's own variables hold -/
structure Laid (w : World) : Prop where
  tab : Tab w
  syn : ∃ tp p, w.var? Tryd.prog "strconv.ErrSyntax" = some #[.iface tp p]
  ran : ∃ tp p, w.var? Tryd.prog "strconv.ErrRange" = some #[.iface tp p]

theorem var_below {w w' : World} (hb : Below w.heap.size w w') {name : String} {cs : Array Value} (h : w.var? Tryd.prog name = some cs) : w'.var? Tryd.prog name = some cs := by
  unfold World.var? at h ⊢
  cases hg : Tryd.prog.globalNamed name with
  | none => rw [hg] at h; simp at h
  | some g =>
    rw [hg] at h
    simp only [Option.bind_some] at h ⊢
    have hlt : g < w.heap.size := by
      rcases Nat.lt_or_ge g w.heap.size with hl | hl
      · exact hl
      · rw [Array.getElem?_eq_none hl] at h; simp at h
    rw [hb.block g hlt]; exact h

theorem Laid.below {w w' : World} (h : Laid w) (hb : Below w.heap.size w w') : Laid w' := by
  obtain ⟨h1, ⟨t2, p2, h2⟩, ⟨t3, p3, h3⟩⟩ := h
  exact ⟨h1.below hb, ⟨t2, p2, var_below hb h2⟩, ⟨t3, p3, var_below hb h3⟩⟩

theorem below_bytes (w : World) (t : TypeId) (s : ByteArray) : Below w.heap.size w (Lib.bytesWorld w t s) :=
  ⟨rfl, rfl, rfl, by rw [Lib.bytesWorld_size]; omega, fun j hj => Lib.bytesWorld_at_old w t s j hj⟩

theorem uint_bad (s : ByteArray) (w : World) (hs : s.size ≤ 281474976710656) (hL : Laid w) (h : ∀ v, parseUintB 64 s.data.toList ≠ .ok v) :
    Calls Tryd.prog 16 #[.string s, .int .i64 10, .int .i64 64] w fun e w' => (∃ (n : Int) (t : TypeId) (N : Nat), e = .returned (.tuple #[.int .u64 n, .iface t (.pointer (some ⟨N, 0, none⟩))])) ∧ Below w.heap.size w w' := by
  cases hx : parseUintB 64 s.data.toList with
  | ok v => exact absurd hx (h v)
  | range =>
    obtain ⟨tp, p, hv⟩ := hL.ran
    refine (Any.strconv_ParseUint_10_at64_range_var Tryd.laysPu14 s hs hx tp p w hv).mono ?_
    rintro e w' ⟨N, he, _, _, hb⟩
    exact ⟨⟨_, _, N, he⟩, hb⟩
  | _ =>
    obtain ⟨tp, p, hv⟩ := hL.syn
    refine (Any.strconv_ParseUint_10_at64_syntax_var Tryd.laysPu14 s hs hx tp p w hv).mono ?_
    rintro e w' ⟨N, he, _, _, hb⟩
    exact ⟨⟨_, _, N, he⟩, hb⟩

theorem uint_ok (s : ByteArray) (v : Nat) (w : World) (hs : s.size ≤ 281474976710656) (h : parseUintB 64 s.data.toList = .ok v) :
    Calls Tryd.prog 16 #[.string s, .int .i64 10, .int .i64 64] w fun e w' => e = .returned (.tuple #[.int .u64 v, .nilIface]) ∧ Below w.heap.size w w' := by
  refine (Any.strconv_ParseUint_10_at64_ok Tryd.laysPu14 s (by omega) v h w).mono ?_
  rintro e w' ⟨he, hw⟩
  refine ⟨he, ?_⟩
  rcases hw with rfl | rfl
  · exact Below.refl _ _
  · exact below_bytes _ _ _

theorem parse_bad (s : ByteArray) (w : World) (hs : s.size ≤ 140737488351232) (hL : Laid w) (h : ∀ v, parseUintB 64 s.data.toList ≠ .ok v) :
    Calls Tryd.prog 12 #[.string s] w fun e w' => e = .returned (.tuple #[.int .u64 0, .bool false]) ∧ Below w.heap.size w w' := by
  have HL := Lib.hid hL
  have H := Lib.hid h
  clear hL h
  go_enter Tryd.func12, Tryd.ntmps12
  go_wp2_with fail
  refine (uint_bad s _ (by omega) HL.out H.out).mono ?_
  rintro e w1 ⟨⟨n, t, N, rfl⟩, hb⟩
  go_wp2_with fail
  go_ret2
  exact ⟨rfl, hb⟩

theorem parse_in (s : ByteArray) (v : Nat) (f : Bool) (w : World) (hs : s.size ≤ 140737488351232) (hL : Laid w) (h : parseUintB 64 s.data.toList = .ok v) (hv : v < 18446744073709551616)
    (hf : (decDigits v == s.toList) = f) :
    Calls Tryd.prog 12 #[.string s] w fun e w' => e = .returned (.tuple #[.int .u64 (if f then v else 0 : Nat), .bool f]) ∧ Below w.heap.size w w' := by
  have H := Lib.hid h
  have HL := Lib.hid hL
  clear h hL
  cases f
  all_goals
    go_enter Tryd.func12, Tryd.ntmps12
    go_wp2_with fail
    refine (uint_ok s v _ (by omega) H.out).mono ?_
    rintro e w1 ⟨rfl, hb⟩
    go_wp2_with fail
    refine (text_any v _ hv (HL.out.below hb).tab).mono ?_
    rintro e w2 ⟨rfl, hb2⟩
    go_wp2_with fail
    go_ret2
    exact ⟨rfl, hb.trans (hb2.mono hb.size)⟩

theorem parse_any (s : ByteArray) (w : World) (hs : s.size ≤ 140737488351232) (hL : Laid w) :
    Calls Tryd.prog 12 #[.string s] w fun e w' => e = .returned (.tuple #[.int .u64 (revV s.data.toList).1, .bool (revV s.data.toList).2]) ∧ Below w.heap.size w w' := by
  by_cases hx : ∃ v, parseUintB 64 s.data.toList = .ok v
  · obtain ⟨v, hv⟩ := hx
    have := parse_in s v _ w hs hL hv (ok_facts hv).2 rfl
    rw [ByteArray.toList_eq] at this
    by_cases he : decDigits v = s.data.toList
    · rw [revV_ok hv he]
      rw [he] at this
      simpa using this
    · rw [revV_other hv he]
      have hb : (decDigits v == s.data.toList) = false := by simpa using he
      rw [hb] at this
      exact this
  · rw [revV_bad (fun v hv => hx ⟨v, hv⟩)]
    exact parse_bad s w hs hL (fun v hv => hx ⟨v, hv⟩)
end Rv
end Go.Proofs.YtlccfflkefmolaaDoor
