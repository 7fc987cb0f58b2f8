/-
  The contract of fail.Path: the path of an error of package fail, in a row of its own; no text of nil. All that was there is left as it was. Conditions: the value is an error of package fail, or nil; its path has at most 1000000 texts.
-/
import Derived.Test.YtikaghinkpcknaaDoorErrUnwrap
import Derived.Laws.OwnMore
namespace Go.Proofs.YtikaghinkpcknaaDoor
open Go.RowKit Go.Extern.Stop Go.Stop Go.Extern
namespace Err

theorem info_string : (Tryd.prog.info? 9).map (fun i => (i.zero, i.size, i.bytes)) = some (some (.string ⟨#[]⟩), 1, 16) := by kernel_rfl

/-- a call ends with the texts p in a row of its own -/
def Row (p : List ByteArray) (w : World) (e : Ending) (w' : World) : Prop :=
  ∃ v, e = .returned v ∧ w'.ownsRow w.heap.size 9 1 v p.length (p.map Value.string) ∧ Below w.heap.size w w'

theorem path_nil (w : World) :
    Calls Tryd.prog 12 #[.nilIface] w fun e w' => e = .returned (.slice none 0 0) ∧ w = w' := by
  go_enter Tryd.func12, Tryd.ntmps12
  go_wp2
  refine wp_loop_rounds 1 ?_
  rw [rounds_succ]
  go_wp2
  go_ret
  exact ⟨rfl, rfl⟩

/-- a row of one's own stays while the memory that is there does -/
theorem own_keep {w w' : World} {base : Nat} {t : TypeId} {size n : Nat} {v : Value} {xs : List Value} (h : w.ownsRow base t size v n xs) (hb : Below w.heap.size w w') : w'.ownsRow base t size v n xs := by
  obtain ⟨h1, h2⟩ := h
  refine ⟨h1, ?_⟩
  rcases h2 with h2 | ⟨g, cap, cur, e1, e2, e3, e4⟩
  · exact .inl h2
  · have hlt : g < w.heap.size := by
      rcases Nat.lt_or_ge g w.heap.size with hl | hl
      · exact hl
      · rw [Array.getElem?_eq_none hl] at e3; cases e3
    exact .inr ⟨g, cap, cur, e1, e2, (hb.block g hlt).trans e3, e4⟩

/-- what is left of an error while its path is told: an error, or nothing -/
def Rest (w : World) (E : Value) (q : List ByteArray) : Prop := (∃ c, Is w E c q) ∨ (E = .nilIface ∧ q = [])
open Classical in
noncomputable def restLen (w : World) (E : Value) : Nat := if E = .nilIface then 0 else deep w E + 1
theorem restLen_nil (w : World) : restLen w .nilIface = 0 := if_pos rfl
theorem restLen_iface {w : World} {u : TypeId} {x : Value} {c : Int} {q : List ByteArray} (h : Is w (.iface u x) c q) : restLen w (.iface u x) = q.length + 1 := by
  unfold restLen
  rw [if_neg (by intro h; cases h), deep_eq h]

/-- the loop's head: the texts 'done' have been told, 'rest' are still to come -/
def PathAt (p : List ByteArray) (w : World) (E v : Value) (wl : World) : Prop :=
  ∃ done rest, p = done ++ rest ∧ Below w.heap.size w wl ∧ wl.ownsRow w.heap.size 9 1 v done.length (done.map Value.string) ∧ Rest w E rest

theorem path_some {w : World} (c : Int) (p : List ByteArray) (E : Value) (h : Is w E c p) (hp : p.length ≤ 1000000) :
    Calls Tryd.prog 12 #[E] w (Row p w) := by
  have iC := isStepC
  have iS := isStepS
  obtain ⟨i0, hi, hz0, hz1, hz2⟩ := info_parts info_string
  have H := Lib.hid h
  clear h
  go_enter Tryd.func12, Tryd.ntmps12
  go_wp2
  go_loopw [0, 3] (fun E' v wl => PathAt p w E' v wl) (fun E' _ _ => restLen w E')
  case atStart => exact ⟨[], p, rfl, Below.refl _ _, World.ownsRow_nil _ _ _ _, Or.inl ⟨c, H.out⟩⟩
  case round =>
    obtain ⟨done, rest, hpq, hb, hown, hrest⟩ := hrel
    have HP := Lib.hid hpq
    have hl : done.length + rest.length ≤ 1000000 := by rw [hpq, List.length_append] at hp; exact hp
    clear hpq
    rcases hrest with ⟨c', hE⟩ | ⟨rfl, hq⟩
    · cases hE with
      | code c' =>
        have HR := Lib.hid (restLen_iface (w := w) (Is.code c'))
        have HO := Lib.hid hown
        clear hown
        go_wp2_with fail
        refine (unwrapped_code c' _).mono ?_
        rintro e w1 ⟨rfl, hb1⟩
        go_wp2_with fail
        go_roundw
        case rel => exact ⟨done, [], HP.out, hb.trans (hb1.mono hb.size), own_keep HO.out hb1, Or.inr ⟨rfl, rfl⟩⟩
        case measure => rw [HR.out, restLen_nil]; omega
      | step b o E1 s _ q h0 h1 h2 =>
        have HR := Lib.hid (restLen_iface (w := w) (Is.step b o E1 s c' q h0 h1 h2))
        have hc0 := (hb.cell (lt_of_cell h0)).trans h0
        have h1' := (hb.cell (lt_of_cell h1)).trans h1
        have hlt := lt_of_cell h0
        have H1 := Lib.hid h1'
        have H2 := Lib.hid h2
        have hne : ∀ k, u3.ownBlock = some k → w.heap.size ≤ k := fun k hk => (hown.lt k hk).1
        have HN := Lib.hid hne
        clear h0 h1 h1' hne
        simp only [List.length_cons] at hl
        have HO := Lib.hid hown
        clear hown
        go_wp2_with (at_builtin; refine wpList_append_own _ rfl _ _ 23 rfl w.heap.size 9 i0 (.string ⟨#[]⟩) 1 16 Tryd.underlying23 hi hz0 hz1 hz2 rfl (by decide) _ _ _ rfl (HO.out.alloc _) ⟨wr.heap.size, 0, none⟩ 1 1 [.string s] rfl rfl ?c1 ?c2 ?c3 ?c4 ?c5 ?_)
        case c2 => rfl
        case c3 => unfold maxLen; omega
        case c4 => omega
        case c5 => have := hb.size; simp; omega
        intro v' w1 hown' hgrow _
        have hbs := hb.size
        have hb1 : Below w.heap.size w w1 := (hb.alloc hbs _).grown hgrow (by simp; omega) HN.out
        have hc1 : w1.cell? ⟨b, o + 1, none⟩ = some E1 := (hb1.cell (p := ⟨b, o + 1, none⟩) hlt).trans ((hb.cell (p := ⟨b, o + 1, none⟩) hlt).symm.trans H1.out)
        obtain ⟨t1, x1, rfl⟩ := H2.out.iface
        have HC := Lib.hid hc1
        have HW := Lib.hid hown'
        clear hc1 hown' hgrow hc0
        go_wp2_with fail
        refine (unwrapped_step b o t1 x1 _ HC.out).mono ?_
        rintro e w2 ⟨rfl, hb2⟩
        go_wp2_with fail
        go_roundw
        case rel => exact ⟨done ++ [s], q, by rw [HP.out]; simp, hb1.trans (hb2.mono hb1.size), by have := own_keep HW.out hb2; simpa using this, Or.inl ⟨c', H2.out⟩⟩
        case measure => rw [HR.out, restLen_iface H2.out]; simp
    · have HQ := Lib.hid hq
      have HO := Lib.hid hown
      clear hq hown
      go_wp2
      go_ret
      exact ⟨_, rfl, by have := HP.out; rw [HQ.out, List.append_nil] at this; rw [this]; exact HO.out, hb⟩
end Err
end Go.Proofs.YtikaghinkpcknaaDoor
