/-
  A list of acts in memory; and Add of an act's event. No condition.
-/
import Derived.Test.YtldhlilcfadieaaEgWorks
set_option linter.unusedVariables false
set_option linter.unusedSimpArgs false
namespace Go.Proofs.Ytldhlilcfadieaa
open Go.ChangeShapes Go.WideShapes Go.ChangeAt Go.RowKit Go.Lib
open Lists
namespace Eg

/-- an act: its kind, a number, a revision -/
structure Ac where
  kind : Int
  n : Int
  rev : Nat
def Ac.cellsAt (x : Ac) (w : World) (a : Addr) : Prop :=
  w.cell? a = some (.int .i64 x.kind) ∧ w.cell? ⟨a.block, a.off + 1, none⟩ = some (.int .i64 x.n) ∧ w.cell? ⟨a.block, a.off + 2, none⟩ = some (.int .u64 (x.rev : Nat))
/-- its numbers fit -/
def Ac.fits (x : Ac) : Prop := x.kind ≤ 9223372036854775807 ∧ -9223372036854775808 ≤ x.kind ∧ x.n ≤ 9223372036854775807 ∧ -9223372036854775808 ≤ x.n ∧ x.rev < 18446744073709551616
theorem Ac.fits.wf {x : Ac} (h : x.fits) : (Lit.int .i64 x.n).wf = true := by
  obtain ⟨_, _, h1, h2, _⟩ := h
  simp only [Lit.wf, IntKind.min, IntKind.max, Bool.and_eq_true]
  simp [IntKind.signed, IntKind.bits]
  omega
/-- a list of acts at A -/
def Acts (w : World) (A : Option Addr) (l : List Ac) : Prop := ∀ (k : Nat) (x : Ac), l[k]? = some x → x.fits ∧ ∃ a, A = some a ∧ a.block < w.heap.size ∧ x.cellsAt w (a.add (k * 3))
theorem Ac.cellsAt.keep {x : Ac} {w w' : World} {a : Addr} (h : x.cellsAt w a) (hb : w'.heap[a.block]? = w.heap[a.block]?) : x.cellsAt w' a := by
  have e : ∀ p : Addr, p.block = a.block → w'.cell? p = w.cell? p := fun p hp => World.cell?_of_block (by rw [hp]; exact hb)
  unfold Ac.cellsAt at *
  rw [e a rfl, e ⟨a.block, a.off + 1, none⟩ rfl, e ⟨a.block, a.off + 2, none⟩ rfl]
  exact h
/-- Add of an act's event -/
theorem add_ev {v wn : World} {g : Nat} {D : Nat → Prop} {rs : List Nat} {fl mo : Nat} (n : Int) (r : Nat) (h : Lg v g D rs fl mo) (G : Good fl rs mo) (hds : ∀ b, D b → b < v.heap.size) (hb : Below v.heap.size v wn) (hn : Nums .i64 wn (some ⟨v.heap.size + 1 + 1, 0, none⟩) [n]) :
    Calls Try.prog 7 #[.pointer (some ⟨g, 0, none⟩), .agg #[.int .i64 n, .int .u64 r, .int .i64 n, .int .u64 0, .string ⟨#[]⟩, .slice none 0 0, .slice none 0 0, .slice none 0 0, .int .i64 0, .int .i64 0, .int .i64 0, .int .i64 0, .slice (some ⟨v.heap.size + 1 + 1, 0, none⟩) 1 1, .int .i64 0, .int .i64 0]] wn fun e w' =>
      e = .returned (.int .i64 (adC rs fl r)) ∧ Lg w' g D (adR rs fl mo r) (adF rs fl mo r) mo ∧ Kp D v w' := by
  have hlt : v.heap.size + 1 + 1 < wn.heap.size := by
    obtain ⟨_, a, ha, hl, _⟩ := hn 0 n rfl
    injection ha with ha
    subst ha
    exact hl
  have h' : Lg wn g (fun b => D b ∨ (v.heap.size ≤ b ∧ b < wn.heap.size)) rs fl mo := h.move hb.size (fun b hl _ => hb.block b hl) (fun b hd => by
    rcases hd with hd | hd
    · exact .inl hd
    · exact .inr hd.1)
  refine (add_any (⟨n, n, r, some ⟨v.heap.size + 1 + 1, 0, none⟩, 1, [n]⟩ : Evt) wn h' G hn (Nat.le_refl 1) (fun a ha => by injection ha with ha; subst ha; exact .inr ⟨by show v.heap.size ≤ v.heap.size + 1 + 1; omega, hlt⟩) (fun b hd => by
    rcases hd with hd | hd
    · exact Nat.lt_of_lt_of_le (hds b hd) hb.size
    · exact hd.2)).mono ?_
  rintro e w' ⟨rfl, h2, k2⟩
  exact ⟨rfl, h2.move (Nat.le_refl _) (fun _ _ _ => rfl) (fun b hd => .inl (.inl hd)), (Kp.of_below hb).trans (k2.less (fun b _ hd => .inl hd))⟩
end Eg
end Go.Proofs.Ytldhlilcfadieaa
