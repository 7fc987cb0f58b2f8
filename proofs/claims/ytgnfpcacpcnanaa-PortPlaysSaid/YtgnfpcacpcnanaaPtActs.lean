/-
  A list of acts of tables in memory; the document's Take of ports out of range, and of any. No condition.
-/
import Derived.Test.YtgnfpcacpcnanaaPtRef
set_option linter.unusedVariables false
set_option linter.unusedSimpArgs false
namespace Go.Proofs.Ytgnfpcacpcnanaa
open Go.ChangeShapes Go.WideShapes Go.ChangeAt Go.RowKit Go.Lib
open Lists
namespace Pt

/-- an act: its kind, an owner, ports; where the ports lie -/
structure Ac where
  kind : Int
  own : Int
  ps : List Int
  P : Option Addr
  c : Nat
def Ac.cellsAt (x : Ac) (w : World) (a : Addr) : Prop :=
  w.cell? a = some (.int .i64 x.kind) ∧ w.cell? ⟨a.block, a.off + 1, none⟩ = some (.int .i64 x.own) ∧ w.cell? ⟨a.block, a.off + 2, none⟩ = some (.slice x.P x.ps.length x.c)
structure Ac.In (x : Ac) (w : World) : Prop where
  own : I64 x.own
  nums : Nums .i64 w x.P x.ps
  len : x.ps.length ≤ 9223372036854775807
  nil : x.P = none → x.c = 0
/-- a list of acts at A -/
def Acts (w : World) (A : Option Addr) (l : List Ac) : Prop := ∀ (k : Nat) (x : Ac), l[k]? = some x → x.In w ∧ ∃ a, A = some a ∧ a.block < w.heap.size ∧ x.cellsAt w (a.add (k * 3))
theorem Ac.cellsAt.keep {x : Ac} {w w' : World} {a : Addr} (h : x.cellsAt w a) (hb : w'.heap[a.block]? = w.heap[a.block]?) : x.cellsAt w' a := by
  have e : ∀ p : Addr, p.block = a.block → w'.cell? p = w.cell? p := fun p hp => World.cell?_of_block (by rw [hp]; exact hb)
  unfold Ac.cellsAt at *
  rw [e a rfl, e ⟨a.block, a.off + 1, none⟩ rfl, e ⟨a.block, a.off + 2, none⟩ rfl]
  exact h
theorem Acts.below {w w' : World} {A : Option Addr} {l : List Ac} (h : Acts w A l) (hb : Below w.heap.size w w') : Acts w' A l := by
  intro k x hx
  obtain ⟨h1, a, h2, h3, h4⟩ := h k x hx
  exact ⟨⟨h1.own, nums_below h1.nums hb, h1.len, h1.nil⟩, a, h2, Nat.lt_of_lt_of_le h3 hb.size, h4.keep (by rw [add_block]; exact hb.block _ h3)⟩
set_option maxRecDepth 100000 in
set_option maxHeartbeats 1000000 in
theorem reftake_bad {B : Nat} {l : Tab} {A : Option Addr} {c : Nat} (o : Int) (ps : List Int) (P : Option Addr) (pc : Nat) (w : World) (h : w.ownsRow B 39 2 (.slice A l.length c) l.length (flat l)) (hA : Nums .i64 w P ps) (hn : ps.length ≤ 100000) (hf : fineB o ps = false) :
    Calls Try.prog 7 #[.slice A l.length c, .int .i64 o, .slice P ps.length pc] w fun e w' => e = .returned (.tuple #[.slice A l.length c, .int .i64 1]) ∧ w' = w := by
  have HA := Lib.hid hA
  obtain ⟨ln, hll⟩ : ∃ ln, l.length = ln := ⟨_, rfl⟩
  obtain ⟨n, hln⟩ : ∃ n, ps.length = n := ⟨_, rfl⟩
  have HLN := Lib.hid hln
  rw [hll]
  rw [hln] at hn ⊢
  clear h hA hll hln
  have hn' : (n : Int) ≤ 100000 := by omega
  by_cases h1 : 1 ≤ o
  · have HALL := Lib.hid (show ps.all inR = false by
      unfold fineB at hf
      rw [decide_eq_true h1] at hf
      simpa using hf)
    have hlt1 : ¬ o < 1 := by omega
    clear hf
    go_enter Try.func7, Try.ntmps7
    go_wp2
    go_loopw [8] (fun i wr => ∃ k : Nat, k ≤ n ∧ i = .int .i64 k ∧ wr = w ∧ Hid ((ps.take k).all inR = true)) (fun i _ => n - (RowKit.intOf i).toNat)
    case atStart => exact ⟨0, Nat.zero_le _, rfl, by trivial, rfl⟩
    case round =>
      obtain ⟨k, hk, rfl, rfl, HK⟩ := hrel
      by_cases hkn : k < n
      · obtain ⟨p, hp⟩ : ∃ p, ps[k]? = some p := ⟨_, List.getElem?_eq_getElem (by have := HLN.out; omega)⟩
        obtain ⟨_, a, rfl, ha, k1⟩ := HA.out k p hp
        have hkn' : (k : Int) < (n : Int) := by omega
        have HS := Lib.hid (show (ps.take (k + 1)).all inR = inR p by rw [List.take_add_one, hp, List.all_append, HK.out]; simp)
        clear hp
        by_cases hp1 : p < 1
        · have hd1 : decide (p < 1) = true := decide_eq_true hp1
          clear hp1
          go_wp2
          go_ret2
          exact ⟨rfl, rfl⟩
        · by_cases hp2 : 65535 < p
          · have hd1 : decide (p < 1) = false := decide_eq_false hp1
            have hd2 : decide (65535 < p) = true := decide_eq_true hp2
            clear hp1 hp2
            go_wp2
            go_ret2
            exact ⟨rfl, rfl⟩
          · have hd1 : decide (p < 1) = false := decide_eq_false hp1
            have hd2 : decide (65535 < p) = false := decide_eq_false hp2
            have HS2 := Lib.hid (show (ps.take (k + 1)).all inR = true by rw [HS.out]; exact decide_eq_true (by omega))
            clear hp1 hp2
            go_wp2
            go_roundw
            case rel => exact ⟨k + 1, by omega, by simp, by trivial, HS2.out⟩
            case measure => simp [RowKit.intOf]; omega
      · exfalso
        have := HK.out
        rw [List.take_of_length_le (by have := HLN.out; omega), HALL.out] at this
        cases this
  · have hlt1 : o < 1 := by omega
    clear hf h1
    go_enter Try.func7, Try.ntmps7
    go_wp2
    go_ret2
    exact ⟨rfl, rfl⟩
theorem reftake_any {B : Nat} {l : Tab} {A : Option Addr} {c : Nat} (o : Int) (ps : List Int) (P : Option Addr) (pc : Nat) (w : World) (h : w.ownsRow B 39 2 (.slice A l.length c) l.length (flat l)) (hA : Nums .i64 w P ps) (hlen : l.length + ps.length ≤ 100000) :
    Calls Try.prog 7 #[.slice A l.length c, .int .i64 o, .slice P ps.length pc] w fun e w' => ∃ A' c', e = .returned (.tuple #[.slice A' (takeL l o ps).length c', .int .i64 (takeC l o ps : Int)]) ∧ w'.ownsRow 0 39 2 (.slice A' (takeL l o ps).length c') (takeL l o ps).length (flat (takeL l o ps)) ∧ Below w.heap.size w w' := by
  cases hf : fineB o ps with
  | true => exact reftake_fine o ps P pc w h hA hlen hf
  | false =>
    obtain ⟨t1, t2⟩ := take_range (l := l) hf
    rw [t1, t2]
    refine (reftake_bad o ps P pc w h hA (by omega) hf).mono ?_
    rintro e w' ⟨rfl, rfl⟩
    exact ⟨A, c, rfl, owns_base h (Nat.zero_le _), Below.refl _ _⟩
end Pt
end Go.Proofs.Ytgnfpcacpcnanaa
