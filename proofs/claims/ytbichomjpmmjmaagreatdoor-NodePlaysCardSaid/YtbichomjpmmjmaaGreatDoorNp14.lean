/-
  The contract of the laws' own helper LightSpec: is a spec not too long? No condition.
-/
import Derived.Test.YtbichomjpmmjmaaGreatDoorNp0
import Derived.Test.YtbichomjpmmjmaaGreatDoorChecked
import Derived.Test.YtbichomjpmmjmaaGreatDoorNp13
import Derived.Test.YtbichomjpmmjmaaGreatDoorNp11
import Derived.Test.YtbichomjpmmjmaaGreatDoorNp3
import Derived.WalkKit
import Derived.ProofKit
import Derived.Maps.AppendAt
namespace Go.Proofs.YtbichomjpmmjmaaGreatDoor
open Go.ChangeShapes Go.WideShapes Go.ChangeAt Go.RowKit Go.Lib
open Sd Lists
namespace Book
def lightC (x : Ctr) : Prop := x.name.size ≤ 100 ∧ x.image.size ≤ 100 ∧ x.ports.length ≤ 10
def lightL (x : Lbl) : Prop := x.key.size ≤ 100 ∧ x.val.size ≤ 100
/-- a list of containers that is not too long -/
def lightCs (l : List Ctr) : Prop := ∀ x ∈ l, lightC x
def lightLs (l : List Lbl) : Prop := ∀ x ∈ l, lightL x
/-- a spec that is not too long -/
def Light (S : Spc) : Prop := (S.name.size ≤ 100 ∧ S.labels.length ≤ 10 ∧ S.init.length ≤ 8 ∧ S.main.length ≤ 8) ∧ lightLs S.labels ∧ lightCs S.init ∧ lightCs S.main
def lightCsB (l : List Ctr) : Bool := l.all fun x => decide (x.name.size ≤ 100) && decide (x.image.size ≤ 100) && decide (x.ports.length ≤ 10)
def lightLsB (l : List Lbl) : Bool := l.all fun x => decide (x.key.size ≤ 100) && decide (x.val.size ≤ 100)
def LightB (S : Spc) : Bool := decide (S.name.size ≤ 100) && decide (S.labels.length ≤ 10) && decide (S.init.length ≤ 8) && decide (S.main.length ≤ 8) && lightLsB S.labels && lightCsB S.init && lightCsB S.main
theorem lightCsB_iff {l : List Ctr} : lightCsB l = true ↔ lightCs l := by simp [lightCsB, lightCs, lightC, and_assoc]
theorem lightLsB_iff {l : List Lbl} : lightLsB l = true ↔ lightLs l := by simp [lightLsB, lightLs, lightL]
theorem LightB_iff {S : Spc} : LightB S = true ↔ Light S := by simp [LightB, Light, lightCsB_iff, lightLsB_iff, and_assoc]
theorem lightCsB_of {l : List Ctr} (h : lightCs l) : lightCsB l = true := lightCsB_iff.2 h
theorem lightCsB_not {l : List Ctr} (h : ¬ lightCs l) : lightCsB l = false := by
  cases e : lightCsB l
  · rfl
  · exact absurd (lightCsB_iff.1 e) h
theorem LightB_not {S : Spc} (h : ¬ Light S) : LightB S = false := by
  cases e : LightB S
  · rfl
  · exact absurd (LightB_iff.1 e) h
theorem ret_bool {a b : Bool} (h : a = b) : Ending.returned (.bool a) = .returned (.bool b) := by rw [h]
set_option maxRecDepth 100000 in
theorem lightCs_any (A : Option Addr) (cap : Nat) (l : List Ctr) (hl : l.length ≤ 9223372036854775807) (w : World) (h : Ctrs w A l) :
    Calls Tryz.prog 31 #[.slice A l.length cap] w fun e w' => e = .returned (.bool (lightCsB l)) ∧ w = w' := by
  have H := Lib.hid h
  clear h
  have hl' : (l.length : Int) ≤ 9223372036854775807 := by omega
  clear hl
  go_enter Tryz.func31, Tryz.ntmps31
  go_wp2_with fail
  go_loop [3] (fun i => ∃ k : Nat, k ≤ l.length ∧ i = .int .i64 k ∧ Hid (∀ x ∈ l.take k, lightC x)) (fun i => l.length - (RowKit.intOf i).toNat)
  case atStart => exact ⟨0, Nat.zero_le _, rfl, fun x hx => by simp at hx⟩
  case round =>
    obtain ⟨k, hk, rfl, HA⟩ := hrel
    by_cases hlt : k < l.length
    · obtain ⟨hF, a, P, c, rfl, ha, hc, hN⟩ := H.out.at hlt
      have hp := hF.ports
      obtain ⟨x, hx⟩ : ∃ x, l[k] = x := ⟨_, rfl⟩
      rw [hx] at hc hp
      obtain ⟨h0, h1, _, _, _, _, _, _, h8, _, _⟩ := hc
      have HX := Lib.hid hx
      clear hx hF ha hN
      by_cases hy : lightC x
      · obtain ⟨y0, y1, y2⟩ := hy
        have HY := Lib.hid (show lightC x from ⟨y0, y1, y2⟩)
        go_wp2
        go_round
        case rel =>
          refine ⟨k + 1, by omega, by go_num, ?_⟩
          intro z hz
          rw [List.take_succ_eq_append_getElem hlt, HX.out] at hz
          rcases List.mem_append.1 hz with hz | hz
          · exact HA.out z hz
          · rw [List.mem_singleton.1 hz]; exact HY.out
        case measure => simp [RowKit.intOf]; omega
      · have HN := Lib.hid (show lightCsB l = false from lightCsB_not (fun hh => hy (hh x (HX.out ▸ List.getElem_mem hlt))))
        have hy' : 100 < x.name.size ∨ 100 < x.image.size ∨ 10 < x.ports.length := by
          unfold lightC at hy
          omega
        clear hy
        by_cases y0 : 100 < x.name.size
        · clear hy'
          go_wp2
          go_ret
          exact ⟨ret_bool HN.out.symm, rfl⟩
        · by_cases y1 : 100 < x.image.size
          · clear hy'
            go_wp2
            go_ret
            exact ⟨ret_bool HN.out.symm, rfl⟩
          · have y2 : 10 < x.ports.length := by omega
            clear hy'
            go_wp2
            go_ret
            exact ⟨ret_bool HN.out.symm, rfl⟩
    · have HN := Lib.hid (show lightCsB l = true from lightCsB_of (fun x hx => HA.out x (by rw [List.take_of_length_le (by omega)]; exact hx)))
      go_wp2
      go_ret
      exact ⟨ret_bool HN.out.symm, rfl⟩
set_option maxRecDepth 100000 in
set_option maxHeartbeats 1000000 in
/-- LIGHTSPEC -/
theorem light_any (S : Spc) (LA : Option Addr) (lc : Nat) (IA : Option Addr) (ic : Nat) (MA : Option Addr) (mc : Nat) (w : World) (h : S.In w LA lc IA ic MA mc) :
    Calls Tryz.prog 8 #[.agg #[.string S.name, .slice LA S.labels.length lc, .slice IA S.init.length ic, .slice MA S.main.length mc, .int .i64 S.restart, .int .i64 S.grace, .int .i64 S.prio]] w fun e w' => e = .returned (.bool (LightB S)) ∧ Below w.heap.size w w' := by
  have H := Lib.hid h
  have hl' : (S.labels.length : Int) ≤ 9223372036854775807 := by have := h.nl; omega
  have hi' : (S.init.length : Int) ≤ 9223372036854775807 := by have := h.ni; omega
  have hm' : (S.main.length : Int) ≤ 9223372036854775807 := by have := h.nm; omega
  clear h
  have HB := fun o => Lib.hid (show Below w.heap.size w (w.alloc o) from (Below.refl _ _).alloc (Nat.le_refl _) _)
  by_cases hc : S.name.size ≤ 100 ∧ S.labels.length ≤ 10 ∧ S.init.length ≤ 8 ∧ S.main.length ≤ 8
  · obtain ⟨y0, y1, y2, y3⟩ := hc
    have HC := Lib.hid (show S.name.size ≤ 100 ∧ S.labels.length ≤ 10 ∧ S.init.length ≤ 8 ∧ S.main.length ≤ 8 from ⟨y0, y1, y2, y3⟩)
    go_enter Tryz.func8, Tryz.ntmps8
    go_wp2_with fail
    have HI := Lib.hid (H.out.below (HB (.cells #[.string S.name, .slice LA S.labels.length lc, .slice IA S.init.length ic, .slice MA S.main.length mc, .int .i64 S.restart, .int .i64 S.grace, .int .i64 S.prio] 35)).out)
    go_loop [4] (fun i => ∃ k : Nat, k ≤ S.labels.length ∧ i = .int .i64 k ∧ Hid (∀ x ∈ S.labels.take k, lightL x)) (fun i => S.labels.length - (RowKit.intOf i).toNat)
    case atStart => exact ⟨0, Nat.zero_le _, rfl, fun x hx => by simp at hx⟩
    case round =>
      obtain ⟨k, hk, rfl, HA⟩ := hrel
      by_cases hlt : k < S.labels.length
      · obtain ⟨a, rfl, ha, hc⟩ := HI.out.labels.at hlt
        obtain ⟨x, hx⟩ : ∃ x, S.labels[k] = x := ⟨_, rfl⟩
        rw [hx] at hc
        obtain ⟨h0, h1⟩ := hc
        have HX := Lib.hid hx
        clear hx ha
        by_cases hy : lightL x
        · obtain ⟨y0, y1⟩ := hy
          have HY := Lib.hid (show lightL x from ⟨y0, y1⟩)
          go_wp2
          go_round
          case rel =>
            refine ⟨k + 1, by omega, by go_num, ?_⟩
            intro z hz
            rw [List.take_succ_eq_append_getElem hlt, HX.out] at hz
            rcases List.mem_append.1 hz with hz | hz
            · exact HA.out z hz
            · rw [List.mem_singleton.1 hz]; exact HY.out
          case measure => simp [RowKit.intOf]; omega
        · have HN := Lib.hid (show LightB S = false from LightB_not (fun hh => hy (hh.2.1 x (HX.out ▸ List.getElem_mem hlt))))
          have hy' : 100 < x.key.size ∨ 100 < x.val.size := by
            unfold lightL at hy
            omega
          clear hy
          by_cases y0 : 100 < x.key.size
          · clear hy'
            go_wp2
            go_ret
            exact ⟨ret_bool HN.out.symm, (HB _).out⟩
          · have y1 : 100 < x.val.size := by omega
            clear hy'
            go_wp2
            go_ret
            exact ⟨ret_bool HN.out.symm, (HB _).out⟩
      · have HLS := Lib.hid (show lightLs S.labels from fun x hx => HA.out x (by rw [List.take_of_length_le (by omega)]; exact hx))
        go_wp2_with fail
        refine (lightCs_any IA ic S.init HI.out.ni _ HI.out.init).mono ?_
        rintro e w' ⟨rfl, rfl⟩
        cases hci : lightCsB S.init with
        | false =>
          have HN := Lib.hid (show LightB S = false from LightB_not (fun hh => by rw [lightCsB_of hh.2.2.1] at hci; cases hci))
          clear hci
          go_wp2
          go_ret
          exact ⟨ret_bool HN.out.symm, (HB _).out⟩
        | true =>
          have HCI := Lib.hid (lightCsB_iff.1 hci)
          clear hci
          go_wp2_with fail
          refine (lightCs_any MA mc S.main HI.out.nm _ HI.out.main).mono ?_
          rintro e w' ⟨rfl, rfl⟩
          cases hcm : lightCsB S.main with
          | false =>
            have HN := Lib.hid (show LightB S = false from LightB_not (fun hh => by rw [lightCsB_of hh.2.2.2] at hcm; cases hcm))
            clear hcm
            go_wp2
            go_ret
            exact ⟨ret_bool HN.out.symm, (HB _).out⟩
          | true =>
            have HN := Lib.hid (show LightB S = true from LightB_iff.2 ⟨HC.out, HLS.out, HCI.out, lightCsB_iff.1 hcm⟩)
            clear hcm
            go_wp2
            go_ret
            exact ⟨ret_bool HN.out.symm, (HB _).out⟩
  · have HN := Lib.hid (show LightB S = false from LightB_not (fun hh => hc hh.1))
    have hc' : 100 < S.name.size ∨ 10 < S.labels.length ∨ 8 < S.init.length ∨ 8 < S.main.length := by omega
    clear hc
    by_cases y0 : 100 < S.name.size
    · clear hc'
      go_enter Tryz.func8, Tryz.ntmps8
      go_wp2
      go_ret
      exact ⟨ret_bool HN.out.symm, (HB _).out⟩
    · by_cases y1 : 10 < S.labels.length
      · clear hc'
        go_enter Tryz.func8, Tryz.ntmps8
        go_wp2
        go_ret
        exact ⟨ret_bool HN.out.symm, (HB _).out⟩
      · by_cases y2 : 8 < S.init.length
        · clear hc'
          go_enter Tryz.func8, Tryz.ntmps8
          go_wp2
          go_ret
          exact ⟨ret_bool HN.out.symm, (HB _).out⟩
        · have y3 : 8 < S.main.length := by omega
          clear hc'
          go_enter Tryz.func8, Tryz.ntmps8
          go_wp2
          go_ret
          exact ⟨ret_bool HN.out.symm, (HB _).out⟩
end Book
end Go.Proofs.YtbichomjpmmjmaaGreatDoor

/-
  The contract of the document's word on a spec (provostref06.Check). Condition: the spec is light (Book.Light).
-/
namespace Go.Proofs.YtbichomjpmmjmaaGreatDoor
open Go.ChangeShapes Go.WideShapes Go.ChangeAt Go.RowKit Go.Lib
open Sd Lists Go.Sort
namespace SpecRef
/-- a spec in a box of its own -/
def SBox (S : Spc) (LA : Option Addr) (lc : Nat) (IA : Option Addr) (ic : Nat) (MA : Option Addr) (mc : Nat) (w : World) (b : Nat) : Prop :=
  w.heap[b]? = some (.cells #[.string S.name, .slice LA S.labels.length lc, .slice IA S.init.length ic, .slice MA S.main.length mc, .int .i64 S.restart, .int .i64 S.grace, .int .i64 S.prio] 35 (0, 0))
structure SCells (S : Spc) (LA : Option Addr) (lc : Nat) (IA : Option Addr) (ic : Nat) (MA : Option Addr) (mc : Nat) (w : World) (b : Nat) : Prop where
  c0 : w.cell? ⟨b, 0, none⟩ = some (.string S.name)
  c1 : w.cell? ⟨b, 1, none⟩ = some (.slice LA S.labels.length lc)
  c2 : w.cell? ⟨b, 2, none⟩ = some (.slice IA S.init.length ic)
  c3 : w.cell? ⟨b, 3, none⟩ = some (.slice MA S.main.length mc)
  c4 : w.cell? ⟨b, 4, none⟩ = some (.int .i64 S.restart)
  c5 : w.cell? ⟨b, 5, none⟩ = some (.int .i64 S.grace)
  c6 : w.cell? ⟨b, 6, none⟩ = some (.int .i64 S.prio)
theorem SBox.cells {S : Spc} {LA : Option Addr} {lc : Nat} {IA : Option Addr} {ic : Nat} {MA : Option Addr} {mc : Nat} {w : World} {b : Nat} (h : SBox S LA lc IA ic MA mc w b) : SCells S LA lc IA ic MA mc w b := by
  unfold SBox at h
  constructor <;> simp [World.cell?, h]
theorem SBox.lt {S : Spc} {LA : Option Addr} {lc : Nat} {IA : Option Addr} {ic : Nat} {MA : Option Addr} {mc : Nat} {w : World} {b : Nat} (h : SBox S LA lc IA ic MA mc w b) : b < w.heap.size := by
  rcases Nat.lt_or_ge b w.heap.size with hl | hl
  · exact hl
  · unfold SBox at h; rw [Array.getElem?_eq_none hl] at h; cases h
theorem SBox.below {S : Spc} {LA : Option Addr} {lc : Nat} {IA : Option Addr} {ic : Nat} {MA : Option Addr} {mc : Nat} {w w' : World} {b : Nat} (h : SBox S LA lc IA ic MA mc w b) (hb : Below w.heap.size w w') : SBox S LA lc IA ic MA mc w' b := (hb.block b h.lt).trans h
theorem info_ctr : (Tryz.prog.info? 105).map (fun i => (i.zero, i.size, i.bytes)) = some (some (.agg #[.string ⟨#[]⟩, .string ⟨#[]⟩, .int .i64 0, .int .i64 0, .int .i64 0, .int .i64 0, .int .i64 0, .int .i64 0, .slice none 0 0, .int .i64 0, .int .i64 0]), 11, 120) := by kernel_rfl
/-- the containers from k on, those ahead being known -/
def CHere (name : ByteArray) (init : Bool) (pre l : List Ctr) (k : Nat) : Prop := ctrsFrom name init 0 pre l = ctrsFrom name init k (pre ++ l.take k) (l.drop k)
theorem chere_zero (name : ByteArray) (init : Bool) (pre l : List Ctr) : CHere name init pre l 0 := by unfold CHere; simp
theorem chere_end {name : ByteArray} {init : Bool} {pre l : List Ctr} {k : Nat} (h : CHere name init pre l k) (hk : l.length ≤ k) : ctrsFrom name init 0 pre l = fine := by
  unfold CHere at h
  rw [h, List.drop_eq_nil_of_le hk]; rfl
theorem chere_at {name : ByteArray} {init : Bool} {pre l : List Ctr} {k : Nat} (h : CHere name init pre l k) (hk : k < l.length) : ctrsFrom name init 0 pre l =
    if (oneV l[k] (pre ++ l.take k) init).1 ≠ 0 then ((oneV l[k] (pre ++ l.take k) init).1, atB name k ++ ⟨#[46]⟩ ++ (oneV l[k] (pre ++ l.take k) init).2) else ctrsFrom name init (k + 1) (pre ++ l.take k ++ [l[k]]) (l.drop (k + 1)) := by
  unfold CHere at h
  rw [h, List.drop_eq_getElem_cons hk]; rfl
theorem chere_next {name : ByteArray} {init : Bool} {pre l : List Ctr} {k : Nat} (h : CHere name init pre l k) (hk : k < l.length) (h1 : (oneV l[k] (pre ++ l.take k) init).1 = 0) : CHere name init pre l (k + 1) := by
  have := chere_at h hk
  rw [if_neg (by rw [h1]; simp)] at this
  unfold CHere
  rw [this, List.take_succ_eq_append_getElem hk, List.append_assoc]
theorem ports_size (l : List Ctr) : ∀ (zs : List Int) (k : Nat) (seen : List Int), k + zs.length ≤ 1000 → (portsFrom l k seen zs).2.size ≤ 40
  | [], _, _, _ => by show (0 : Nat) ≤ 40; omega
  | z :: zs, k, seen, h => by
    have ha : (atB t_ports k).size ≤ 40 := Nat.le_trans (atB_size t_ports k (by simp at h; omega)) (by decide)
    rw [portsFrom]
    split
    · exact ha
    · split
      · exact ha
      · exact ports_size l zs (k + 1) _ (by simp at h; omega)
theorem one_size (x : Ctr) (l : List Ctr) (init : Bool) (hp : x.ports.length ≤ 1000) : (oneV x l init).2.size ≤ 40 := by
  have hr : ∀ n, (t_req ++ t_res n).size ≤ 40 := fun n => by
    unfold t_res
    split
    · decide
    · split <;> decide
  have hl : ∀ n, (t_lim ++ t_res n).size ≤ 40 := fun n => by
    unfold t_res
    split
    · decide
    · split <;> decide
  unfold oneV
  split; · decide
  split; · decide
  split; · decide
  split; · exact hr _
  split; · exact hl _
  split; · decide
  split
  · exact ports_size l x.ports 0 [] (by omega)
  · unfold probeV
    split; · decide
    split <;> decide
set_option maxRecDepth 100000 in
set_option maxHeartbeats 8000000 in
theorem check_ref (S : Spc) (LA : Option Addr) (lc : Nat) (IA : Option Addr) (ic : Nat) (MA : Option Addr) (mc : Nat) (hL : Book.Light S) (w : World) (h : S.In w LA lc IA ic MA mc) :
    Calls Tryz.prog 83 #[.agg #[.string S.name, .slice LA S.labels.length lc, .slice IA S.init.length ic, .slice MA S.main.length mc, .int .i64 S.restart, .int .i64 S.grace, .int .i64 S.prio]] w
      fun e w' => e = .returned (.tuple #[.int .i64 (checkV S).1, .string (checkV S).2]) ∧ Below w.heap.size w w' := by
  have H := Lib.hid h
  have HL := Lib.hid hL
  have hn : S.name.size ≤ 100 := hL.1.1
  have hi' : (S.init.length : Int) ≤ 8 := by have := hL.1.2.2.1; omega
  have hm' : (S.main.length : Int) ≤ 8 := by have := hL.1.2.2.2; omega
  clear h hL
  go_enter Tryz.func83, Tryz.ntmps83
  go_wp2_with fail
  obtain ⟨w1, hw1⟩ : ∃ w1, w.alloc (.cells #[.string S.name, .slice LA S.labels.length lc, .slice IA S.init.length ic, .slice MA S.main.length mc, .int .i64 S.restart, .int .i64 S.grace, .int .i64 S.prio] 35) = w1 := ⟨_, rfl⟩
  have B1 := Lib.hid (show Below w.heap.size w w1 by rw [← hw1]; exact (Below.refl _ _).alloc (Nat.le_refl _) _)
  have SB := Lib.hid (show SBox S LA lc IA ic MA mc w1 w.heap.size by rw [← hw1]; exact heap_alloc_new w _)
  rw [hw1]
  obtain ⟨b, hb⟩ : ∃ b, w.heap.size = b := ⟨_, rfl⟩
  have HBB := Lib.hid hb
  rw [hb] at SB ⊢
  clear hw1 hb
  refine (Text.name_ref S.name (by unfold maxLen; omega) w1).mono ?_
  rintro e w2 ⟨rfl, rfl⟩
  cases hname : TextPure.nameL S.name.data.toList with
  | false =>
    have HD := Lib.hid (show checkV S = (30, t_name) by unfold checkV; rw [if_pos (show isName S.name = false from hname)])
    clear hname
    go_wp2
    go_ret2
    exact ⟨ret_two HD.out rfl rfl, HBB.out ▸ B1.out⟩
  | true =>
    have HNAME := Lib.hid (show isName S.name = true from hname)
    clear hname
    have c1 := SB.out.cells.c1
    go_wp2_with fail
    refine (labels_ref _ LA lc S.labels (by decide) (by have := HL.out.1.2.1; omega) HL.out.2.1 w1 (H.out.labels.below (HBB.out ▸ B1.out))).mono ?_
    rintro e w3 ⟨rfl, hb3⟩
    have B3 := Lib.hid (B1.out.trans (hb3.mono B1.out.size))
    have S3 := Lib.hid (SB.out.below hb3)
    have W3 := Lib.hid (show Below w1.heap.size w1 w3 from hb3)
    have I1 := Lib.hid (H.out.below B1.out)
    clear hb3 c1
    obtain ⟨Y, hY⟩ : ∃ Y, labelsV t_labels S.labels = Y := ⟨_, rfl⟩
    rw [show labelsV ⟨#[108, 97, 98, 101, 108, 115]⟩ S.labels = Y from hY]
    have HY := Lib.hid hY
    clear hY
    obtain ⟨cc, pp⟩ := Y
    by_cases hl0 : cc = 0
    rotate_left
    · have HD := Lib.hid (show checkV S = (cc, pp) by unfold checkV; rw [if_neg (show ¬ isName S.name = false by rw [HNAME.out]; simp), HY.out, if_pos (show cc ≠ 0 from hl0)])
      have hz : (cc == 0) = false := by simpa using hl0
      go_wp2
      go_ret2
      exact ⟨ret_two HD.out rfl rfl, HBB.out ▸ B3.out⟩
    · have HLAB := Lib.hid (show ¬ (labelsV t_labels S.labels).1 ≠ 0 by rw [HY.out]; exact fun h => h hl0)
      subst hl0
      have c2 := S3.out.cells.c2
      by_cases h3 : 3 < S.init.length
      · have HD := Lib.hid (show checkV S = (2, t_init) by unfold checkV; rw [if_neg (show ¬ isName S.name = false by rw [HNAME.out]; simp), if_neg HLAB.out, if_pos h3])
        have h3' : 3 < (S.init.length : Int) := by omega
        go_wp2
        go_ret2
        exact ⟨ret_two HD.out rfl rfl, HBB.out ▸ B3.out⟩
      · have HI3 := Lib.hid h3
        have h3' : ¬ 3 < (S.init.length : Int) := by omega
        go_wp2_with fail
        go_loopw [6, 7] (fun v i wr => ∃ k : Nat, k ≤ S.init.length ∧ i = .int .i64 k ∧ Hid (∃ L, Gathered 105 w1 wr v L ∧ L.map (·.x) = S.init.take k) ∧ Hid (CHere t_init true [] S.init k)) (fun _ i _ => S.init.length - (RowKit.intOf i).toNat)
        case atStart => exact ⟨0, Nat.zero_le _, rfl, ⟨[], Gathered.nil _ W3.out, rfl⟩, chere_zero _ _ _ _⟩
        case round =>
          obtain ⟨k, hk, rfl, HG, HC⟩ := hrel
          obtain ⟨L, hG, hLl⟩ := HG.out
          have HG' := Lib.hid hG
          have SBW := Lib.hid (SB.out.below hG.below)
          have d2 := SBW.out.cells.c2
          by_cases hlt : k < S.init.length
          · have hkn : (k : Int) < (S.init.length : Int) := by omega
            obtain ⟨A, cap, hv, hCt⟩ := hG.ctrs
            rw [hLl] at hv hCt
            obtain ⟨⟨x, P, c⟩, a, hx, hok, hIA, ha, hc⟩ := I1.out.init.held hlt
            have hc' := hc.keep (w' := wr) (by rw [add_block]; exact hG.below.block _ ha)
            simp only at hx hok hc'
            have HOK := Lib.hid hok
            have hlx := HL.out.2.2.1 x (hx ▸ List.getElem_mem hlt)
            have HX := Lib.hid hx
            obtain ⟨y0, y1, y2⟩ := hlx
            have HCt := Lib.hid hCt
            have hPn : Nums .i64 wr P x.ports := Nums.below hok.ports hG.below
            have hrun := one_ref x P c A cap (S.init.take k) true hok.fits y0 y1 y2 hok.room (by rw [List.length_take]; omega) wr hCt hPn
            have hsz := one_size x (S.init.take k) true (by omega)
            obtain ⟨l, hl⟩ : ∃ l, S.init.take k = l := ⟨_, rfl⟩
            rw [hl] at hrun hv hsz
            have HLL := Lib.hid hl
            have hll : L.length = l.length := by rw [← hl, ← hLl, List.length_map]
            have hl8 : l.length ≤ 8 := by rw [← hl, List.length_take]; omega
            have HLM := Lib.hid hLl
            have HCL := Lib.hid hc
            obtain ⟨f0, f1, f2, f3, f4, f5, f6, f7, f8, f9, f10, _⟩ := hc'
            subst hv
            subst hIA
            clear hG hLl hCt hPn hok hc hx hl HG
            go_wp2_with fail
            refine hrun.mono ?_
            rintro e w5 ⟨rfl, hb5⟩
            have G5 := Lib.hid (HG'.out.next hb5)
            obtain ⟨Y, hY⟩ : ∃ Y, oneV x l true = Y := ⟨_, rfl⟩
            rw [hY] at hsz ⊢
            have HY2 := Lib.hid hY
            obtain ⟨cc, qq⟩ := Y
            have hsz' : qq.size ≤ 40 := hsz
            clear hY hb5 hrun hsz f0 f1 f2 f3 f4 f5 f6 f7 f8 f9 f10 d2
            by_cases hz : cc = 0
            rotate_left
            · have hz' : (cc == 0) = false := by simpa using hz
              have HD := Lib.hid (show checkV S = (cc, atB t_init k ++ ⟨#[46]⟩ ++ qq) by
                have e : ctrsFrom t_init true 0 [] S.init = (cc, atB t_init k ++ ⟨#[46]⟩ ++ qq) := by
                  rw [chere_at HC.out hlt, List.nil_append, ← HX.out, HLL.out, HY2.out, if_pos (show cc ≠ 0 from hz)]
                unfold checkV
                rw [if_neg (show ¬ isName S.name = false by rw [HNAME.out]; simp), if_neg HLAB.out, if_neg HI3.out, e, if_pos (show cc ≠ 0 from hz)])
              clear hz
              go_wp2_with fail
              refine (at_any _ k (by decide) (by omega) w5).mono ?_
              rintro e w6 ⟨rfl, hb6⟩
              have asz := atB_size t_init k (by omega)
              obtain ⟨u, hu⟩ : ∃ u, atB t_init k = u := ⟨_, rfl⟩
              rw [show atB ⟨#[105, 110, 105, 116]⟩ k = u from hu]
              rw [hu] at asz
              have HU := Lib.hid hu
              have asz' : u.size ≤ 27 := asz
              have hadd1 : ∀ v, (Op.stringOp .add u ⟨#[46]⟩).run Tryz.prog v = .ok (.string (u ++ ⟨#[46]⟩)) v := fun v => run_string_add_sum v _ _ (by show _ + 1 ≤ _; omega)
              have hadd2 : ∀ v, (Op.stringOp .add (u ++ ⟨#[46]⟩) qq).run Tryz.prog v = .ok (.string (u ++ ⟨#[46]⟩ ++ qq)) v := fun v => run_string_add_sum v _ _ (by rw [ByteArray.size_append]; show _ + 1 + _ ≤ _; omega)
              have BB := Lib.hid (B1.out.trans ((G5.out.below.trans (hb6.mono G5.out.below.size)).mono B1.out.size))
              clear hb6 hu asz
              go_wp2
              go_ret2
              exact ⟨ret_two HD.out rfl (by rw [HU.out]), HBB.out ▸ BB.out⟩
            · subst hz
              have HNX := Lib.hid (show CHere t_init true [] S.init (k + 1) from chere_next HC.out hlt (by rw [List.nil_append, ← HX.out, HLL.out, HY2.out]))
              have HMX := Lib.hid (show (L ++ [(⟨x, P, c⟩ : Held)]).map (·.x) = S.init.take (k + 1) by
                rw [List.map_append, HLM.out, List.take_succ_eq_append_getElem hlt, ← HX.out]; rfl)
              have SB5 := Lib.hid (SB.out.below G5.out.below)
              have d2 := SB5.out.cells.c2
              obtain ⟨f0, f1, f2, f3, f4, f5, f6, f7, f8, f9, f10, _⟩ := HCL.out.keep (w' := w5) (by rw [add_block]; exact G5.out.below.block _ ha)
              obtain ⟨i0, hi0, hz0, hz1, hz2⟩ := info_parts info_ctr
              have HOWN := Lib.hid (G5.out.own.alloc (.cells #[.string x.name, .string x.image, .int .i64 x.rc, .int .i64 x.rm, .int .i64 x.rp, .int .i64 x.lc, .int .i64 x.lm, .int .i64 x.lp, .slice P x.ports.length c, .int .i64 x.ev, .int .i64 x.fl] 105))
              go_wp2_with (at_builtin; refine wpList_append_own _ rfl _ _ 33 rfl w1.heap.size 105 i0 _ 11 120 Tryz.underlying33 hi0 hz0 hz1 hz2 rfl (by decide) _ L.length (flat L) rfl HOWN.out ⟨w5.heap.size, 0, none⟩ 1 1 (Held.cells ⟨x, P, c⟩) rfl rfl ?c1 ?c2 ?c3 ?c4 ?c5 ?_)
              case c1 => exact (World.ownsRow_lit (base := 0) (size := 11) (e := 105) w5 (Held.cells ⟨x, P, c⟩).toArray 1 (Nat.zero_le _) (by decide) rfl).cells rfl
              case c2 =>
                intro u hu
                simp only [Held.cells, Ctr.cells, List.mem_cons, List.not_mem_nil, or_false] at hu
                rcases hu with rfl | rfl | rfl | rfl | rfl | rfl | rfl | rfl | rfl | rfl | rfl <;> rfl
              case c3 => unfold maxLen; omega
              case c4 => omega
              case c5 => have := G5.out.below.size; simp; omega
              intro v' w7 hown' hgrow _
              rw [← hll] at hown'
              have G7 := Lib.hid ((G5.out.next ((Below.refl _ _).alloc (Nat.le_refl _) _)).push HOK.out hown' hgrow)
              clear hown' hgrow HOWN f0 f1 f2 f3 f4 f5 f6 f7 f8 f9 f10 d2
              go_wp2
              go_roundw
              case rel => exact ⟨k + 1, by omega, by go_num, ⟨_, G7.out, HMX.out⟩, HNX.out⟩
              case measure => simp [RowKit.intOf]; omega
          · have hkn : ¬ (k : Int) < (S.init.length : Int) := by omega
            have HINIT := Lib.hid (chere_end HC.out (show S.init.length ≤ k by omega))
            have HLI := Lib.hid (show L.map (·.x) = S.init by rw [hLl, List.take_of_length_le (by omega)])
            have d3 := SBW.out.cells.c3
            have B4 := Lib.hid (B1.out.trans (hG.below.mono B1.out.size))
            clear hG hLl HG
            by_cases hm : S.main.length < 1 ∨ 4 < S.main.length
            · have HD := Lib.hid (show checkV S = (2, t_main) by
                unfold checkV
                rw [if_neg (show ¬ isName S.name = false by rw [HNAME.out]; simp), if_neg HLAB.out, if_neg HI3.out, HINIT.out, if_neg (show ¬ fine.1 ≠ 0 by decide), if_pos hm])
              by_cases hm1 : S.main.length < 1
              · have hm1' : (S.main.length : Int) < 1 := by omega
                clear hm
                go_wp2
                go_ret2
                exact ⟨ret_two HD.out rfl rfl, HBB.out ▸ B4.out⟩
              · have hm2 : 4 < (S.main.length : Int) := by omega
                have hm1' : ¬ (S.main.length : Int) < 1 := by omega
                clear hm
                go_wp2
                go_ret2
                exact ⟨ret_two HD.out rfl rfl, HBB.out ▸ B4.out⟩
            · have HM := Lib.hid hm
              have hm1' : ¬ (S.main.length : Int) < 1 := by omega
              have hm2' : ¬ 4 < (S.main.length : Int) := by omega
              clear hm
              go_wp2_with fail
              go_loopw [6, 8] (fun v i wr => ∃ k : Nat, k ≤ S.main.length ∧ i = .int .i64 k ∧ Hid (∃ L, Gathered 105 w1 wr v L ∧ L.map (·.x) = S.init ++ S.main.take k) ∧ Hid (CHere t_main false S.init S.main k)) (fun _ i _ => S.main.length - (RowKit.intOf i).toNat)
              case atStart => exact ⟨0, Nat.zero_le _, rfl, ⟨L, HG'.out, by rw [HLI.out]; simp⟩, chere_zero _ _ _ _⟩
              case round =>
                clear d2 d3 hkn HC hlt HLI HG' SBW B4 hk
                obtain ⟨k, hk, rfl, HG, HC⟩ := hrel
                obtain ⟨L, hG, hLl⟩ := HG.out
                have HG' := Lib.hid hG
                have SBW := Lib.hid (SB.out.below hG.below)
                have d3 := SBW.out.cells.c3
                by_cases hlt : k < S.main.length
                · have hkn : (k : Int) < (S.main.length : Int) := by omega
                  obtain ⟨A, cap, hv, hCt⟩ := hG.ctrs
                  rw [hLl] at hv hCt
                  obtain ⟨⟨x, P, c⟩, a, hx, hok, hMA, ha, hc⟩ := I1.out.main.held hlt
                  have hc' := hc.keep (w' := wr) (by rw [add_block]; exact hG.below.block _ ha)
                  simp only at hx hok hc'
                  have HOK := Lib.hid hok
                  have hlx := HL.out.2.2.2 x (hx ▸ List.getElem_mem hlt)
                  have HX := Lib.hid hx
                  obtain ⟨y0, y1, y2⟩ := hlx
                  have HCt := Lib.hid hCt
                  have hPn : Nums .i64 wr P x.ports := Nums.below hok.ports hG.below
                  have hrun := one_ref x P c A cap (S.init ++ S.main.take k) false hok.fits y0 y1 y2 hok.room (by rw [List.length_append, List.length_take]; omega) wr hCt hPn
                  have hsz := one_size x (S.init ++ S.main.take k) false (by omega)
                  obtain ⟨l, hl⟩ : ∃ l, S.init ++ S.main.take k = l := ⟨_, rfl⟩
                  rw [hl] at hrun hv hsz
                  have HLL := Lib.hid hl
                  have hll : L.length = l.length := by rw [← hl, ← hLl, List.length_map]
                  have hl8 : l.length ≤ 18 := by rw [← hl, List.length_append, List.length_take]; omega
                  have HLM := Lib.hid hLl
                  have HCL := Lib.hid hc
                  obtain ⟨f0, f1, f2, f3, f4, f5, f6, f7, f8, f9, f10, _⟩ := hc'
                  subst hv
                  subst hMA
                  clear hG hLl hCt hPn hok hc hx hl HG
                  go_wp2_with fail
                  refine hrun.mono ?_
                  rintro e w5 ⟨rfl, hb5⟩
                  have G5 := Lib.hid (HG'.out.next hb5)
                  obtain ⟨Y, hY⟩ : ∃ Y, oneV x l false = Y := ⟨_, rfl⟩
                  rw [hY] at hsz ⊢
                  have HY2 := Lib.hid hY
                  obtain ⟨cc, qq⟩ := Y
                  have hsz' : qq.size ≤ 40 := hsz
                  clear hY hb5 hrun hsz f0 f1 f2 f3 f4 f5 f6 f7 f8 f9 f10 d3
                  by_cases hz : cc = 0
                  rotate_left
                  · have hz' : (cc == 0) = false := by simpa using hz
                    have HD := Lib.hid (show checkV S = (cc, atB t_main k ++ ⟨#[46]⟩ ++ qq) by
                      have e : ctrsFrom t_main false 0 S.init S.main = (cc, atB t_main k ++ ⟨#[46]⟩ ++ qq) := by
                        rw [chere_at HC.out hlt, ← HX.out, HLL.out, HY2.out, if_pos (show cc ≠ 0 from hz)]
                      unfold checkV
                      rw [if_neg (show ¬ isName S.name = false by rw [HNAME.out]; simp), if_neg HLAB.out, if_neg HI3.out, HINIT.out, if_neg (show ¬ fine.1 ≠ 0 by decide), if_neg HM.out, e, if_pos (show cc ≠ 0 from hz)])
                    clear hz
                    go_wp2_with fail
                    refine (at_any _ k (by decide) (by omega) w5).mono ?_
                    rintro e w6 ⟨rfl, hb6⟩
                    have asz := atB_size t_main k (by omega)
                    obtain ⟨u, hu⟩ : ∃ u, atB t_main k = u := ⟨_, rfl⟩
                    rw [show atB ⟨#[109, 97, 105, 110]⟩ k = u from hu]
                    rw [hu] at asz
                    have HU := Lib.hid hu
                    have asz' : u.size ≤ 27 := asz
                    have hadd1 : ∀ v, (Op.stringOp .add u ⟨#[46]⟩).run Tryz.prog v = .ok (.string (u ++ ⟨#[46]⟩)) v := fun v => run_string_add_sum v _ _ (by show _ + 1 ≤ _; omega)
                    have hadd2 : ∀ v, (Op.stringOp .add (u ++ ⟨#[46]⟩) qq).run Tryz.prog v = .ok (.string (u ++ ⟨#[46]⟩ ++ qq)) v := fun v => run_string_add_sum v _ _ (by rw [ByteArray.size_append]; show _ + 1 + _ ≤ _; omega)
                    have BB := Lib.hid (B1.out.trans ((G5.out.below.trans (hb6.mono G5.out.below.size)).mono B1.out.size))
                    clear hb6 hu asz
                    go_wp2
                    go_ret2
                    exact ⟨ret_two HD.out rfl (by rw [HU.out]), HBB.out ▸ BB.out⟩
                  · subst hz
                    have HNX := Lib.hid (show CHere t_main false S.init S.main (k + 1) from chere_next HC.out hlt (by rw [← HX.out, HLL.out, HY2.out]))
                    have HMX := Lib.hid (show (L ++ [(⟨x, P, c⟩ : Held)]).map (·.x) = S.init ++ S.main.take (k + 1) by
                      rw [List.map_append, HLM.out, List.take_succ_eq_append_getElem hlt, ← HX.out, List.append_assoc]; rfl)
                    have SB5 := Lib.hid (SB.out.below G5.out.below)
                    have d3 := SB5.out.cells.c3
                    obtain ⟨f0, f1, f2, f3, f4, f5, f6, f7, f8, f9, f10, _⟩ := HCL.out.keep (w' := w5) (by rw [add_block]; exact G5.out.below.block _ ha)
                    obtain ⟨i0, hi0, hz0, hz1, hz2⟩ := info_parts info_ctr
                    have HOWN := Lib.hid (G5.out.own.alloc (.cells #[.string x.name, .string x.image, .int .i64 x.rc, .int .i64 x.rm, .int .i64 x.rp, .int .i64 x.lc, .int .i64 x.lm, .int .i64 x.lp, .slice P x.ports.length c, .int .i64 x.ev, .int .i64 x.fl] 105))
                    go_wp2_with (at_builtin; refine wpList_append_own _ rfl _ _ 33 rfl w1.heap.size 105 i0 _ 11 120 Tryz.underlying33 hi0 hz0 hz1 hz2 rfl (by decide) _ L.length (flat L) rfl HOWN.out ⟨w5.heap.size, 0, none⟩ 1 1 (Held.cells ⟨x, P, c⟩) rfl rfl ?c1 ?c2 ?c3 ?c4 ?c5 ?_)
                    case c1 => exact (World.ownsRow_lit (base := 0) (size := 11) (e := 105) w5 (Held.cells ⟨x, P, c⟩).toArray 1 (Nat.zero_le _) (by decide) rfl).cells rfl
                    case c2 =>
                      intro u hu
                      simp only [Held.cells, Ctr.cells, List.mem_cons, List.not_mem_nil, or_false] at hu
                      rcases hu with rfl | rfl | rfl | rfl | rfl | rfl | rfl | rfl | rfl | rfl | rfl <;> rfl
                    case c3 => unfold maxLen; omega
                    case c4 => omega
                    case c5 => have := G5.out.below.size; simp; omega
                    intro v' w7 hown' hgrow _
                    rw [← hll] at hown'
                    have G7 := Lib.hid ((G5.out.next ((Below.refl _ _).alloc (Nat.le_refl _) _)).push HOK.out hown' hgrow)
                    clear hown' hgrow HOWN f0 f1 f2 f3 f4 f5 f6 f7 f8 f9 f10 d3
                    go_wp2
                    go_roundw
                    case rel => exact ⟨k + 1, by omega, by go_num, ⟨_, G7.out, HMX.out⟩, HNX.out⟩
                    case measure => simp [RowKit.intOf]; omega
                · have hkn : ¬ (k : Int) < (S.main.length : Int) := by omega
                  have HT := Lib.hid (show checkV S = tailV S by
                    unfold checkV
                    rw [if_neg (show ¬ isName S.name = false by rw [HNAME.out]; simp), if_neg HLAB.out, if_neg HI3.out, HINIT.out, if_neg (show ¬ fine.1 ≠ 0 by decide), if_neg HM.out, chere_end HC.out (by omega), if_neg (show ¬ fine.1 ≠ 0 by decide)])
                  have d4 := SBW.out.cells.c4
                  have d5 := SBW.out.cells.c5
                  have d6 := SBW.out.cells.c6
                  have B7 := Lib.hid (B1.out.trans (hG.below.mono B1.out.size))
                  obtain ⟨r, hr⟩ : ∃ r, S.restart = r := ⟨_, rfl⟩
                  obtain ⟨g, hg⟩ : ∃ g, S.grace = g := ⟨_, rfl⟩
                  obtain ⟨q, hq⟩ : ∃ q, S.prio = q := ⟨_, rfl⟩
                  rw [hr] at d4
                  rw [hg] at d5
                  rw [hq] at d6
                  have HU := Lib.hid (show tailV S = if r < 1 ∨ 3 < r then (1, t_restart) else if g < 0 ∨ 1000 < g then (1, t_grace) else if q < 0 ∨ 10 < q then (1, t_prio) else fine by unfold tailV; rw [hr, hg, hq])
                  clear hr hg hq hG hLl HG
                  by_cases h1 : r < 1
                  · have HD := Lib.hid (show checkV S = (1, t_restart) by rw [HT.out, HU.out, if_pos (.inl h1)])
                    go_wp2
                    go_ret2
                    exact ⟨ret_two HD.out rfl rfl, HBB.out ▸ B7.out⟩
                  · by_cases h2 : 3 < r
                    · have HD := Lib.hid (show checkV S = (1, t_restart) by rw [HT.out, HU.out, if_pos (.inr h2)])
                      go_wp2
                      go_ret2
                      exact ⟨ret_two HD.out rfl rfl, HBB.out ▸ B7.out⟩
                    · by_cases h4 : g < 0
                      · have HD := Lib.hid (show checkV S = (1, t_grace) by rw [HT.out, HU.out, if_neg (by omega), if_pos (.inl h4)])
                        go_wp2
                        go_ret2
                        exact ⟨ret_two HD.out rfl rfl, HBB.out ▸ B7.out⟩
                      · by_cases h5 : 1000 < g
                        · have HD := Lib.hid (show checkV S = (1, t_grace) by rw [HT.out, HU.out, if_neg (by omega), if_pos (.inr h5)])
                          go_wp2
                          go_ret2
                          exact ⟨ret_two HD.out rfl rfl, HBB.out ▸ B7.out⟩
                        · by_cases h6 : q < 0
                          · have HD := Lib.hid (show checkV S = (1, t_prio) by rw [HT.out, HU.out, if_neg (by omega), if_neg (by omega), if_pos (.inl h6)])
                            go_wp2
                            go_ret2
                            exact ⟨ret_two HD.out rfl rfl, HBB.out ▸ B7.out⟩
                          · by_cases h7 : 10 < q
                            · have HD := Lib.hid (show checkV S = (1, t_prio) by rw [HT.out, HU.out, if_neg (by omega), if_neg (by omega), if_pos (.inr h7)])
                              go_wp2
                              go_ret2
                              exact ⟨ret_two HD.out rfl rfl, HBB.out ▸ B7.out⟩
                            · have HD := Lib.hid (show checkV S = fine by rw [HT.out, HU.out, if_neg (by omega), if_neg (by omega), if_neg (by omega)])
                              go_wp2
                              go_ret2
                              exact ⟨ret_two HD.out rfl rfl, HBB.out ▸ B7.out⟩
end SpecRef
end Go.Proofs.YtbichomjpmmjmaaGreatDoor

/-
  What is taken, in memory: a box of two slices, each with a row of its own behind the box; what a call that adds to it leaves as it was; an addition. No condition.
-/
namespace Go.Proofs.YtbichomjpmmjmaaGreatDoor
open Go.ChangeShapes Go.WideShapes Go.ChangeAt Go.RowKit Go.Lib
open Sd Lists
namespace SpecOwn
theorem two_cells {w : World} {g : Nat} {u v : Value} {t : TypeId} (h : w.heap[g]? = some (.cells #[u, v] t (0, 0))) :
    w.cell? ⟨g, 0, none⟩ = some u ∧ w.cell? ⟨g, 1, none⟩ = some v ∧ w.frozen? ⟨g, 0, none⟩ = false ∧ w.frozen? ⟨g, 1, none⟩ = false :=
  ⟨by simp [World.cell?, h], by simp [World.cell?, h], by simp [World.frozen?, h], by simp [World.frozen?, h]⟩
theorem two_set0 {w : World} {g : Nat} {u v : Value} {t : TypeId} (h : w.heap[g]? = some (.cells #[u, v] t (0, 0))) (x : Value) : (w.setCell ⟨g, 0, none⟩ x).heap[g]? = some (.cells #[x, v] t (0, 0)) := by
  simpa using heap_setCell_same w g 0 _ _ x h
theorem two_set1 {w : World} {g : Nat} {u v : Value} {t : TypeId} (h : w.heap[g]? = some (.cells #[u, v] t (0, 0))) (x : Value) : (w.setCell ⟨g, 1, none⟩ x).heap[g]? = some (.cells #[u, x] t (0, 0)) := by
  simpa using heap_setCell_same w g 1 _ _ x h
theorem lt_of_block {w : World} {g : Nat} {o : Obj} (h : w.heap[g]? = some o) : g < w.heap.size := by
  rcases Nat.lt_or_ge g w.heap.size with hl | hl
  · exact hl
  · rw [Array.getElem?_eq_none hl] at h; cases h
theorem owns_of {w w' : World} {base : Nat} {e : TypeId} {size n : Nat} {v : Value} {xs : List Value} (h : w.ownsRow base e size v n xs) (hk : ∀ r, v.ownBlock = some r → w'.heap[r]? = w.heap[r]?) : w'.ownsRow base e size v n xs := by
  refine ⟨h.1, ?_⟩
  rcases h.2 with h0 | ⟨g, cap, cur, rfl, h1, h2, h3⟩
  · exact .inl h0
  · exact .inr ⟨g, cap, cur, rfl, h1, (hk g rfl).trans h2, h3⟩
/-- a block of a slice in the box g -/
def InRow (g : Nat) (w : World) (b : Nat) : Prop := ∃ i a n c, w.cell? ⟨g, i, none⟩ = some (.slice (some a) n c) ∧ a.block = b
structure Ok (g : Nat) (w : World) : Prop where
  lt : g < w.heap.size
  rows : ∀ b, InRow g w b → b < w.heap.size
/-- a block that is neither the box nor one of its rows -/
def Off (g : Nat) (w : World) (b : Nat) : Prop := b < w.heap.size ∧ b ≠ g ∧ ¬ InRow g w b
/-- what was there is as it was, but the box g and its rows -/
structure Av (g : Nat) (w w' : World) : Prop where
  os : w'.os = w.os
  tape : w'.tape = w.tape
  output : w'.output = w.output
  size : w.heap.size ≤ w'.heap.size
  low : ∀ k, k < g → k < w.heap.size → w'.heap[k]? = w.heap[k]?
  ok : Ok g w → Ok g w' ∧ ∀ b, Off g w b → Off g w' b ∧ w'.heap[b]? = w.heap[b]?
theorem Av.refl (g : Nat) (w : World) : Av g w w := ⟨rfl, rfl, rfl, Nat.le_refl _, fun _ _ _ => rfl, fun h => ⟨h, fun _ hb => ⟨hb, rfl⟩⟩⟩
theorem Av.trans {g : Nat} {a b c : World} (h : Av g a b) (k : Av g b c) : Av g a c :=
  ⟨k.os.trans h.os, k.tape.trans h.tape, k.output.trans h.output, Nat.le_trans h.size k.size, fun i hi hl => (k.low i hi (Nat.lt_of_lt_of_le hl h.size)).trans (h.low i hi hl), fun hok => ⟨(k.ok (h.ok hok).1).1, fun b hb => by
    obtain ⟨h1, h2⟩ := (h.ok hok).2 b hb
    obtain ⟨h3, h4⟩ := (k.ok (h.ok hok).1).2 b h1
    exact ⟨h3, h4.trans h2⟩⟩⟩
theorem InRow.of_same {g : Nat} {w w' : World} (h : w'.heap[g]? = w.heap[g]?) {b : Nat} (hb : InRow g w' b) : InRow g w b := by
  obtain ⟨i, a, n, c, h1, h2⟩ := hb
  exact ⟨i, a, n, c, (World.cell?_of_block (w := w) (w' := w') (a := ⟨g, i, none⟩) h).symm.trans h1, h2⟩
theorem Av.of_any {g : Nat} {w w' : World} (hb : Below w.heap.size w w') : Av g w w' :=
  ⟨hb.os, hb.tape, hb.output, hb.size, fun k _ hl => hb.block k hl, fun hok => ⟨⟨Nat.lt_of_lt_of_le hok.lt hb.size, fun b h => Nat.lt_of_lt_of_le (hok.rows b (h.of_same (hb.block g hok.lt))) hb.size⟩,
    fun b h => ⟨⟨Nat.lt_of_lt_of_le h.1 hb.size, h.2.1, fun hr => h.2.2 (hr.of_same (hb.block g hok.lt))⟩, hb.block b h.1⟩⟩⟩
theorem Av.of_below {g : Nat} {w w' : World} (hb : Below w.heap.size w w') (_ : g < w.heap.size) : Av g w w' := .of_any hb
/-- what is made new is none of the rows -/
theorem Ok.fresh {g : Nat} {w w' : World} (h : Ok g w) (hb : Below w.heap.size w w') {b : Nat} (h1 : w.heap.size ≤ b) (h2 : b < w'.heap.size) : Off g w' b :=
  ⟨h2, fun e => by have := h.lt; omega, fun hr => by have := h.rows b (hr.of_same (hb.block g h.lt)); omega⟩
/-- what is taken: the names N, the ports P -/
structure TkV (w : World) (g : Nat) (A : Option Addr) (c : Nat) (B : Option Addr) (d : Nat) (N : List ByteArray) (P : List Int) : Prop where
  box : w.heap[g]? = some (.cells #[.slice A N.length c, .slice B P.length d] 120 (0, 0))
  names : w.ownsRow (g + 1) 9 1 (.slice A N.length c) N.length (N.map Value.string)
  ports : w.ownsRow (g + 1) 3 1 (.slice B P.length d) P.length (P.map (Value.int .i64))
def Tk (w : World) (g : Nat) (N : List ByteArray) (P : List Int) : Prop := ∃ A c B d, TkV w g A c B d N P
theorem TkV.lt {w : World} {g : Nat} {A : Option Addr} {c : Nat} {B : Option Addr} {d : Nat} {N : List ByteArray} {P : List Int} (h : TkV w g A c B d N P) : g < w.heap.size := lt_of_block h.box
theorem TkV.ok {w : World} {g : Nat} {A : Option Addr} {c : Nat} {B : Option Addr} {d : Nat} {N : List ByteArray} {P : List Int} (h : TkV w g A c B d N P) : Ok g w := by
  refine ⟨h.lt, ?_⟩
  rintro b ⟨i, a, n, k, h1, rfl⟩
  obtain ⟨c0, c1, _, _⟩ := two_cells h.box
  rcases i with _ | _ | i
  · have e := Option.some.inj (c0.symm.trans h1)
    exact (h.names.lt a.block (by rw [e]; rfl)).2
  · have e := Option.some.inj (c1.symm.trans h1)
    exact (h.ports.lt a.block (by rw [e]; rfl)).2
  · simp [World.cell?, h.box] at h1
theorem TkV.keep {w w' : World} {g : Nat} {A : Option Addr} {c : Nat} {B : Option Addr} {d : Nat} {N : List ByteArray} {P : List Int} (h : TkV w g A c B d N P) (hb : Below w.heap.size w w') : TkV w' g A c B d N P :=
  ⟨(hb.block g h.lt).trans h.box, owns_of h.names fun r hr => hb.block r (h.names.lt r hr).2, owns_of h.ports fun r hr => hb.block r (h.ports.lt r hr).2⟩
theorem Tk.keep {w w' : World} {g : Nat} {N : List ByteArray} {P : List Int} (h : Tk w g N P) (hb : Below w.heap.size w w') : Tk w' g N P := by
  obtain ⟨A, c, B, d, h⟩ := h
  exact ⟨A, c, B, d, h.keep hb⟩
theorem Tk.lt {w : World} {g : Nat} {N : List ByteArray} {P : List Int} (h : Tk w g N P) : g < w.heap.size := by
  obtain ⟨A, c, B, d, h⟩ := h
  exact h.lt
theorem Tk.ok {w : World} {g : Nat} {N : List ByteArray} {P : List Int} (h : Tk w g N P) : Ok g w := by
  obtain ⟨A, c, B, d, h⟩ := h
  exact h.ok
/-- the two rows are not one -/
theorem TkV.apart {w : World} {g : Nat} {A : Option Addr} {c : Nat} {B : Option Addr} {d : Nat} {N : List ByteArray} {P : List Int} (h : TkV w g A c B d N P) {r : Nat} (h1 : (Value.slice A N.length c).ownBlock = some r) (h2 : (Value.slice B P.length d).ownBlock = some r) : False := by
  rcases h.names.2 with ⟨e, _⟩ | ⟨g1, cap, cur, e, _, hh, _⟩
  · rw [e] at h1; cases h1
  · rcases h.ports.2 with ⟨e2, _⟩ | ⟨g2, cap2, cur2, e2, _, hh2, _⟩
    · rw [e2] at h2; cases h2
    · rw [e] at h1
      rw [e2] at h2
      obtain rfl : g1 = r := Option.some.inj h1
      obtain rfl : g2 = g1 := Option.some.inj h2
      rw [hh] at hh2
      injection hh2 with h3
      injection h3 with _ h4 _
      exact absurd h4 (by decide)
theorem own_form {w : World} {base : Nat} {t : TypeId} {size n : Nat} {v : Value} {xs : List Value} (h : w.ownsRow base t size v n xs) : ∃ A c, v = .slice A n c := by
  rcases h.2 with ⟨h1, h0⟩ | ⟨g, cap, cur, h1, _⟩
  · exact ⟨none, 0, by rw [h1, h0]⟩
  · exact ⟨_, _, h1⟩
/-- a name more -/
theorem TkV.push_name {w w2 : World} {g : Nat} {A : Option Addr} {c : Nat} {B : Option Addr} {d : Nat} {N : List ByteArray} {P : List Int} (h : TkV w g A c B d N P) (o : Obj) (s : ByteArray) (v' : Value)
    (hown : w2.ownsRow (g + 1) 9 1 v' (N.length + 1) (N.map Value.string ++ [.string s])) (hg : (w.alloc o).grownBy w2 (Value.slice A N.length c).ownBlock)
    (hloc : v'.ownBlock = (Value.slice A N.length c).ownBlock ∨ v'.ownBlock = some (w.heap.size + 1)) :
    Tk (w2.setCell ⟨g, 0, none⟩ v') g (N ++ [s]) P ∧ Av g w (w2.setCell ⟨g, 0, none⟩ v') := by
  have hb1 : Below w.heap.size w (w.alloc o) := (Below.refl _ _).alloc (Nat.le_refl _) _
  have h1 := h.keep hb1
  have hnew : w.heap.size + 1 = (w.alloc o).heap.size := by simp
  rw [hnew] at hloc
  clear hnew
  generalize hw1 : w.alloc o = w1 at *
  have hN : ∀ k, (Value.slice A N.length c).ownBlock = some k → g + 1 ≤ k ∧ k < w1.heap.size := fun k hk => h1.names.lt k hk
  have hgb : w2.heap[g]? = w1.heap[g]? := hg.block g h1.lt (fun e => by have := hN g e.symm; omega)
  have hbox2 : w2.heap[g]? = some (.cells #[.slice A N.length c, .slice B P.length d] 120 (0, 0)) := hgb.trans h1.box
  have hbox3 := two_set0 hbox2 v'
  have hoth : ∀ k, k ≠ g → (w2.setCell ⟨g, 0, none⟩ v').heap[k]? = w2.heap[k]? := fun k hk => Below.heap_setCell _ _ _ _ hk
  have hsz : (w2.setCell ⟨g, 0, none⟩ v').heap.size = w2.heap.size := by simp [World.setCell]
  obtain ⟨A', c', rfl⟩ := own_form hown
  have hpo : ∀ r, (Value.slice B P.length d).ownBlock = some r → w2.heap[r]? = w1.heap[r]? := fun r hr => hg.block r (h1.ports.lt r hr).2 (fun e => h1.apart e.symm hr)
  have hT : TkV (w2.setCell ⟨g, 0, none⟩ (.slice A' (N.length + 1) c')) g A' c' B d (N ++ [s]) P := by
    refine ⟨?_, ?_, ?_⟩
    · rw [List.length_append]; exact hbox3
    · rw [List.length_append, List.map_append]
      exact owns_of hown fun r hr => hoth r (by have := (hown.lt r hr).1; omega)
    · refine owns_of (owns_of h1.ports hpo) fun r hr => hoth r (by have := (h1.ports.lt r hr).1; omega)
  refine ⟨⟨_, _, _, _, hT⟩, hg.os.trans hb1.os, hg.tape.trans hb1.tape, hg.output.trans hb1.output, by rw [hsz]; exact Nat.le_trans hb1.size hg.size, fun k hk _ => ?_, fun hok => ⟨hT.ok, fun b hb => ?_⟩⟩
  · rw [hoth k (by omega), hg.block k (by have := h1.lt; omega) (fun e => by have := hN k e.symm; omega), hb1.block k (by have := h.lt; omega)]
  · obtain ⟨b1, b2, b3⟩ := hb
    obtain ⟨c0, c1, _, _⟩ := two_cells h.box
    have hne : some b ≠ (Value.slice A N.length c).ownBlock := fun e => by
      cases A with
      | none => cases e
      | some a => exact b3 ⟨0, a, _, _, c0, (Option.some.inj e).symm⟩
    have hne2 : some b ≠ (Value.slice B P.length d).ownBlock := fun e => by
      cases B with
      | none => cases e
      | some a => exact b3 ⟨1, a, _, _, c1, (Option.some.inj e).symm⟩
    refine ⟨⟨by rw [hsz]; have := hb1.size; have := hg.size; omega, b2, ?_⟩, ?_⟩
    · rintro ⟨i, a, n, k, e1, rfl⟩
      obtain ⟨d0, d1, _, _⟩ := two_cells hT.box
      simp only [List.length_append, List.length_singleton] at d0 d1
      rcases i with _ | _ | i
      · have e := Option.some.inj (d0.symm.trans e1)
        have e' : (Value.slice A' (N.length + 1) c').ownBlock = some a.block := congrArg Value.ownBlock e
        rcases hloc with hl | hl
        · exact hne (e'.symm.trans hl)
        · have := Option.some.inj (e'.symm.trans hl)
          have := hb1.size
          omega
      · have e := Option.some.inj (d1.symm.trans e1)
        exact hne2 (congrArg Value.ownBlock e).symm
      · simp [World.cell?, hT.box] at e1
    · rw [hoth b b2, hg.block b (by have := hb1.size; omega) hne, hb1.block b b1]
/-- a port more -/
theorem TkV.push_port {w w2 : World} {g : Nat} {A : Option Addr} {c : Nat} {B : Option Addr} {d : Nat} {N : List ByteArray} {P : List Int} (h : TkV w g A c B d N P) (o : Obj) (z : Int) (v' : Value)
    (hown : w2.ownsRow (g + 1) 3 1 v' (P.length + 1) (P.map (Value.int .i64) ++ [.int .i64 z])) (hg : (w.alloc o).grownBy w2 (Value.slice B P.length d).ownBlock)
    (hloc : v'.ownBlock = (Value.slice B P.length d).ownBlock ∨ v'.ownBlock = some (w.heap.size + 1)) :
    Tk (w2.setCell ⟨g, 1, none⟩ v') g N (P ++ [z]) ∧ Av g w (w2.setCell ⟨g, 1, none⟩ v') := by
  have hb1 : Below w.heap.size w (w.alloc o) := (Below.refl _ _).alloc (Nat.le_refl _) _
  have h1 := h.keep hb1
  have hnew : w.heap.size + 1 = (w.alloc o).heap.size := by simp
  rw [hnew] at hloc
  clear hnew
  generalize hw1 : w.alloc o = w1 at *
  have hN : ∀ k, (Value.slice B P.length d).ownBlock = some k → g + 1 ≤ k ∧ k < w1.heap.size := fun k hk => h1.ports.lt k hk
  have hgb : w2.heap[g]? = w1.heap[g]? := hg.block g h1.lt (fun e => by have := hN g e.symm; omega)
  have hbox2 : w2.heap[g]? = some (.cells #[.slice A N.length c, .slice B P.length d] 120 (0, 0)) := hgb.trans h1.box
  have hbox3 := two_set1 hbox2 v'
  have hoth : ∀ k, k ≠ g → (w2.setCell ⟨g, 1, none⟩ v').heap[k]? = w2.heap[k]? := fun k hk => Below.heap_setCell _ _ _ _ hk
  have hsz : (w2.setCell ⟨g, 1, none⟩ v').heap.size = w2.heap.size := by simp [World.setCell]
  obtain ⟨A', c', rfl⟩ := own_form hown
  have hpo : ∀ r, (Value.slice A N.length c).ownBlock = some r → w2.heap[r]? = w1.heap[r]? := fun r hr => hg.block r (h1.names.lt r hr).2 (fun e => h1.apart hr e.symm)
  have hT : TkV (w2.setCell ⟨g, 1, none⟩ (.slice A' (P.length + 1) c')) g A c A' c' N (P ++ [z]) := by
    refine ⟨?_, ?_, ?_⟩
    · rw [List.length_append]; exact hbox3
    · refine owns_of (owns_of h1.names hpo) fun r hr => hoth r (by have := (h1.names.lt r hr).1; omega)
    · rw [List.length_append, List.map_append]
      exact owns_of hown fun r hr => hoth r (by have := (hown.lt r hr).1; omega)
  refine ⟨⟨_, _, _, _, hT⟩, hg.os.trans hb1.os, hg.tape.trans hb1.tape, hg.output.trans hb1.output, by rw [hsz]; exact Nat.le_trans hb1.size hg.size, fun k hk _ => ?_, fun hok => ⟨hT.ok, fun b hb => ?_⟩⟩
  · rw [hoth k (by omega), hg.block k (by have := h1.lt; omega) (fun e => by have := hN k e.symm; omega), hb1.block k (by have := h.lt; omega)]
  · obtain ⟨b1, b2, b3⟩ := hb
    obtain ⟨c0, c1, _, _⟩ := two_cells h.box
    have hne : some b ≠ (Value.slice A N.length c).ownBlock := fun e => by
      cases A with
      | none => cases e
      | some a => exact b3 ⟨0, a, _, _, c0, (Option.some.inj e).symm⟩
    have hne2 : some b ≠ (Value.slice B P.length d).ownBlock := fun e => by
      cases B with
      | none => cases e
      | some a => exact b3 ⟨1, a, _, _, c1, (Option.some.inj e).symm⟩
    refine ⟨⟨by rw [hsz]; have := hb1.size; have := hg.size; omega, b2, ?_⟩, ?_⟩
    · rintro ⟨i, a, n, k, e1, rfl⟩
      obtain ⟨d0, d1, _, _⟩ := two_cells hT.box
      simp only [List.length_append, List.length_singleton] at d0 d1
      rcases i with _ | _ | i
      · have e := Option.some.inj (d0.symm.trans e1)
        exact hne (congrArg Value.ownBlock e).symm
      · have e := Option.some.inj (d1.symm.trans e1)
        have e' : (Value.slice A' (P.length + 1) c').ownBlock = some a.block := congrArg Value.ownBlock e
        rcases hloc with hl | hl
        · exact hne2 (e'.symm.trans hl)
        · have := Option.some.inj (e'.symm.trans hl)
          have := hb1.size
          omega
      · simp [World.cell?, hT.box] at e1
    · rw [hoth b b2, hg.block b (by have := hb1.size; omega) hne2, hb1.block b b1]
end SpecOwn
end Go.Proofs.YtbichomjpmmjmaaGreatDoor
