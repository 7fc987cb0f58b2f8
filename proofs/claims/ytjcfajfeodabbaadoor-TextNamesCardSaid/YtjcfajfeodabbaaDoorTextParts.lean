/-
  The contracts of package text's exported functions: each tells what the document's words say; all that was there is left as it was. Conditions: the table and internal/bytealg.MaxLen hold what they may (Laid); the text has at most 4294967280 bytes where it is cut.
-/
import Derived.Test.YtjcfajfeodabbaaDoorTextName
import Derived.Test.YtjcfajfeodabbaaDoorShelf
namespace Go.Proofs.YtjcfajfeodabbaaDoor
open Go.ChangeShapes Go.WideShapes Go.ChangeAt Go.RowKit
open TextPure
namespace Text

/-- the part ahead of the first c, and the part behind it -/
def fstB (s : ByteArray) (c : UInt8) : ByteArray := ⟨(Lib.cut s.data.toList [c]).1.toArray⟩
def sndB (s : ByteArray) (c : UInt8) : ByteArray := ⟨(Lib.cut s.data.toList [c]).2.1.toArray⟩
def hasB (s : ByteArray) (c : UInt8) : Bool := (Lib.cut s.data.toList [c]).2.2

theorem fstB_size (s : ByteArray) (c : UInt8) : (fstB s c).size ≤ s.size := by
  have := (cut_len c s.data.toList).1
  rw [size_list] at this
  show (Lib.cut s.data.toList [c]).1.toArray.size ≤ _
  simpa using this
theorem sndB_size (s : ByteArray) (c : UInt8) : (sndB s c).size ≤ s.size := by
  have := (cut_len c s.data.toList).2
  rw [size_list] at this
  show (Lib.cut s.data.toList [c]).2.1.toArray.size ≤ _
  simpa using this

theorem cut_any (s : ByteArray) (c : UInt8) (hs : s.size < 4294967281) (w : World) (hL : Laid w) :
    Calls Tryd.prog 30 #[.string s, .string ⟨#[c]⟩] w fun e w' => e = .returned (.tuple #[.string (fstB s c), .string (sndB s c), .bool (hasB s c)]) ∧ Below w.heap.size w w' := by
  obtain ⟨m, hm⟩ := hL.max
  refine (Any.strings_Cut Tryd.lays145 s ⟨#[c]⟩ m w hs hm).mono ?_
  rintro e w' ⟨rfl, n, rfl⟩
  exact ⟨rfl, Kit.below_drewN _ _ _⟩

theorem clone_any (s : ByteArray) (hs : s.size ≤ 281474976710656) (w : World) :
    Calls Tryd.prog 27 #[.string s] w fun e w' => e = .returned (.string s) ∧ Below w.heap.size w w' := by
  go_enter Tryd.func27, Tryd.ntmps27
  go_wp2_with fail
  refine (Any.stringslite_Clone Tryd.laysM316 s _ hs).mono ?_
  rintro e w' ⟨rfl, hb⟩
  go_wp2_with fail
  go_ret
  exact ⟨rfl, hb⟩

theorem keyL_eq (s : ByteArray) : keyL s.data.toList = (nameL (fstB s 47).data.toList && (!hasB s 47 || nameL (sndB s 47).data.toList)) := by
  unfold keyL fstB sndB hasB
  simp

set_option maxRecDepth 100000 in
theorem isKey_any (s : ByteArray) (hs : s.size < 4294967281) (w : World) (hL : Laid w) :
    Calls Tryd.prog 24 #[.string s] w fun e w' => e = .returned (.bool (keyL s.data.toList)) ∧ Below w.heap.size w w' := by
  have HE := Lib.hid (keyL_eq s)
  have h1 := Lib.hid (show (fstB s 47).size ≤ maxLen by have := fstB_size s 47; unfold maxLen; omega)
  have h2 := Lib.hid (show (sndB s 47).size ≤ maxLen by have := sndB_size s 47; unfold maxLen; omega)
  have HL := Lib.hid hL
  clear hL
  go_enter Tryd.func24, Tryd.ntmps24
  go_wp2_with fail
  refine (cut_any s 47 hs _ HL.out).mono ?_
  rintro e w1 ⟨rfl, hb⟩
  have HB := Lib.hid hb
  have HL1 := Lib.hid (HL.out.below hb)
  clear hb HL
  go_wp2_with fail
  refine (isName_any (fstB s 47) h1.out _ HL1.out).mono ?_
  rintro e w' ⟨rfl, rfl⟩
  cases hn : nameL (fstB s 47).data.toList with
  | false =>
    go_wp2_with fail
    go_ret
    exact ⟨by rw [HE.out, hn]; rfl, HB.out⟩
  | true =>
    cases hh : hasB s 47 with
    | false =>
      go_wp2_with fail
      go_ret
      exact ⟨by rw [HE.out, hn, hh]; rfl, HB.out⟩
    | true =>
      go_wp2_with fail
      refine (isName_any (sndB s 47) h2.out _ HL1.out).mono ?_
      rintro e w' ⟨rfl, rfl⟩
      go_wp2_with fail
      go_ret
      exact ⟨by rw [HE.out, hn, hh]; rfl, HB.out⟩

theorem info_string' : (Tryd.prog.info? 9).map (fun i => (i.zero, i.size, i.bytes)) = some (some (.string ByteArray.empty), 1, 16) := by kernel_rfl

/-- the pieces as texts -/
def piecesB (s : ByteArray) (c : UInt8) : List ByteArray := (pieces c s.data.toList).map fun l => ⟨l.toArray⟩

theorem splitB_pieces (s : ByteArray) (c : UInt8) : Lib.splitB ⟨#[c]⟩ 0 (Lib.countB s ⟨#[c]⟩) s = piecesB s c := by
  have h := Lib.splitB_data ⟨#[c]⟩ 0 (Lib.countB s ⟨#[c]⟩) s
  have h2 : Lib.splitK [c] 0 (Lib.countB s ⟨#[c]⟩) s.data.toList = pieces c s.data.toList := splitK_pieces c s.data.toList
  unfold piecesB
  rw [← h2]
  have h3 : (⟨#[c]⟩ : ByteArray).data.toList = [c] := rfl
  rw [h3] at h
  rw [← h, List.map_map]
  have : ((fun l : List UInt8 => (⟨l.toArray⟩ : ByteArray)) ∘ fun x : ByteArray => x.data.toList) = id := by
    funext x
    cases x
    simp
  rw [this, List.map_id]

theorem piecesB_len (s : ByteArray) (c : UInt8) : (piecesB s c).length = Lib.countB s ⟨#[c]⟩ + 1 := by
  rw [← splitB_pieces]
  exact Lib.splitB_all ⟨#[c]⟩ (Nat.le_refl 1) 0 _ s rfl

theorem split_any (s : ByteArray) (c : UInt8) (hs : s.size < 4294967281) (w : World) (hL : Laid w) :
    Calls Tryd.prog 37 #[.string s, .string ⟨#[c]⟩] w fun e w' =>
      e = .returned (.slice (some ⟨w.heap.size, 0, none⟩) (piecesB s c).length (piecesB s c).length) ∧ w' = w.alloc (.cells ((piecesB s c).map Value.string).toArray 9) := by
  obtain ⟨m, hm⟩ := hL.max
  refine (Any.strings_Split Tryd.lays146 info_string' s ⟨#[c]⟩ m w hs hm (Nat.le_refl 1)).mono ?_
  rintro e w' ⟨rfl, rfl⟩
  rw [piecesB_len, splitB_pieces]
  exact ⟨rfl, rfl⟩

theorem pieces_each (c : UInt8) : ∀ (l p : List UInt8), p ∈ pieces c l → p.length ≤ l.length
  | [], p, h => by simp [pieces] at h; simp [h]
  | b :: l, p, h => by
    unfold pieces at h
    split at h
    · rcases List.mem_cons.1 h with rfl | h
      · simp
      · have := pieces_each c l p h; simp; omega
    · split at h
      · rename_i hx; exact absurd hx (pieces_ne c l)
      · rename_i q qs hq
        rcases List.mem_cons.1 h with rfl | h
        · have := pieces_each c l q (by rw [hq]; simp); simp; omega
        · have := pieces_each c l p (by rw [hq]; simp [h]); simp; omega
theorem piecesB_each {s : ByteArray} {c : UInt8} {x : ByteArray} (h : x ∈ piecesB s c) : x.size ≤ s.size := by
  obtain ⟨l, hl, rfl⟩ := List.mem_map.1 h
  have := pieces_each c _ l hl
  rw [size_list] at this
  show l.toArray.size ≤ _
  simpa using this
theorem pieces_count (c : UInt8) : ∀ l : List UInt8, (pieces c l).length ≤ l.length + 1
  | [] => by simp [pieces]
  | b :: l => by
    have := pieces_count c l
    unfold pieces
    split
    · simp; omega
    · split
      · simp
      · rename_i q qs hq; rw [hq] at this; simp at this ⊢; omega
theorem piecesB_count (s : ByteArray) (c : UInt8) : (piecesB s c).length ≤ s.size + 1 := by
  have := pieces_count c s.data.toList
  rw [size_list] at this
  unfold piecesB
  simpa using this

/-- is each of the texts a name? -/
def namesL (l : List ByteArray) : Bool := l.all fun x => nameL x.data.toList
theorem namesL_pieces (s : ByteArray) (c : UInt8) : namesL (piecesB s c) = (pieces c s.data.toList).all nameL := by
  unfold namesL piecesB
  rw [List.all_map]
  rfl
theorem namesL_no {l : List ByteArray} {k : Nat} (hk : k < l.length) (h : nameL l[k].data.toList = false) : namesL l = false := by
  cases hx : namesL l with
  | false => rfl
  | true => rw [List.all_eq_true.1 hx _ (List.getElem_mem hk)] at h; cases h
theorem namesL_yes {l : List ByteArray} (h : ∀ k (hk : k < l.length), nameL l[k].data.toList = true) : namesL l = true := by
  refine List.all_eq_true.2 fun x hx => ?_
  obtain ⟨k, hk, rfl⟩ := List.getElem_of_mem hx
  exact h k hk

theorem repoL_eq (s : ByteArray) : repoL s.data.toList = (decide (s.size ≤ 24) && namesL (piecesB s 47)) := by
  unfold repoL
  rw [size_list, namesL_pieces]

set_option maxRecDepth 100000 in
set_option maxHeartbeats 1000000 in
theorem isRepo_any (s : ByteArray) (hs : s.size < 4294967281) (w : World) (hL : Laid w) :
    Calls Tryd.prog 31 #[.string s] w fun e w' => e = .returned (.bool (repoL s.data.toList)) ∧ Below w.heap.size w w' := by
  have HE := Lib.hid (repoL_eq s)
  have HL := Lib.hid hL
  clear hL
  by_cases h24 : s.size ≤ 24
  · rw [decide_eq_true h24, Bool.true_and] at HE
    have hgt : ¬ (24 : Int) < s.size := by omega
    go_enter Tryd.func31, Tryd.ntmps31
    go_wp2_with fail
    refine (split_any s 47 hs _ HL.out).mono ?_
    rintro e w1 ⟨rfl, hw1⟩
    have hb1 : Below w.heap.size w w1 := by rw [hw1]; exact (Below.refl _ _).alloc (Nat.le_refl _) _
    have HL1 := Lib.hid (HL.out.below hb1)
    have HB1 := Lib.hid hb1
    have hcell : ∀ k (hk : k < (piecesB s 47).length), w1.cell? ⟨w.heap.size, k, none⟩ = some (.string (piecesB s 47)[k]) := by
      intro k hk
      rw [hw1]
      simp [hk]
    have HC := Lib.hid hcell
    have hP := piecesB_count s 47
    have HZ := Lib.hid (fun k (hk : k < (piecesB s 47).length) => piecesB_each (List.getElem_mem hk))
    clear hcell hb1 hw1 HL
    generalize piecesB s 47 = ps at *
    go_wp2_with fail
    go_loop [11] (fun i => ∃ k : Nat, k ≤ ps.length ∧ i = .int .i64 k ∧ Hid (∀ j (hj : j < ps.length), j < k → nameL ps[j].data.toList = true)) (fun i => ps.length - (intOf i).toNat)
    case atStart => exact ⟨0, by omega, rfl, fun j _ h => by omega⟩
    case round =>
      obtain ⟨k, hk, rfl, HA⟩ := hrel
      by_cases hlt : k < ps.length
      · have hc := HC.out k hlt
        have hz := HZ.out k hlt
        go_wp2_with fail
        refine (isName_any ps[k] (by unfold maxLen; omega) _ HL1.out).mono ?_
        rintro e w' ⟨rfl, rfl⟩
        cases hn : nameL ps[k].data.toList with
        | false =>
          go_wp2_with fail
          go_ret
          exact ⟨by rw [HE.out, namesL_no hlt hn]; rfl, HB1.out⟩
        | true =>
          go_wp2_with fail
          go_round
          case rel =>
            refine ⟨k + 1, by omega, by go_num, fun j hj hj' => ?_⟩
            by_cases e : j = k
            · subst e; exact hn
            · exact HA.out j hj (by omega)
          case measure => simp [intOf]; omega
      · obtain rfl : k = ps.length := by omega
        go_wp2_with fail
        go_ret
        exact ⟨by rw [HE.out, namesL_yes (fun j hj => HA.out j hj hj)]; rfl, HB1.out⟩
  · have hgt : (24 : Int) < s.size := by omega
    go_enter Tryd.func31, Tryd.ntmps31
    go_wp2_with fail
    go_ret
    exact ⟨by rw [HE.out, decide_eq_false h24]; rfl, Below.refl _ _⟩
end Text
end Go.Proofs.YtjcfajfeodabbaaDoor
