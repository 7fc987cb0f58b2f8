/-
  FrameStream: the texts of frames side by side are found, in order, however the stream is cut into pieces, and nothing is left. No condition.
-/
import Derived.Test.YtnbmfoidnnfpeaaFrameWorks
import Derived.Test.YtnbmfoidnnfpeaaFrameTexts
import Derived.Test.YtnbmfoidnnfpeaaLists
import Derived.Test.YtnbmfoidnnfpeaaBookCut
import Derived.Test.YtnbmfoidnnfpeaaAppendAny
import Derived.Laws.Concat
namespace Go.Proofs.Ytnbmfoidnnfpeaa
open Go.ChangeShapes Go.WideShapes Go.ChangeAt Go.RowKit Go.Lib
open FramePure
namespace FrameStreamWalk
open Spl Lists Book

/-- the texts, cut -/
def Tx (l : List ByteArray) : List (List UInt8) := l.map fun s => (cutB 400 s).data.toList
theorem Tx_len (l : List ByteArray) : (Tx l).length = l.length := by simp [Tx]
theorem Tx_le (l : List ByteArray) : ∀ t ∈ Tx l, t.length ≤ 400 := by
  intro t ht
  obtain ⟨s, _, rfl⟩ := List.mem_map.1 ht
  rw [Array.length_toList]
  exact cutB_size 400 s
theorem Tx_le2 (l : List ByteArray) : ∀ t ∈ Tx l, t.length ≤ 2048 := fun t ht => Nat.le_trans (Tx_le l t ht) (by decide)

/-- the frames of the first k texts -/
def allB (l : List ByteArray) (k : Nat) : ByteArray := ⟨(frs ((Tx l).take k)).toArray⟩
theorem allB_bytes (l : List ByteArray) (k : Nat) : (allB l k).data.toList = frs ((Tx l).take k) := rfl
theorem allB_size (l : List ByteArray) (k : Nat) (hl : l.length ≤ 12) : (allB l k).size ≤ 4824 := by
  have h := frs_len ((Tx l).take k) (fun t ht => Tx_le l t (List.mem_of_mem_take ht))
  have h2 : ((Tx l).take k).length ≤ 12 := by rw [List.length_take, Tx_len]; omega
  show (frs ((Tx l).take k)).toArray.size ≤ _
  rw [List.size_toArray]
  omega
theorem allB_next (l : List ByteArray) (k : Nat) (hk : k < l.length) : allB l k ++ frB (cutB 400 l[k]) = allB l (k + 1) := by
  apply ByteArray.ext
  apply Array.ext'
  have hk' : k < (Tx l).length := by rw [Tx_len]; exact hk
  have e : (Tx l)[k] = (cutB 400 l[k]).data.toList := by simp [Tx]
  simp only [allB, frB, ByteArray.data_append, Array.toList_append]
  rw [List.take_succ_eq_append_getElem hk', frs_snoc, e]

/-- the first loop's head -/
structure Put1 (w : World) (g : Nat) (wr : World) : Prop where
  sp : Sp wr g none false []
  below : Below w.heap.size w wr
  low : w.heap.size ≤ g

/-- the second loop's head: so many texts came; what is had and what comes yet are the frames of the others -/
structure Mid (w : World) (g : Nat) (l : List ByteArray) (wr : World) (r : Option Nat) (j : Nat) (xs : List UInt8) (z : ByteArray) (v : Value) : Prop where
  sp : Sp wr g r false xs
  split : xs ++ z.data.toList = frs ((Tx l).drop j)
  six : nextE false xs = 6
  row : wr.ownsRow w.heap.size 9 1 v ((Tx l).take j).length (((Tx l).take j).map txt)
  below : Below w.heap.size w wr
  low : w.heap.size ≤ g

/-- the third loop's head -/
structure Fin (w : World) (g : Nat) (l : List ByteArray) (wr : World) (r : Option Nat) (A : Option Addr) : Prop where
  sp : Sp wr g r false []
  txs : Texts wr A (l.map (cutB 400))
  below : Below w.heap.size w wr

theorem text_nil {z : ByteArray} (h : z.size = 0) : z.toList = [] := by
  rw [ByteArray.toList_eq]
  exact List.length_eq_zero_iff.1 (by rw [Array.length_toList]; exact h)
theorem text_some {z : ByteArray} (h : z.size ≠ 0) : z.toList.isEmpty = false := by
  rw [ByteArray.toList_eq]
  cases e : z.data.toList with
  | nil =>
    have := congrArg List.length e
    rw [Array.length_toList] at this
    exact absurd this h
  | cons x xs => rfl

theorem row_src {w : World} {base n : Nat} {e : TypeId} {v : Value} {xs : List Value} (h : w.ownsRow base e 1 v n xs) :
    ∃ A c, v = .slice A n c ∧ xs.length = n * 1 ∧ ((A = none ∧ n = 0 ∧ c = 0) ∨ ∃ ad, A = some ad ∧ ∀ j u, xs[j]? = some u → w.cell? (ad.add j) = some u) := by
  rcases h.2 with ⟨e1, e2⟩ | ⟨g, cap, cur, e1, h1⟩
  · exact ⟨none, 0, by rw [e1, e2], h.1, .inl ⟨rfl, e2, rfl⟩⟩
  · exact ⟨_, cap, e1, h.1, .inr ⟨_, rfl, by rw [e1] at h; exact h.cells (g := g) rfl⟩⟩

theorem Fin.below_keep {w wr w' : World} {g : Nat} {l : List ByteArray} {r : Option Nat} {A : Option Addr} (h : Fin w g l wr r A) (hb : Below wr.heap.size wr w') : Fin w g l w' r A :=
  ⟨h.sp.below hb, fun k x hk => by
    obtain ⟨a, e, h1, h2⟩ := h.txs k x hk
    exact ⟨a, e, Nat.lt_of_lt_of_le h1 hb.size, (hb.cell (p := a.add k) (by rw [add_block]; exact h1)).trans h2⟩, h.below.trans (hb.mono h.below.size)⟩

theorem text_data {z : ByteArray} (h : z.size = 0) : z.data.toList = [] := List.length_eq_zero_iff.1 (by rw [Array.length_toList]; exact h)

theorem fin_of {w wr : World} {g : Nat} {l : List ByteArray} {r : Option Nat} {xs : List UInt8} {v : Value} (hr : wr.ownsRow w.heap.size 9 1 v (Tx l).length ((Tx l).map txt)) (hs : Sp wr g r false xs) (hx : xs = []) (hb : Below w.heap.size w wr) :
    ∃ G c, v = .slice G (Tx l).length c ∧ Fin w g l wr r G := by
  subst hx
  obtain ⟨G, c, e, _, hc⟩ := row_src hr
  refine ⟨G, c, e, hs, fun k x hk => ?_, hb⟩
  have hkl : k < l.length := by
    have := (List.getElem?_eq_some_iff.1 hk).1
    rwa [List.length_map] at this
  rcases hc with ⟨_, h0, _⟩ | ⟨ad, e1, hc⟩
  · rw [Tx_len] at h0; omega
  · have h1 := hc k (.string x) (by
      rw [List.getElem?_map, List.getElem?_eq_getElem hkl] at hk
      injection hk with hk
      simp only [Tx, List.map_map, List.getElem?_map, List.getElem?_eq_getElem hkl, Option.map_some, Function.comp_apply, txt]
      rw [hk])
    have h2 := World.block_lt_of_cell? wr _ h1
    rw [add_block] at h2
    exact ⟨ad, e1, h2, h1⟩

theorem row_block {w : World} {base n : Nat} {e : TypeId} {v : Value} {xs : List Value} (h : w.ownsRow base e 1 v n xs) {q : Nat} (hq : v.ownBlock = some q) : ∃ cur, w.heap[q]? = some (.cells cur e (0, 0)) := by
  rcases h.2 with ⟨rfl, _⟩ | ⟨g, cap, cur, rfl, _, h1, _⟩
  · cases hq
  · injection hq with hq; subst hq; exact ⟨cur, h1⟩

/-- the list's block is none of the splitter's -/
theorem row_apart {w : World} {g base n : Nat} {r : Option Nat} {cl : Bool} {xs : List UInt8} {v : Value} {ys : List Value} (hs : Sp w g r cl xs) (hr : w.ownsRow base 9 1 v n ys) {q : Nat} (hq : v.ownBlock = some q) : q ≠ g ∧ some q ≠ r := by
  obtain ⟨cur, h1⟩ := row_block hr hq
  obtain ⟨_, _, A, cap, h2, h3, h4⟩ := hs
  constructor
  · rintro rfl
    rw [h1] at h2
    simp at h2
  · intro e
    obtain ⟨cur', h5⟩ := row_block h3 (h4.trans e.symm)
    rw [h1] at h5
    simp at h5

theorem row_turned {w w' : World} {g base n : Nat} {r : Option Nat} {cl : Bool} {xs : List UInt8} {v : Value} {ys : List Value} (hs : Sp w g r cl xs) (hr : w.ownsRow base 9 1 v n ys) (ht : Turned g r w w') : w'.ownsRow base 9 1 v n ys :=
  owns_of hr fun q hq => ht.block q (owns_lt hr hq).2 (row_apart hs hr hq).1 (row_apart hs hr hq).2

theorem sp_grown {w w' : World} {g base n : Nat} {r : Option Nat} {cl : Bool} {xs : List UInt8} {v : Value} {ys : List Value} (hs : Sp w g r cl xs) (hr : w.ownsRow base 9 1 v n ys) (hg : w.grownBy w' v.ownBlock) : Sp w' g r cl xs :=
  hs.keep (hg.block g hs.lt (fun e => (row_apart hs hr e.symm).1 rfl)) (fun q hq => hg.block q (hs.row hq).2 (fun e => (row_apart hs hr e.symm).2 hq.symm))

theorem ex_take (z : ByteArray) (m : Nat) : (z.extract 0 m).data.toList = z.data.toList.take m := by
  rw [ByteArray.data_extract, Array.toList_extract]
  simp [List.extract]
theorem ex_drop (z : ByteArray) (m : Nat) : (z.extract m z.size).data.toList = z.data.toList.drop m := by
  rw [ByteArray.data_extract, Array.toList_extract, List.extract_eq_take_drop, List.take_of_length_le (by rw [List.length_drop, Array.length_toList]; exact Nat.le_refl _)]

theorem ex_empty {z : ByteArray} {m : Nat} (h : z.size = m) : z.extract m z.size = ByteArray.empty := by
  apply ByteArray.ext
  apply Array.ext'
  rw [ex_drop, List.drop_eq_nil_of_le (by rw [Array.length_toList]; exact Nat.le_of_eq h)]
  rfl

theorem frs_few (l : List ByteArray) (j : Nat) (hl : l.length ≤ 12) : (frs ((Tx l).drop j)).length ≤ 4824 := by
  have h := frs_len ((Tx l).drop j) (fun t ht => Tx_le l t (List.mem_of_mem_drop ht))
  have h2 : ((Tx l).drop j).length ≤ 12 := by rw [List.length_drop, Tx_len]; omega
  omega

theorem Mid.room {w wr : World} {g : Nat} {l : List ByteArray} {r : Option Nat} {j m : Nat} {xs : List UInt8} {z : ByteArray} {v : Value} (h : Mid w g l wr r j xs z v) (hl : l.length ≤ 12) : xs.length + (z.extract 0 m).size ≤ 8192 := by
  have h1 := frs_few l j hl
  rw [← h.split, List.length_append] at h1
  have h2 : z.data.toList.length = z.size := Array.length_toList
  rw [ByteArray.size_extract]
  omega

/-- behind the pieces of a round: the texts that came -/
structure Told (w : World) (g : Nat) (l : List ByteArray) (w5 : World) (r5 : Option Nat) (j j5 : Nat) (x5 : List UInt8) (z5 : ByteArray) (v : Value) (pre : List (List UInt8)) : Prop where
  came : (Tx l).take j ++ pre = (Tx l).take j5
  sp : Sp w5 g r5 false x5
  split : x5 ++ z5.data.toList = frs ((Tx l).drop j5)
  six : nextE false x5 = 6
  row : w5.ownsRow w.heap.size 9 1 v ((Tx l).take j).length (((Tx l).take j).map txt)
  below : Below w.heap.size w w5
  low : w.heap.size ≤ g

theorem Told.few {w w5 : World} {g : Nat} {l : List ByteArray} {r5 : Option Nat} {j j5 : Nat} {x5 : List UInt8} {z5 : ByteArray} {v : Value} {pre : List (List UInt8)} (h : Told w g l w5 r5 j j5 x5 z5 v pre) (hl : l.length ≤ 12) : pre.length ≤ 12 ∧ ((Tx l).take j).length ≤ 12 := by
  have h1 := congrArg List.length h.came
  rw [List.length_append, List.length_take, List.length_take, Tx_len] at h1
  rw [List.length_take, Tx_len]
  omega

theorem Mid.told {w wr w4 w5 : World} {g : Nat} {l : List ByteArray} {r r4 : Option Nat} {j m : Nat} {xs : List UInt8} {z : ByteArray} {v : Value} {pre : List (List UInt8)} (h : Mid w g l wr r j xs z v)
    (h4 : Sp w4 g r4 false (xs ++ (z.extract 0 m).data.toList)) (t4 : Turned g r wr w4) (s5 : Stop g r4 (xs ++ (z.extract 0 m).data.toList) pre w5) (t5 : Turned g r4 w4 w5) :
    ∃ j5 x5 r5, Told w g l w5 r5 j j5 x5 (z.extract m z.size) v pre := by
  obtain ⟨ys, r5, hcame, hne, hsp, _⟩ := s5
  have hall : (xs ++ (z.extract 0 m).data.toList) ++ (z.extract m z.size).data.toList = frs ((Tx l).drop j) := by
    rw [ex_take, ex_drop, List.append_assoc, List.take_append_drop, h.split]
  obtain ⟨j5, e1, e2, _⟩ := came_frs (Tx_le2 l) j hall hcame
  have h6 := (rest_frs (Tx_le2 l) e2 hne).1
  rw [(rest_state h6).1, (rest_state h6).2] at hsp
  have hb4 : Below w.heap.size w w4 := h.below.trans (t4.below h.below.size h.low (fun q hq => by have := (h.sp.row hq).1; have := h.low; omega))
  exact ⟨j5, ys, r5, e1, hsp, e2, h6, row_turned h4 (row_turned h.sp h.row t4) t5, hb4.trans (t5.below hb4.size h.low (fun q hq => by have := (h4.row hq).1; have := h.low; omega)), h.low⟩

theorem Told.next {w w5 w6 : World} {g : Nat} {l : List ByteArray} {r5 : Option Nat} {j j5 : Nat} {x5 : List UInt8} {z5 : ByteArray} {v v6 : Value} {pre : List (List UInt8)} (h : Told w g l w5 r5 j j5 x5 z5 v pre)
    {n : Nat} {ys : List Value} (hr : w6.ownsRow w.heap.size 9 1 v6 n ys) (hn : n = ((Tx l).take j).length + pre.length) (hy : ys = ((Tx l).take j).map txt ++ pre.map txt) (hg : w5.grownBy w6 v.ownBlock) : Mid w g l w6 r5 j5 x5 z5 v6 := by
  refine ⟨sp_grown h.sp h.row hg, h.split, h.six, ?_, h.below.grown hg h.below.size (fun q hq => (owns_lt h.row hq).1), h.low⟩
  rw [hn, hy, ← List.map_append, h.came, ← List.length_append, h.came] at hr
  exact hr

def mu (all i : Value) : Nat := match all with
  | .string s => if s.size = 0 then 0 else 62 - (intOf i).toNat
  | _ => 0

theorem mu_less {z : ByteArray} {m k : Nat} (hz : ¬ z.size = 0) (hk : k ≤ 61) (h : z.size - m ≠ 0 → k < 60) : mu (.string (z.extract m z.size)) (.int .i64 ((k : Int) + 1)) < mu (.string z) (.int .i64 k) := by
  simp only [mu, if_neg hz, intOf, ByteArray.size_extract]
  split
  · omega
  · have := h (by omega)
    omega

set_option maxRecDepth 100000 in
set_option maxHeartbeats 4000000 in
theorem law (A : Option Addr) (cap : Nat) (l : List ByteArray) (C : Option Addr) (ccap : Nat) (zs : List Int) (hlen : l.length ≤ 9223372036854775807) (hzl : zs.length ≤ 9223372036854775807) (w : World) (hT : Texts w A l) (hN : Nums .i64 w C zs) :
    Calls Try.prog 4 #[.slice A l.length cap, .slice C zs.length ccap] w fun e w' => e = .returned (.bool true) ∧ Below w.heap.size w w' := by
  have HT := Lib.hid hT
  have HN := Lib.hid hN
  have HZL := Lib.hid hzl
  clear hT hN hzl
  have hlen' : (l.length : Int) ≤ 9223372036854775807 := by omega
  clear hlen
  have hpn : ∀ (a : Addr) (v : World), (binOp BinOp.neq 31 (Value.pointer (some a)) (Value.pointer none)).run Try.prog v = .ok (.bool true) v := fun a v => by kernel_rfl
  by_cases h12 : 12 < l.length
  · go_enter Try.func4, Try.ntmps4
    go_wp2_with fail
    refine (works_any w).mono ?_
    rintro e w1 ⟨rfl, hb1⟩
    have B1 := Lib.hid hb1
    clear hb1
    go_wp2_with fail
    refine (new_any w1).mono ?_
    rintro e w2 ⟨rfl, _, hb2, _⟩
    have B2 := Lib.hid hb2
    clear hb2
    go_wp2_with fail
    go_ret
    exact ⟨rfl, B1.out.trans (B2.out.mono B1.out.size)⟩
  · have HL := Lib.hid (show l.length ≤ 12 by omega)
    have hl12 : ¬ (12 : Int) < (l.length : Int) := by omega
    clear h12 hlen'
    go_enter Try.func4, Try.ntmps4
    go_wp2_with fail
    refine (works_any w).mono ?_
    rintro e w1 ⟨rfl, hb1⟩
    have B1 := Lib.hid hb1
    clear hb1
    go_wp2_with fail
    refine (new_any w1).mono ?_
    rintro e w2 ⟨rfl, h2, hb2, z2⟩
    obtain ⟨g, hg⟩ : ∃ g, w1.heap.size = g := ⟨_, rfl⟩
    rw [hg] at h2 z2 ⊢
    have H0 := Lib.hid (show Put1 w g w2 from ⟨h2, B1.out.trans (hb2.mono B1.out.size), by rw [← hg]; exact B1.out.size⟩)
    clear h2 hb2 z2 hg B1 hpn
    go_wp2_with fail
    go_loopw [6, 28] (fun all i wr => ∃ k : Nat, k ≤ l.length ∧ i = .int .i64 k ∧ all = .string (allB l k) ∧ Hid (Put1 w g wr)) (fun _ i _ => l.length - (RowKit.intOf i).toNat)
    case atStart => exact ⟨0, Nat.zero_le _, rfl, rfl, H0.out⟩
    case round =>
      obtain ⟨k, hk, rfl, rfl, HA⟩ := hrel
      by_cases hlt : k < l.length
      · have hkn : (k : Int) < (l.length : Int) := by omega
        obtain ⟨a, rfl, ha, hc⟩ := HT.out.at hlt
        have hc' := (HA.out.below.cell (p := a.add k) (by rw [add_block]; exact ha)).trans hc
        clear hc ha
        have HNX := Lib.hid (allB_next l k hlt)
        obtain ⟨s, hs⟩ : ∃ s, l[k] = s := ⟨_, rfl⟩
        rw [hs] at hc' HNX
        clear hs
        go_wp2_with fail
        refine (cut_any s 400 (by decide) wr).mono ?_
        rintro e w3 ⟨rfl, rfl⟩
        go_wp2_with fail
        refine (put_any (cutB 400 s) (Nat.le_trans (cutB_size 400 s) (by decide)) wr).mono ?_
        rintro e w3 ⟨rfl, h3⟩
        have HA3 := Lib.hid (show Put1 w g w3 from ⟨HA.out.sp.below h3, HA.out.below.trans (h3.mono HA.out.below.size), HA.out.low⟩)
        have hadd : ∀ v, (Op.stringOp .add (allB l k) (frB (cutB 400 s))).run Try.prog v = .ok (.string (allB l (k + 1))) v := fun v => by
          rw [← HNX.out]
          refine run_string_add_sum v _ _ ?_
          have h1 := allB_size l k HL.out
          have h4 := cutB_size 400 s
          rw [frB_size]
          omega
        clear h3 hc'
        go_wp2
        go_roundw
        case rel => exact ⟨k + 1, by omega, by go_num, rfl, HA3.out⟩
        case measure => simp [RowKit.intOf]; omega
      · obtain rfl : k = l.length := by omega
        have H2 := Lib.hid (show Mid w g l wr none 0 [] (allB l l.length) (.slice none 0 0) from ⟨HA.out.sp, by rw [allB_bytes, List.take_of_length_le (by rw [Tx_len]; exact Nat.le_refl _)]; rfl, rfl, World.ownsRow_nil _ _ _ _, HA.out.below, HA.out.low⟩)
        clear hlt
        go_wp2_with fail
        go_loopw [6, 10, 11] (fun all got i wr => ∃ (k j : Nat) (r : Option Nat) (xs : List UInt8) (z : ByteArray), k ≤ 61 ∧ (z.size ≠ 0 → k ≤ 60) ∧ i = .int .i64 k ∧ all = .string z ∧ Hid (Mid w g l wr r j xs z got)) (fun all _ i _ => mu all i)
        case atStart => exact ⟨0, 0, none, [], _, by omega, fun _ => by omega, rfl, rfl, H2.out⟩
        case round =>
          obtain ⟨k, j, r, xs, z, hk, hkz, rfl, rfl, HM⟩ := hrel
          have HKZ := Lib.hid hkz
          clear hkz
          by_cases hz0 : z.size = 0
          · have hne := text_nil hz0
            have hrest := rest_frs (Tx_le2 l) HM.out.split (by rw [HM.out.six]; decide)
            have hend := hrest.2 (text_data hz0)
            have hrow := HM.out.row
            rw [hend.1] at hrow
            obtain ⟨G, gc, hG, hfin⟩ := fin_of hrow HM.out.sp hend.2 HM.out.below
            rw [Tx_len] at hG
            subst hG
            have HF := Lib.hid hfin
            clear hrest hend hrow hfin
            go_wp2_with fail
            go_loopw [83] (fun i wr => ∃ k : Nat, k ≤ l.length ∧ i = .int .i64 k ∧ Hid (Fin w g l wr r G)) (fun i _ => l.length - (RowKit.intOf i).toNat)
            case atStart => exact ⟨0, Nat.zero_le _, rfl, HF.out⟩
            case round =>
              obtain ⟨k, hk, rfl, HF⟩ := hrel
              by_cases hlt : k < l.length
              · have hkn : (k : Int) < (l.length : Int) := by omega
                obtain ⟨a, rfl, ha, hc⟩ := HT.out.at hlt
                have hc' := (HF.out.below.cell (p := a.add k) (by rw [add_block]; exact ha)).trans hc
                obtain ⟨b, rfl, hb, hd⟩ := HF.out.txs.at (k := k) (by rw [List.length_map]; exact hlt)
                rw [List.getElem_map] at hd
                clear hc ha hb
                obtain ⟨s, hs⟩ : ∃ s, l[k] = s := ⟨_, rfl⟩
                rw [hs] at hc' hd
                clear hs
                go_wp2_with fail
                go_quiet ((go_at_call 10; exact Calls.quiet_of_same ((cut_any s 400 (by decide) _).mono fun _ _ h => ⟨h.1, h.2.symm⟩)))
                go_wp2_with fail
                go_roundw
                case rel => exact ⟨k + 1, by omega, by go_num, HF.out.below_keep (Kit.below_drewN _ _ _)⟩
                case measure => simp [RowKit.intOf]; omega
              · obtain rfl : k = l.length := by omega
                clear hlt hk
                go_wp2_with fail
                refine (left_any g r false [] _ HF.out.sp).mono ?_
                rintro e w3 ⟨rfl, rfl⟩
                go_wp2_with fail
                refine (closed_any g r false [] _ HF.out.sp).mono ?_
                rintro e w3 ⟨rfl, rfl⟩
                go_wp2
                go_ret
                exact ⟨rfl, HF.out.below⟩
          · have hne := text_some hz0
            by_cases hin : k < zs.length ∧ k < 60
            · have hkl : (k : Int) < (zs.length : Int) := by omega
              have hk60 : (k : Int) < 60 := by omega
              obtain ⟨hwf, c, rfl, hc, hd⟩ := HN.out.at hin.1
              clear hwf
              have hd' := (HM.out.below.cell (p := c.add k) (by rw [add_block]; exact hc)).trans hd
              clear hc hd
              obtain ⟨x, hx⟩ : ∃ x, zs[k]'hin.1 = x := ⟨_, rfl⟩
              rw [hx] at hd'
              clear hx
              go_wp2_with fail
              refine (below_any x 50 (by decide) (by decide) wr).mono ?_
              rintro e w3 ⟨⟨b, hb, rfl⟩, rfl⟩
              clear hd'
              by_cases hbz : b ≤ z.size
              · obtain ⟨m, hm⟩ : ∃ m, b = m := ⟨_, rfl⟩
                subst hm
                have hmz : b ≤ z.size := hbz
                have HMK := Lib.hid (show z.size - b ≠ 0 → k < 60 from fun _ => hin.2)
                clear hbz hin hb
                go_wp2_with fail
                refine (feed_room g r xs (z.extract 0 b) (HM.out.room HL.out) wr HM.out.sp).mono ?_
                rintro e w4 ⟨rfl, r4, h4, hr4, t4⟩
                have H4 := Lib.hid h4
                have T4 := Lib.hid t4
                clear h4 t4 hr4
                go_wp2_with fail
                refine (texts_any g r4 _ w4 H4.out).mono ?_
                rintro e w5 ⟨v5, pre, rfl, h5, s5, t5⟩
                obtain ⟨A5, c5, rfl, hl5, hsrc5⟩ := row_src h5
                obtain ⟨j5, x5, r5, htold⟩ := HM.out.told H4.out T4.out s5 t5
                have TO := Lib.hid htold
                have hpl : pre.length ≤ 12 ∧ ((Tx l).take j).length ≤ 12 := TO.out.few HL.out
                have hbs : w.heap.size ≤ w5.heap.size := TO.out.below.size
                obtain ⟨i0, hi, hz0', hz1, hz2⟩ := info_parts info_text
                have h1c : ∀ u ∈ pre.map txt, u.oneCell' = true := by
                  intro u hu
                  obtain ⟨t, _, rfl⟩ := List.mem_map.1 hu
                  rfl
                have H1C := Lib.hid h1c
                have HSRC := Lib.hid hsrc5
                have HL5 := Lib.hid hl5
                have HI := Lib.hid hi
                have HZ0 := Lib.hid hz0'
                have HZ1 := Lib.hid hz1
                have HZ2 := Lib.hid hz2
                clear h1c hsrc5 hl5 hi hz0' hz1 hz2 htold h5 s5 t5
                go_wp2_with (at_builtin; refine AppendAny.wpList_append_want rfl _ _ 29 rfl w.heap.size 9 i0 (.string ⟨#[]⟩) 1 16 Try.underlying29 HI.out HZ0.out HZ1.out HZ2.out rfl (by decide) u10 _ _ rfl TO.out.row A5 pre.length c5 (pre.map txt) rfl HL5.out HSRC.out H1C.out (by unfold maxLen; omega) (by omega) hbs ?_)
                intro v6 w6 hown6 hgrow6
                have HM6 := Lib.hid (TO.out.next hown6 (by simp) (by simp) hgrow6)
                have HMU := Lib.hid (mu_less (m := b) (k := k) (z := z) hz0 (by omega) HMK.out)
                clear hown6 hgrow6 hpl
                go_wp2
                go_roundw
                case rel => exact ⟨k + 1, j5, r5, x5, _, by have := HKZ.out hz0; omega, fun h => by rw [ByteArray.size_extract] at h; have := HMK.out (by omega); omega, by go_num, rfl, HM6.out⟩
                case measure => exact HMU.out
              · obtain ⟨m, hzm⟩ : ∃ m, z.size = m := ⟨_, rfl⟩
                have HMK := Lib.hid (show z.size - m ≠ 0 → k < 60 from fun _ => hin.2)
                clear hin hb
                go_wp2_with fail
                refine (feed_room g r xs (z.extract 0 m) (HM.out.room HL.out) wr HM.out.sp).mono ?_
                rintro e w4 ⟨rfl, r4, h4, hr4, t4⟩
                have H4 := Lib.hid h4
                have T4 := Lib.hid t4
                clear h4 t4 hr4
                go_wp2_with fail
                refine (texts_any g r4 _ w4 H4.out).mono ?_
                rintro e w5 ⟨v5, pre, rfl, h5, s5, t5⟩
                obtain ⟨A5, c5, rfl, hl5, hsrc5⟩ := row_src h5
                obtain ⟨j5, x5, r5, htold⟩ := HM.out.told H4.out T4.out s5 t5
                have TO := Lib.hid htold
                have hpl : pre.length ≤ 12 ∧ ((Tx l).take j).length ≤ 12 := TO.out.few HL.out
                have hbs : w.heap.size ≤ w5.heap.size := TO.out.below.size
                obtain ⟨i0, hi, hz0', hz1, hz2⟩ := info_parts info_text
                have h1c : ∀ u ∈ pre.map txt, u.oneCell' = true := by
                  intro u hu
                  obtain ⟨t, _, rfl⟩ := List.mem_map.1 hu
                  rfl
                have H1C := Lib.hid h1c
                have HSRC := Lib.hid hsrc5
                have HL5 := Lib.hid hl5
                have HI := Lib.hid hi
                have HZ0 := Lib.hid hz0'
                have HZ1 := Lib.hid hz1
                have HZ2 := Lib.hid hz2
                clear h1c hsrc5 hl5 hi hz0' hz1 hz2 htold h5 s5 t5
                go_wp2_with (at_builtin; refine AppendAny.wpList_append_want rfl _ _ 29 rfl w.heap.size 9 i0 (.string ⟨#[]⟩) 1 16 Try.underlying29 HI.out HZ0.out HZ1.out HZ2.out rfl (by decide) u10 _ _ rfl TO.out.row A5 pre.length c5 (pre.map txt) rfl HL5.out HSRC.out H1C.out (by unfold maxLen; omega) (by omega) hbs ?_)
                intro v6 w6 hown6 hgrow6
                have HM6 := Lib.hid (TO.out.next hown6 (by simp) (by simp) hgrow6)
                have HMU := Lib.hid (mu_less (m := m) (k := k) (z := z) hz0 (by omega) HMK.out)
                rw [ex_empty hzm] at HM6 HMU
                clear hown6 hgrow6 hpl
                go_wp2
                go_roundw
                case rel => exact ⟨k + 1, j5, r5, x5, _, by have := HKZ.out hz0; omega, fun h => absurd rfl h, by go_num, rfl, HM6.out⟩
                case measure => exact HMU.out
            · obtain ⟨m, hzm⟩ : ∃ m, z.size = m := ⟨_, rfl⟩
              have HMK := Lib.hid (show z.size - m ≠ 0 → k < 60 from fun h => by omega)
              by_cases hkl : k < zs.length
              · have hkl' : (k : Int) < (zs.length : Int) := by omega
                have hk60 : ¬ (k : Int) < 60 := by omega
                clear hin hkl
                go_wp2_with fail
                refine (feed_room g r xs (z.extract 0 m) (HM.out.room HL.out) wr HM.out.sp).mono ?_
                rintro e w4 ⟨rfl, r4, h4, hr4, t4⟩
                have H4 := Lib.hid h4
                have T4 := Lib.hid t4
                clear h4 t4 hr4
                go_wp2_with fail
                refine (texts_any g r4 _ w4 H4.out).mono ?_
                rintro e w5 ⟨v5, pre, rfl, h5, s5, t5⟩
                obtain ⟨A5, c5, rfl, hl5, hsrc5⟩ := row_src h5
                obtain ⟨j5, x5, r5, htold⟩ := HM.out.told H4.out T4.out s5 t5
                have TO := Lib.hid htold
                have hpl : pre.length ≤ 12 ∧ ((Tx l).take j).length ≤ 12 := TO.out.few HL.out
                have hbs : w.heap.size ≤ w5.heap.size := TO.out.below.size
                obtain ⟨i0, hi, hz0', hz1, hz2⟩ := info_parts info_text
                have h1c : ∀ u ∈ pre.map txt, u.oneCell' = true := by
                  intro u hu
                  obtain ⟨t, _, rfl⟩ := List.mem_map.1 hu
                  rfl
                have H1C := Lib.hid h1c
                have HSRC := Lib.hid hsrc5
                have HL5 := Lib.hid hl5
                have HI := Lib.hid hi
                have HZ0 := Lib.hid hz0'
                have HZ1 := Lib.hid hz1
                have HZ2 := Lib.hid hz2
                clear h1c hsrc5 hl5 hi hz0' hz1 hz2 htold h5 s5 t5
                go_wp2_with (at_builtin; refine AppendAny.wpList_append_want rfl _ _ 29 rfl w.heap.size 9 i0 (.string ⟨#[]⟩) 1 16 Try.underlying29 HI.out HZ0.out HZ1.out HZ2.out rfl (by decide) u10 _ _ rfl TO.out.row A5 pre.length c5 (pre.map txt) rfl HL5.out HSRC.out H1C.out (by unfold maxLen; omega) (by omega) hbs ?_)
                intro v6 w6 hown6 hgrow6
                have HM6 := Lib.hid (TO.out.next hown6 (by simp) (by simp) hgrow6)
                have HMU := Lib.hid (mu_less (m := m) (k := k) (z := z) hz0 (by omega) HMK.out)
                rw [ex_empty hzm] at HM6 HMU
                clear hown6 hgrow6 hpl
                go_wp2
                go_roundw
                case rel => exact ⟨k + 1, j5, r5, x5, _, by have := HKZ.out hz0; omega, fun h => absurd rfl h, by go_num, rfl, HM6.out⟩
                case measure => exact HMU.out
              · have hkl' : ¬ (k : Int) < (zs.length : Int) := by omega
                clear hin hkl
                go_wp2_with fail
                refine (feed_room g r xs (z.extract 0 m) (HM.out.room HL.out) wr HM.out.sp).mono ?_
                rintro e w4 ⟨rfl, r4, h4, hr4, t4⟩
                have H4 := Lib.hid h4
                have T4 := Lib.hid t4
                clear h4 t4 hr4
                go_wp2_with fail
                refine (texts_any g r4 _ w4 H4.out).mono ?_
                rintro e w5 ⟨v5, pre, rfl, h5, s5, t5⟩
                obtain ⟨A5, c5, rfl, hl5, hsrc5⟩ := row_src h5
                obtain ⟨j5, x5, r5, htold⟩ := HM.out.told H4.out T4.out s5 t5
                have TO := Lib.hid htold
                have hpl : pre.length ≤ 12 ∧ ((Tx l).take j).length ≤ 12 := TO.out.few HL.out
                have hbs : w.heap.size ≤ w5.heap.size := TO.out.below.size
                obtain ⟨i0, hi, hz0', hz1, hz2⟩ := info_parts info_text
                have h1c : ∀ u ∈ pre.map txt, u.oneCell' = true := by
                  intro u hu
                  obtain ⟨t, _, rfl⟩ := List.mem_map.1 hu
                  rfl
                have H1C := Lib.hid h1c
                have HSRC := Lib.hid hsrc5
                have HL5 := Lib.hid hl5
                have HI := Lib.hid hi
                have HZ0 := Lib.hid hz0'
                have HZ1 := Lib.hid hz1
                have HZ2 := Lib.hid hz2
                clear h1c hsrc5 hl5 hi hz0' hz1 hz2 htold h5 s5 t5
                go_wp2_with (at_builtin; refine AppendAny.wpList_append_want rfl _ _ 29 rfl w.heap.size 9 i0 (.string ⟨#[]⟩) 1 16 Try.underlying29 HI.out HZ0.out HZ1.out HZ2.out rfl (by decide) u10 _ _ rfl TO.out.row A5 pre.length c5 (pre.map txt) rfl HL5.out HSRC.out H1C.out (by unfold maxLen; omega) (by omega) hbs ?_)
                intro v6 w6 hown6 hgrow6
                have HM6 := Lib.hid (TO.out.next hown6 (by simp) (by simp) hgrow6)
                have HMU := Lib.hid (mu_less (m := m) (k := k) (z := z) hz0 (by omega) HMK.out)
                rw [ex_empty hzm] at HM6 HMU
                clear hown6 hgrow6 hpl
                go_wp2
                go_roundw
                case rel => exact ⟨k + 1, j5, r5, x5, _, by have := HKZ.out hz0; omega, fun h => absurd rfl h, by go_num, rfl, HM6.out⟩
                case measure => exact HMU.out
end FrameStreamWalk
end Go.Proofs.Ytnbmfoidnnfpeaa
