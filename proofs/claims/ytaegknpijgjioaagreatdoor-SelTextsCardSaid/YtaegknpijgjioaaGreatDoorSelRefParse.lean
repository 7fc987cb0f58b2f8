/-
  The contract of the document's Parse (provostref11.Parse): the selector of a text, byte by byte, or the code. All that was there is left as it was. Condition: the text has at most 2000 bytes.
-/
import Derived.Test.YtaegknpijgjioaaGreatDoorSelAll
import Derived.Test.YtaegknpijgjioaaGreatDoorTextRefAll
set_option linter.unusedVariables false
set_option linter.unusedSimpArgs false
namespace Go.Proofs.YtaegknpijgjioaaGreatDoor
open Go.ChangeShapes Go.WideShapes Go.ChangeAt Go.RowKit Go.Lib
open Sd Lists SpecOwn Book TextPure
namespace Sl

/-- the part that is under way -/
def under (key val : ByteArray) (met : Bool) : List UInt8 := if met then key.data.toList ++ 61 :: val.data.toList else key.data.toList
/-- the loop's head: what is read, the part that is under way, where it stands -/
structure RSt (s : ByteArray) (k : Nat) (out : List Lbl) (key val : ByteArray) (met : Bool) : Prop where
  at' : k ≤ s.size + 1
  more : k ≤ s.size → labelsOf s.data.toList = (allL (pieces 44 (under key val met ++ s.data.toList.drop k))).map (out ++ ·)
  done : k = s.size + 1 → labelsOf s.data.toList = some out
  free : ∀ b ∈ under key val met, b ≠ 44
  eqs : ∀ b ∈ key.data.toList, b ≠ 61
  none : met = false → val = ⟨#[]⟩
  size : key.size + val.size ≤ k
  each : ∀ x ∈ out, x.key.size ≤ s.size ∧ x.val.size ≤ s.size
  few : out.length ≤ k
theorem ext_one (s : ByteArray) (k : Nat) (h : k < s.size) : (s.extract k (k + 1)).data.toList = [s[k]] := by
  have h2 : k < s.data.toList.length := by rw [Text.size_list]; exact h
  have e1 : (s.extract k (k + 1)).data = s.data.extract k (k + 1) := ByteArray.data_extract
  rw [e1, Array.toList_extract, List.extract_eq_take_drop, show k + 1 - k = 1 by omega, List.drop_eq_getElem_cons h2]
  rfl
theorem add_one (x s : ByteArray) (k : Nat) (h : k < s.size) : (x ++ s.extract k (k + 1)).data.toList = x.data.toList ++ [s[k]] := by
  rw [← ext_one s k h]
  simp
theorem add_size (x s : ByteArray) (k : Nat) (h : k < s.size) : (x ++ s.extract k (k + 1)).size = x.size + 1 := by
  rw [ByteArray.size_append, ByteArray.size_extract]
  omega
theorem drop_one (s : ByteArray) (k : Nat) (h : k < s.size) : s.data.toList.drop k = s[k] :: s.data.toList.drop (k + 1) := by
  rw [List.drop_eq_getElem_cons (by rw [Text.size_list]; exact h)]
  rfl
theorem RSt.start {s : ByteArray} (h : s.toList.isEmpty = false) : RSt s 0 [] ⟨#[]⟩ ⟨#[]⟩ false := by
  refine ⟨by omega, fun _ => ?_, fun h => by omega, fun b hb => by simp [under] at hb, fun b hb => by simp at hb, fun _ => rfl, by decide, fun x hx => by simp at hx, by simp⟩
  have hne : s.data.toList ≠ [] := fun e => by rw [ByteArray.toList_eq, e] at h; cases h
  unfold labelsOf
  rw [if_neg hne]
  have e : under ⟨#[]⟩ ⟨#[]⟩ false ++ s.data.toList.drop 0 = s.data.toList := rfl
  rw [e]
  cases allL (pieces 44 s.data.toList) <;> rfl
theorem RSt.val {s : ByteArray} {k : Nat} {out : List Lbl} {key val : ByteArray} (h : RSt s k out key val true) (hk : k < s.size) (hc : s[k] ≠ 44) : RSt s (k + 1) out key (val ++ s.extract k (k + 1)) true := by
  have e : under key (val ++ s.extract k (k + 1)) true = under key val true ++ [s[k]] := by
    unfold under
    rw [if_pos rfl, if_pos rfl, add_one val s k hk]
    simp
  refine ⟨by omega, fun _ => ?_, fun hh => by omega, fun b hb => ?_, h.eqs, (fun hh => by cases hh), by rw [add_size val s k hk]; have := h.size; omega, h.each, by have := h.few; omega⟩
  · rw [h.more (by omega), drop_one s k hk, e, List.append_assoc]
    rfl
  · rw [e] at hb
    rcases List.mem_append.1 hb with hb | hb
    · exact h.free b hb
    · rw [List.mem_singleton] at hb; subst hb; exact hc
theorem RSt.met {s : ByteArray} {k : Nat} {out : List Lbl} {key val : ByteArray} (h : RSt s k out key val false) (hk : k < s.size) (hc : s[k] = 61) : RSt s (k + 1) out key val true := by
  have hv := h.none rfl
  subst hv
  have e : under key ⟨#[]⟩ true = under key ⟨#[]⟩ false ++ [61] := by
    unfold under
    rw [if_pos rfl, if_neg (by decide)]
  refine ⟨by omega, fun _ => ?_, fun hh => by omega, fun b hb => ?_, h.eqs, (fun hh => by cases hh), by have := h.size; omega, h.each, by have := h.few; omega⟩
  · rw [h.more (by omega), drop_one s k hk, e, List.append_assoc, hc]
    rfl
  · rw [e] at hb
    rcases List.mem_append.1 hb with hb | hb
    · exact h.free b hb
    · rw [List.mem_singleton] at hb; subst hb; decide
theorem RSt.key {s : ByteArray} {k : Nat} {out : List Lbl} {key val : ByteArray} (h : RSt s k out key val false) (hk : k < s.size) (hc : s[k] ≠ 44) (hd : s[k] ≠ 61) : RSt s (k + 1) out (key ++ s.extract k (k + 1)) val false := by
  have e : under (key ++ s.extract k (k + 1)) val false = under key val false ++ [s[k]] := by
    unfold under
    rw [if_neg (by decide), if_neg (by decide), add_one key s k hk]
  refine ⟨by omega, fun _ => ?_, fun hh => by omega, fun b hb => ?_, fun b hb => ?_, h.none, by rw [add_size key s k hk]; have := h.size; omega, h.each, by have := h.few; omega⟩
  · rw [h.more (by omega), drop_one s k hk, e, List.append_assoc]
    rfl
  · rw [e] at hb
    rcases List.mem_append.1 hb with hb | hb
    · exact h.free b hb
    · rw [List.mem_singleton] at hb; subst hb; exact hc
  · rw [add_one key s k hk] at hb
    rcases List.mem_append.1 hb with hb | hb
    · exact h.eqs b hb
    · rw [List.mem_singleton] at hb; subst hb; exact hd
/-- where a part ends -/
def Ends (s : ByteArray) (k : Nat) : Prop := k = s.size ∨ ∃ h : k < s.size, s[k] = 44
theorem RSt.parts {s : ByteArray} {k : Nat} {out : List Lbl} {key val : ByteArray} {met : Bool} (h : RSt s k out key val met) (he : Ends s k) : ∃ r, labelsOf s.data.toList = (allL (under key val met :: r)).map (out ++ ·) ∧ (k = s.size → r = []) ∧ (∀ hk : k < s.size, r = pieces 44 (s.data.toList.drop (k + 1))) := by
  rcases he with rfl | ⟨hk, hc⟩
  · refine ⟨[], ?_, fun _ => rfl, fun hk => by omega⟩
    rw [h.more (Nat.le_refl _), List.drop_of_length_le (by rw [Text.size_list]; exact Nat.le_refl _), List.append_nil, pieces_free 44 _ h.free]
  · refine ⟨pieces 44 (s.data.toList.drop (k + 1)), ?_, fun hh => by omega, fun _ => rfl⟩
    rw [h.more (by omega), drop_one s k hk, hc, pieces_cons 44 _ _ h.free]
theorem RSt.bad {s : ByteArray} {k : Nat} {out : List Lbl} {key val : ByteArray} (h : RSt s k out key val false) (he : Ends s k) : parseV s.data.toList = ([], 3) := by
  obtain ⟨r, hr, _⟩ := h.parts he
  have hc : cutL (under key val false) = Option.none := by
    have e : under key val false = key.data.toList := rfl
    unfold cutL
    rw [e, cut_miss 61 _ h.eqs]
    rfl
  unfold parseV
  rw [hr, allL_cons_none hc]
  rfl
theorem RSt.next {s : ByteArray} {k : Nat} {out : List Lbl} {key val : ByteArray} (h : RSt s k out key val true) (hk : k ≤ s.size) (he : Ends s k) : RSt s (k + 1) (out ++ [⟨key, val⟩]) ⟨#[]⟩ ⟨#[]⟩ false := by
  obtain ⟨r, hr, hr1, hr2⟩ := h.parts he
  have hc : cutL (under key val true) = some ⟨key, val⟩ := by
    have := lab_cut (x := ⟨key, val⟩) h.eqs
    exact this
  rw [allL_cons_some hc] at hr
  refine ⟨by omega, fun hk1 => ?_, fun hk1 => ?_, fun b hb => by simp [under] at hb, fun b hb => by simp at hb, fun _ => rfl, by show 0 + 0 ≤ _; omega, fun x hx => ?_, by rw [List.length_append]; have := h.few; simp; omega⟩
  · rw [hr, hr2 (by omega)]
    have e : under ⟨#[]⟩ ⟨#[]⟩ false ++ s.data.toList.drop (k + 1) = s.data.toList.drop (k + 1) := rfl
    rw [e]
    cases allL (pieces 44 (s.data.toList.drop (k + 1))) <;> simp
  · rw [hr, hr1 (by omega)]
    rfl
  · rcases List.mem_append.1 hx with hx | hx
    · exact h.each x hx
    · rw [List.mem_singleton] at hx
      subst hx
      have := h.size
      exact ⟨by show key.size ≤ _; omega, by show val.size ≤ _; omega⟩
theorem RSt.fine {s : ByteArray} {out : List Lbl} {key val : ByteArray} {met : Bool} (h : RSt s (s.size + 1) out key val met) (hc : (labelsV ⟨#[115, 101, 108]⟩ out).1 = 0) : parseV s.data.toList = (out, 0) := by
  unfold parseV
  rw [h.done rfl]
  simp only
  rw [if_pos (by rw [code_any _ ⟨#[115, 101, 108]⟩]; exact hc)]
theorem RSt.code {s : ByteArray} {out : List Lbl} {key val : ByteArray} {met : Bool} (h : RSt s (s.size + 1) out key val met) (hc : (labelsV ⟨#[115, 101, 108]⟩ out).1 ≠ 0) : parseV s.data.toList = ([], (labelsV ⟨#[115, 101, 108]⟩ out).1) := by
  unfold parseV
  rw [h.done rfl]
  simp only
  rw [code_any ⟨#[]⟩ ⟨#[115, 101, 108]⟩, if_neg hc]
theorem cell_two (w : World) (k v : ByteArray) : ∀ (j : Nat) u, [Value.string k, Value.string v][j]? = some u → (w.alloc (.cells #[.string k, .string v] 49)).cell? ((⟨w.heap.size, 0, none⟩ : Addr).add j) = some u := by
  intro j u hu
  rcases j with _ | _ | j
  · obtain rfl : Value.string k = u := by simpa using hu
    show (w.alloc (Obj.cells #[.string k, .string v] 49)).cell? ⟨w.heap.size, 0, none⟩ = _
    simp
  · obtain rfl : Value.string v = u := by simpa using hu
    show (w.alloc (Obj.cells #[.string k, .string v] 49)).cell? ⟨w.heap.size, 1, none⟩ = _
    simp
  · simp at hu
theorem two_str (k v : ByteArray) : ∀ u ∈ [Value.string k, Value.string v], u.oneCell' = true := by
  intro u hu
  simp only [List.mem_cons, List.not_mem_nil, or_false] at hu
  rcases hu with rfl | rfl <;> rfl
set_option maxRecDepth 100000 in
set_option maxHeartbeats 4000000 in
theorem parse_ref (s : ByteArray) (hs : s.size ≤ 2000) (w : World) :
    Calls Tryz.prog 18 #[.string s] w (Parsed s w) := by
  obtain ⟨i0, hi, hz0, hz1, hz2⟩ := info_parts (show (Tryz.prog.info? 49).map (fun i => (i.zero, i.size, i.bytes)) = some (some (.agg #[.string ⟨#[]⟩, .string ⟨#[]⟩]), 2, 32) by kernel_rfl)
  cases h0 : s.toList.isEmpty with
  | true =>
    have HE := Lib.hid (show parseV s.data.toList = ([], 0) by
      have : s.data.toList = [] := by
        rw [ByteArray.toList_eq] at h0
        cases h : s.data.toList with
        | nil => rfl
        | cons x l => rw [h] at h0; cases h0
      rw [this]; rfl)
    go_enter Tryz.func18, Tryz.ntmps18
    go_wp2_with fail
    go_ret2
    exact parsed_nil HE.out (Below.refl _ _)
  | false =>
    have HP0 := Lib.hid (RSt.start h0)
    have hs' : (s.size : Int) ≤ 2000 := by omega
    go_enter Tryz.func18, Tryz.ntmps18
    go_wp2_with fail
    clear h0
    go_loopw [4, 5, 6, 7, 8] (fun ov kv vv mv i wr => ∃ (k n : Nat) (out : List Lbl) (key val : ByteArray) (met : Bool), kv = .string key ∧ vv = .string val ∧ mv = .bool met ∧ i = .int .i64 k ∧ out.length = n ∧ Hid (RSt s k out key val met) ∧ Hid (wr.ownsRow w.heap.size 49 2 ov n (flatL out)) ∧ Hid (Below w.heap.size w wr)) (fun _ _ _ _ i _ => s.size + 1 - (RowKit.intOf i).toNat)
    case atStart => exact ⟨0, 0, [], ⟨#[]⟩, ⟨#[]⟩, false, rfl, rfl, rfl, rfl, rfl, HP0.out, World.ownsRow_nil _ _ _ _, Below.refl _ _⟩
    case round =>
      obtain ⟨k, n, out, key, val, met, rfl, rfl, rfl, rfl, hn, HP, HR, HW⟩ := hrel
      have HN := Lib.hid hn
      have hk1 := HP.out.at'
      have hsz := HP.out.size
      have hfew := HP.out.few
      have hnk : n ≤ k := by omega
      clear hn hfew
      obtain ⟨A, c, rfl⟩ := own_form HR.out
      by_cases hk : k ≤ s.size
      · have hki : (k : Int) ≤ (s.size : Int) := by omega
        by_cases he : Ends s k
        · have HE := Lib.hid he
          have hw2 : IntKind.i64.wrap ((k : Int) + 1) = (k : Int) + 1 := IntWalk.i64_in _ (by omega)
          cases met with
          | false =>
            have HB := Lib.hid (HP.out.bad he)
            rcases he with rfl | ⟨hlt, hc⟩
            · have hnl : ¬ (s.size : Int) < (s.size : Int) := by omega
              go_wp2_with fail
              go_ret2
              exact parsed_nil HB.out HW.out
            · have hcI : ((s[k].toNat : Int) != 44) = false := by rw [hc]; rfl
              clear hc
              go_wp2_with fail
              go_ret2
              exact parsed_nil HB.out HW.out
          | true =>
            have HNX := Lib.hid (HP.out.next hk he)
            have HB3 := Lib.hid (HW.out.alloc HW.out.size (.cells #[.string key, .string val] 49))
            have HR3 := Lib.hid (HR.out.alloc (.cells #[.string key, .string val] 49))
            have hsw := HW.out.size
            have hcell := cell_two wr key val
            have HCELL := Lib.hid hcell
            clear hcell
            have hnk2 : n + 1 ≤ 3000 := by omega
            rcases he with rfl | ⟨hlt, hc⟩
            · have hnl : ¬ (s.size : Int) < (s.size : Int) := by omega
              have HK := Lib.hid (show s.size ≤ s.size from Nat.le_refl _)
              go_wp2_with (at_builtin; refine wpList_append_own _ rfl _ _ 22 rfl w.heap.size 49 i0 _ 2 32 Tryz.underlying22 hi hz0 hz1 hz2 rfl (by decide) _ _ _ rfl HR3.out ⟨wr.heap.size, 0, none⟩ 1 1 [.string key, .string val] rfl rfl ?p1 ?p2 ?p3 ?p4 ?p5 ?_)
              case p2 => first | exact two_str key val | exact ⟨rfl, rfl⟩
              case p3 => unfold maxLen; omega
              case p4 => omega
              case p5 => first | omega | (simp; omega)
              intro v' w3 hown' hgrow _
              have HN3 := Lib.hid (HB3.out.grown hgrow (by simp; omega) (fun j hj => (HR.out.lt j hj).1))
              have HW3 := Lib.hid hown'
              clear hown' hgrow HR HR3
              go_wp2_with fail
              go_roundw
              case rel =>
                refine ⟨s.size + 1, n + 1, out ++ [(⟨key, val⟩ : Lbl)], ⟨#[]⟩, ⟨#[]⟩, false, rfl, rfl, rfl, by go_num, by rw [List.length_append, HN.out]; rfl, HNX.out, ?_, HN3.out⟩
                unfold Hid
                rw [flatL_app]
                exact HW3.out
              case measure => first | (simp [RowKit.intOf]; done) | (simp [RowKit.intOf]; omega)
            · have hcI : ((s[k].toNat : Int) != 44) = false := by rw [hc]; rfl
              clear hc
              go_wp2_with (at_builtin; refine wpList_append_own _ rfl _ _ 22 rfl w.heap.size 49 i0 _ 2 32 Tryz.underlying22 hi hz0 hz1 hz2 rfl (by decide) _ _ _ rfl HR3.out ⟨wr.heap.size, 0, none⟩ 1 1 [.string key, .string val] rfl rfl ?q1 ?q2 ?q3 ?q4 ?q5 ?_)
              case q1 => exact HCELL.out
              case q2 => exact two_str key val
              case q3 => unfold maxLen; omega
              case q4 => omega
              case q5 => simp; omega
              intro v' w3 hown' hgrow _
              have HN3 := Lib.hid (HB3.out.grown hgrow (by simp; omega) (fun j hj => (HR.out.lt j hj).1))
              have HW3 := Lib.hid hown'
              clear hown' hgrow HR HR3
              go_wp2_with fail
              go_roundw
              case rel =>
                refine ⟨k + 1, n + 1, out ++ [(⟨key, val⟩ : Lbl)], ⟨#[]⟩, ⟨#[]⟩, false, rfl, rfl, rfl, by go_num, by rw [List.length_append, HN.out]; rfl, HNX.out, ?_, HN3.out⟩
                unfold Hid
                rw [flatL_app]
                exact HW3.out
              case measure => simp [RowKit.intOf]; omega
        · have hlt : k < s.size := by
            rcases Nat.lt_or_ge k s.size with h | h
            · exact h
            · exact absurd (Or.inl (by omega)) he
          have hc : s[k] ≠ 44 := fun e => he (Or.inr ⟨hlt, e⟩)
          have hcI : ((s[k].toNat : Int) != 44) = true := bne_iff_ne.2 (fun e => hc (UInt8.toNat.inj (by simpa using (by omega : s[k].toNat = 44))))
          have hw2 : IntKind.i64.wrap ((k : Int) + 1) = (k : Int) + 1 := IntWalk.i64_in _ (by omega)
          have hk3 : ((k : Int) + 1).toNat = k + 1 := by omega
          have hk4 : (k : Int) ≤ (k : Int) + 1 := by omega
          have hk5 : (k : Int) + 1 ≤ s.size := by omega
          have HC := Lib.hid hc
          clear hc he
          cases met with
          | true =>
            have HPN := Lib.hid (HP.out.val hlt HC.out)
            have hadd : ∀ v, (Op.stringOp .add val (s.extract k (k + 1))).run Tryz.prog v = .ok (.string (val ++ s.extract k (k + 1))) v := fun v => run_string_add_sum v _ _ (by rw [ByteArray.size_extract]; omega)
            go_wp2_with fail
            go_roundw
            case rel => exact ⟨k + 1, n, out, key, _, true, rfl, rfl, rfl, by go_num, HN.out, HPN.out, HR.out, HW.out⟩
            case measure => simp [RowKit.intOf]; omega
          | false =>
            by_cases hd : s[k] = 61
            · have HPN := Lib.hid (HP.out.met hlt hd)
              have hdI : ((s[k].toNat : Int) == 61) = true := by rw [hd]; rfl
              clear hd
              go_wp2_with fail
              go_roundw
              case rel => exact ⟨k + 1, n, out, key, val, true, rfl, rfl, rfl, by go_num, HN.out, HPN.out, HR.out, HW.out⟩
              case measure => simp [RowKit.intOf]; omega
            · have HPN := Lib.hid (HP.out.key hlt HC.out hd)
              have hdI : ((s[k].toNat : Int) == 61) = false := beq_eq_false_iff_ne.2 (fun e => hd (UInt8.toNat.inj (by simpa using (by omega : s[k].toNat = 61))))
              have hadd : ∀ v, (Op.stringOp .add key (s.extract k (k + 1))).run Tryz.prog v = .ok (.string (key ++ s.extract k (k + 1))) v := fun v => run_string_add_sum v _ _ (by rw [ByteArray.size_extract]; omega)
              clear hd
              go_wp2_with fail
              go_roundw
              case rel => exact ⟨k + 1, n, out, _, val, false, rfl, rfl, rfl, by go_num, HN.out, HPN.out, HR.out, HW.out⟩
              case measure => simp [RowKit.intOf]; omega
      · obtain rfl : k = s.size + 1 := by omega
        have hki : ¬ ((s.size + 1 : Nat) : Int) ≤ (s.size : Int) := by omega
        have hki' : ¬ ((s.size : Int) + 1) ≤ (s.size : Int) := by omega
        have HLBS := Lib.hid (show Lbls wr A out ∧ From w.heap.size A by
          have h := HR.out
          rw [← HN.out] at h
          exact lbls_own h)
        have HLG := Lib.hid (show Calls Tryz.prog 27 #[.string ⟨#[115, 101, 108]⟩, .slice A n c] wr fun e w' => e = .returned (.tuple #[.int .i64 (labelsV ⟨#[115, 101, 108]⟩ out).1, .string (labelsV ⟨#[115, 101, 108]⟩ out).2]) ∧ Below wr.heap.size wr w' by
          have h := SpecRef.labels_ref_all ⟨#[115, 101, 108]⟩ A c out (by decide) (by rw [HN.out]; omega) wr HLBS.out.1
          rw [HN.out] at h
          exact h)
        have HFI := Lib.hid (fun h => HP.out.fine h)
        have HCO := Lib.hid (fun h => HP.out.code h)
        obtain ⟨y, hy⟩ : ∃ y, labelsV ⟨#[115, 101, 108]⟩ out = y := ⟨_, rfl⟩
        rw [hy] at HLG HFI HCO
        clear hy
        go_wp2_with fail
        refine HLG.out.mono ?_
        rintro e w1 ⟨rfl, hb1⟩
        have HW1 := Lib.hid (HW.out.trans (hb1.mono HW.out.size))
        have HL1 := Lib.hid (HLBS.out.1.below hb1)
        clear hb1 HLG
        obtain ⟨z, t⟩ := y
        by_cases hz : z = 0
        · subst hz
          have HE := Lib.hid (HFI.out rfl)
          clear HFI HCO
          go_wp2_with fail
          go_ret2
          unfold Parsed
          rw [HE.out]
          exact ⟨A, c, by rw [← HN.out]; rfl, HL1.out, HLBS.out.2, HW1.out⟩
        · have HE := Lib.hid (HCO.out hz)
          have hz1 : (z != 0) = true := bne_iff_ne.2 hz
          clear HFI HCO hz
          go_wp2_with fail
          go_ret2
          exact parsed_nil HE.out HW1.out
end Sl
end Go.Proofs.YtaegknpijgjioaaGreatDoor
