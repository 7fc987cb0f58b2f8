/-
  The program's words of what may be a spec, part by part, as plain functions, and that they are the document's. No condition.
-/
import Derived.Test.YtpllcnpmjnmcfaaDoorRc1
import Derived.Test.YtpllcnpmjnmcfaaDoorChecked
import Derived.Test.YtpllcnpmjnmcfaaDoorShelf
import Derived.Test.YtpllcnpmjnmcfaaDoorRc0
import Derived.Lib.Hide
import Derived.Lib.LaidTab
import Derived.Lib.ItoaNum
import Derived.Sort.Grow
import Derived.Deep.Draws
import Derived.WalkKit
import Derived.OpenShut
import Derived.ProofKit
import Derived.Laws.BytesArg
namespace Go.Proofs.YtpllcnpmjnmcfaaDoor
namespace Sd

def withinV (n l m : Int) (p : ByteArray) : Say := if n < l ∨ m < n then (1, p) else fine
def nameN (s : ByteArray) (N : List ByteArray) : Say := if isName s = false then (30, t_name) else if N.any (fun y => y.toList == s.toList) then (7, t_name) else fine
def nameAfter (s : ByteArray) (N : List ByteArray) : List ByteArray := if (nameN s N).1 = 0 then N ++ [s] else N
def imageN (s : ByteArray) : Say := newV (if isImage s = true then 0 else 33) t_image
def reqN (a b c : Int) : Say := firstV [withinV a 0 big (t_req ++ t_cpu), withinV b 0 big (t_req ++ t_mem), withinV c 0 big (t_req ++ t_pids)]
def limitV (n l : Int) (p : ByteArray) : Say := if n = 0 then fine else withinV n l big p
def limN (a b c d e f : Int) : Say := firstV [limitV a d (t_lim ++ t_cpu), limitV b e (t_lim ++ t_mem), limitV c f (t_lim ++ t_pids)]
/-- the ports from number k on, those of P being taken -/
def portsN (P : List Int) : Nat → List Int → Say
  | _, [] => fine
  | k, p :: l => if p < 1 ∨ 65535 < p then (1, atB t_ports k) else if P.contains p then (150, atB t_ports k) else portsN (P ++ [p]) (k + 1) l
def portsAfter (P : List Int) : List Int → List Int
  | [] => P
  | p :: l => if p < 1 ∨ 65535 < p then P else if P.contains p then P else portsAfter (P ++ [p]) l
def portsL (P : List Int) (most : Int) (l : List Int) : Say := if most < l.length then (2, t_ports) else portsN P 0 l
def portsLAfter (P : List Int) (most : Int) (l : List Int) : List Int := if most < l.length then P else portsAfter P l
def probeN (ev fl every : Int) : Say := firstV [withinV ev 0 every t_every, withinV fl (if ev = 0 then 0 else 1) (if ev = 0 then 0 else 10) t_fails]
def oneN (x : Ctr) (N : List ByteArray) (P : List Int) (most every : Int) : Say :=
  firstV [nameN x.name N, imageN x.image, reqN x.rc x.rm x.rp, limN x.lc x.lm x.lp x.rc x.rm x.rp, portsL P most x.ports, probeN x.ev x.fl every]
/-- the containers from number i on: what is said, and what is taken behind -/
def listFrom (name : ByteArray) (most every : Int) : Nat → List ByteArray → List Int → List Ctr → Say
  | _, _, _, [] => fine
  | i, N, P, x :: l => if (oneN x N P most every).1 = 0 then listFrom name most every (i + 1) (N ++ [x.name]) (P ++ x.ports) l else inV (atB name i) (oneN x N P most every)
def listN (name : ByteArray) (least most ports every : Int) (N : List ByteArray) (P : List Int) (l : List Ctr) : Say :=
  if (l.length : Int) < least ∨ most < (l.length : Int) then (2, name) else listFrom name ports every 0 N P l
theorem firstV_nil : firstV [] = fine := rfl
theorem firstV_cons (y : Say) (l : List Say) : firstV (y :: l) = if y.1 = 0 then firstV l else y := rfl
theorem nameAfter_fine {s : ByteArray} {N : List ByteArray} (h : (nameN s N).1 = 0) : nameAfter s N = N ++ [s] := if_pos h
theorem portsAfter_fine : ∀ {l : List Int} {P : List Int} {k : Nat}, (portsN P k l).1 = 0 → portsAfter P l = P ++ l
  | [], P, k, _ => by simp [portsAfter]
  | p :: l, P, k, h => by
    rw [portsN] at h
    rw [portsAfter]
    split at h
    · simp at h
    · rename_i h1
      rw [if_neg h1]
      split at h
      · simp at h
      · rename_i h2
        rw [if_neg h2, portsAfter_fine h, List.append_assoc]; rfl
theorem portsLAfter_fine {l : List Int} {P : List Int} {most : Int} (h : (portsL P most l).1 = 0) : portsLAfter P most l = P ++ l := by
  unfold portsL at h
  unfold portsLAfter
  split at h
  · simp at h
  · rename_i h1
    rw [if_neg h1]
    exact portsAfter_fine h
theorem portsAfter_len : ∀ (l : List Int) (P : List Int), (portsAfter P l).length ≤ P.length + l.length
  | [], P => by simp [portsAfter]
  | p :: l, P => by
    rw [portsAfter]
    split
    · simp
    · split
      · simp
      · have := portsAfter_len l (P ++ [p])
        simp at this ⊢; omega
theorem portsLAfter_len (l : List Int) (P : List Int) (most : Int) (h : 0 ≤ most) : ((portsLAfter P most l).length : Int) ≤ P.length + most := by
  unfold portsLAfter
  split
  · omega
  · have := portsAfter_len l P
    omega
theorem nameAfter_len (s : ByteArray) (N : List ByteArray) : (nameAfter s N).length ≤ N.length + 1 := by
  unfold nameAfter
  split <;> simp
theorem firstV_fine {l : List Say} (h : (firstV l).1 = 0) : ∀ y ∈ l, y.1 = 0 := by
  induction l with
  | nil => intro y hy; cases hy
  | cons z l ih =>
    rw [firstV_cons] at h
    split at h
    · rename_i h0
      intro y hy
      rcases List.mem_cons.1 hy with rfl | hy
      · exact h0
      · exact ih h y hy
    · rename_i h0
      exact absurd h h0
/-! the document's words -/
theorem any_names (l : List Ctr) (s : ByteArray) : (l.map (·.name)).any (fun y => y.toList == s.toList) = l.any (fun c => c.name.toList == s.toList) := by
  rw [List.any_map]; rfl
theorem has_ports (l : List Ctr) (p : Int) : (l.flatMap (·.ports)).contains p = hasV l p := by
  unfold hasV
  induction l with
  | nil => rfl
  | cons c l ih => simp only [List.flatMap_cons, List.any_cons]; rw [← ih]; simp
theorem portsN_from (a : List Ctr) : ∀ (l : List Int) (k : Nat) (seen : List Int), portsN (a.flatMap (·.ports) ++ seen) k l = portsFrom a k seen l
  | [], _, _ => rfl
  | p :: l, k, seen => by
    rw [portsN, portsFrom, List.append_assoc, portsN_from a l (k + 1) (seen ++ [p]), ← has_ports]
    have e : (a.flatMap (·.ports) ++ seen).contains p = ((a.flatMap (·.ports)).contains p || seen.contains p) := by simp
    rw [e]
theorem reqN_eq (a b c : Int) : reqN a b c = if 0 ≤ numsV false a b c 0 0 0 then (1, t_req ++ t_res (numsV false a b c 0 0 0)) else fine := by
  unfold reqN numsV numV withinV
  by_cases h1 : a < 0 ∨ big < a
  · have : (decide (a < 0) || decide (big < a)) = true := by simpa using h1
    simp [firstV, h1, this, t_res]
  · have e1 : (decide (a < 0) || decide (big < a)) = false := by simpa using h1
    by_cases h2 : b < 0 ∨ big < b
    · have : (decide (b < 0) || decide (big < b)) = true := by simpa using h2
      simp [firstV, h1, h2, e1, this, t_res, fine]
    · have e2 : (decide (b < 0) || decide (big < b)) = false := by simpa using h2
      by_cases h3 : c < 0 ∨ big < c
      · have : (decide (c < 0) || decide (big < c)) = true := by simpa using h3
        simp [firstV, h1, h2, h3, e1, e2, this, t_res, fine]
      · have e3 : (decide (c < 0) || decide (big < c)) = false := by simpa using h3
        simp [firstV, h1, h2, h3, e1, e2, e3, fine]
theorem numV_limit (n l : Int) (p : ByteArray) : limitV n l p = if numV true n l = true then (1, p) else fine := by
  unfold limitV withinV numV
  by_cases h : n = 0
  · simp [h]
  · by_cases h1 : n < l ∨ big < n
    · have : (decide (n < l) || decide (big < n)) = true := by simpa using h1
      simp [h, h1, this]
    · have : (decide (n < l) || decide (big < n)) = false := by simpa using h1
      simp [h, h1, this]
theorem limN_eq (a b c d e f : Int) : limN a b c d e f = if 0 ≤ numsV true a b c d e f then (1, t_lim ++ t_res (numsV true a b c d e f)) else fine := by
  unfold limN numsV
  rw [numV_limit, numV_limit, numV_limit]
  cases numV true a d <;> cases numV true b e <;> cases numV true c f <;> simp [firstV, fine, t_res]
theorem probeN_eq (ev fl : Int) (init : Bool) : probeN ev fl (if init = true then 0 else 1000) = probeV ev fl init := by
  unfold probeN probeV withinV
  cases init
  · simp only [Bool.false_eq_true, if_false, false_and, or_false]
    by_cases h1 : ev < 0 ∨ 1000 < ev
    · simp [firstV, h1]
    · by_cases h2 : ev = 0
      · subst h2
        by_cases h3 : fl = 0
        · subst h3; simp [firstV, fine]
        · have : fl < 0 ∨ 0 < fl := by omega
          simp [firstV, fine, h3, this]
      · have h4 : 0 < ev := by omega
        by_cases h3 : fl < 1 ∨ 10 < fl
        · simp [firstV, fine, h1, h2, h3, h4]
        · simp [firstV, fine, h1, h2, h3, h4]
  · simp only [if_true, true_and]
    by_cases h1 : ev < 0 ∨ 1000 < ev ∨ 0 < ev
    · have h0 : ev < 0 ∨ 0 < ev := by omega
      simp [firstV, h1, h0]
    · have h2 : ev = 0 := by omega
      subst h2
      by_cases h3 : fl = 0
      · subst h3; simp [firstV, fine]
      · have : fl < 0 ∨ 0 < fl := by omega
        simp [firstV, fine, h3, this]
theorem oneN_eq (x : Ctr) (a : List Ctr) (init : Bool) : oneN x (a.map (·.name)) (a.flatMap (·.ports)) (if init = true then 0 else 3) (if init = true then 0 else 1000) = oneV x a init := by
  unfold oneN oneV
  rw [reqN_eq, limN_eq, probeN_eq]
  unfold nameN imageN newV portsL
  rw [any_names]
  have hp := portsN_from a x.ports 0 []
  rw [List.append_nil] at hp
  rw [hp]
  have hlen : ((if init = true then (0 : Int) else 3) < (x.ports.length : Int)) ↔ (3 < x.ports.length ∨ (init = true ∧ 0 < x.ports.length)) := by
    cases init <;> simp <;> omega
  simp only [firstV_cons, firstV_nil]
  by_cases h1 : isName x.name = false
  · simp [h1]
  · by_cases h2 : a.any (fun c => c.name.toList == x.name.toList) = true
    · simp [h1, h2]
    · by_cases h3 : isImage x.image = false
      · simp [h1, h2, h3, fine]
      · have h3' : isImage x.image = true := by simpa using h3
        by_cases h4 : 0 ≤ numsV false x.rc x.rm x.rp 0 0 0
        · simp [h1, h2, h3', h4, fine]
        · by_cases h5 : 0 ≤ numsV true x.lc x.lm x.lp x.rc x.rm x.rp
          · simp [h1, h2, h3', h4, h5, fine]
          · by_cases h6 : 3 < x.ports.length ∨ (init = true ∧ 0 < x.ports.length)
            · have h6' := hlen.2 h6
              simp only [h1, h2, h3', h4, h5, h6, h6', if_true, if_false, fine]
              simp
            · have h6' := mt hlen.1 h6
              simp only [h1, h2, h3', h4, h5, h6, h6', if_true, if_false, fine]
              by_cases h7 : (portsFrom a 0 [] x.ports).1 = 0
              · simp only [h7]
                by_cases h8 : (probeV x.ev x.fl init).1 = 0
                · simp only [h8]
                  have : probeV x.ev x.fl init = fine := by
                    unfold probeV at h8 ⊢
                    split at h8
                    · simp at h8
                    · rename_i h9
                      rw [if_neg h9]
                      split at h8
                      · simp at h8
                      · rename_i h10
                        rw [if_neg h10]
                  simp [this, fine]
                · simp [h8]
              · simp [h7]
theorem listFrom_eq (name : ByteArray) (init : Bool) : ∀ (l : List Ctr) (i : Nat) (a : List Ctr),
    listFrom name (if init = true then 0 else 3) (if init = true then 0 else 1000) i (a.map (·.name)) (a.flatMap (·.ports)) l = ctrsFrom name init i a l
  | [], _, _ => rfl
  | x :: l, i, a => by
    rw [listFrom, ctrsFrom, oneN_eq]
    have ih := listFrom_eq name init l (i + 1) (a ++ [x])
    simp only [List.map_append, List.flatMap_append, List.map_cons, List.map_nil, List.flatMap_cons, List.flatMap_nil, List.append_nil] at ih
    rw [ih]
    unfold inV
    by_cases h : (oneV x a init).1 = 0 <;> simp [h]
end Sd
end Go.Proofs.YtpllcnpmjnmcfaaDoor

/-
  The contract of num.Text: the text of a number; all that was there is left as it was. Conditions: strconv's table of powers holds what the program's text lays (Tab), and the number is one of 64 bits.
-/
namespace Go.Proofs.YtpllcnpmjnmcfaaDoor
open Go.ChangeShapes Go.WideShapes Go.ChangeAt Go.RowKit Go.Sort
open Go.Lib
namespace NumText

theorem var_below {w w' : World} (hb : Below w.heap.size w w') {name : String} {cs : Array Value} (h : w.var? Tryd.prog name = some cs) : w'.var? Tryd.prog name = some cs := by
  unfold World.var? at h ⊢
  cases hg : Tryd.prog.globalNamed name with
  | none => rw [hg] at h; simp at h
  | some g =>
    rw [hg] at h
    simp only [Option.bind_some] at h ⊢
    have hlt : g < w.heap.size := by
      rcases Nat.lt_or_ge g w.heap.size with hl | hl
      · exact hl
      · rw [Array.getElem?_eq_none hl] at h; simp at h
    rw [hb.block g hlt]; exact h
/-- strconv's table of powers -/
def Tab (w : World) : Prop := Lib.TabIs Tryd.prog w "internal/strconv.uint64pow10" .u64 Lib.pow10Tab
theorem Tab.below {w w' : World} (h : Tab w) (hb : Below w.heap.size w w') : Tab w' := var_below hb h
theorem below_grow (w : World) (k : Nat) (os : Array Obj) : Below w.heap.size w (grow (w.drewN k) os) :=
  ⟨rfl, rfl, rfl, by simp [grow], fun j hj => by simp [grow, Array.getElem?_append, hj]⟩
theorem numtext_any (n : Int) (w : World) (h0 : -9223372036854775808 ≤ n) (h1 : n ≤ 9223372036854775807) (hL : Tab w) :
    Calls Tryd.prog 38 #[.int .i64 n] w fun e w' => e = .returned (.string ⟨(itoa n).toArray⟩) ∧ Below w.heap.size w w' := by
  go_enter Tryd.func38, Tryd.ntmps38
  go_wp2_with fail
  refine (Any.strconv_Itoa Tryd.laysM171 n h0 h1 _ hL).mono ?_
  rintro e w' ⟨rfl, k, os, rfl⟩
  go_wp2_with fail
  go_ret
  exact ⟨rfl, below_grow _ k os⟩
end NumText
end Go.Proofs.YtpllcnpmjnmcfaaDoor

/-
  The contracts of text's tests on names, values and tags: each tells whether the text is one, by the document's words; all is left as it was. Conditions: the table holds what the program's text lays (Laid); the text is no longer than a Go string may be.
-/
namespace Go.Proofs.YtpllcnpmjnmcfaaDoor
open Go.ChangeShapes Go.WideShapes Go.ChangeAt Go.RowKit
open TextPure
namespace Text

def codeN (ok : Bool) (c : Int) : Int := if ok then 0 else c
theorem unless_any (ok : Bool) (c : Int) (w : World) :
    Calls Tryd.prog 56 #[.bool ok, .int .i64 c] w fun e w' => e = .returned (.int .i64 (codeN ok c)) ∧ w = w' := by
  cases ok
  all_goals
    go_enter Tryd.func56, Tryd.ntmps56
    go_wp2_with fail
    go_ret
    exact ⟨rfl, rfl⟩
theorem size_list (s : ByteArray) : s.data.toList.length = s.size := by rw [Array.length_toList]; rfl
theorem nameL_false {l : List UInt8} (h : ¬ (1 ≤ l.length ∧ l.length ≤ 16)) : nameL l = false := by
  cases hx : nameL l with
  | false => rfl
  | true => exact absurd (nameL_len hx) h
theorem nameL_eq {l : List UInt8} (h1 : 1 ≤ l.length) (h2 : l.length ≤ 16) : nameL l = (standN 8 (at' l 0) && standN 8 (at' l (l.length - 1)) && allN 4 l) := by
  unfold nameL
  rw [decide_eq_true h1, decide_eq_true h2]
  rfl
theorem list_empty {s : ByteArray} (h : 0 < s.size) : s.toList.isEmpty = false := by
  rw [ByteArray.toList_eq]
  have := size_list s
  cases hl : s.data.toList with
  | nil => rw [hl] at this; simp at this; omega
  | cons a b => rfl
set_option maxRecDepth 100000 in
theorem isName_any (s : ByteArray) (hs : s.size ≤ maxLen) (w : World) (hL : Laid w) :
    Calls Tryd.prog 57 #[.string s] w fun e w' => e = .returned (.bool (nameL s.data.toList)) ∧ w = w' := by
  unfold maxLen at hs
  have HL := Lib.hid hL
  have HN := Lib.hid (size_list s)
  clear hL
  by_cases h0 : s.size = 0
  · obtain rfl : s = ⟨#[]⟩ := by cases s with | mk d => simp [ByteArray.size] at h0; simp [h0]
    go_enter Tryd.func57, Tryd.ntmps57
    go_wp2_with fail
    go_ret
    exact ⟨rfl, rfl⟩
  · have hpos : 0 < s.size := by omega
    have hne := list_empty hpos
    by_cases h16 : s.size ≤ 16
    · have HE := Lib.hid (nameL_eq (l := s.data.toList) (by rw [HN.out]; exact hpos) (by rw [HN.out]; exact h16))
      have HB0 := Lib.hid (at_byte s 0 hpos)
      have HB1 := Lib.hid (at_byte s (s.size - 1) (by omega))
      have hi : (((s.size : Int) - 1).toNat) = s.size - 1 := by omega
      have hlt : s.size - 1 < s.size := by omega
      have hn0 : (0 : Int) ≤ (s.size : Int) - 1 := by omega
      have hn1 : (s.size : Int) - 1 < s.size := by omega
      have hw1 : IntKind.i64.wrap ((s.size : Int) - 1) = (s.size : Int) - 1 := IntWalk.i64_in _ (by omega)
      go_enter Tryd.func57, Tryd.ntmps57
      go_wp2_with fail
      refine (may_any s[0].toNat 8 s[0].toNat_lt (by omega) _ HL.out).mono ?_
      rintro e w' ⟨rfl, rfl⟩
      rw [HN.out, ← HB0.out, ← HB1.out] at HE
      cases hb0 : standN 8 s[0].toNat with
      | false =>
        go_wp2_with fail
        go_ret
        exact ⟨by rw [HE.out, hb0]; rfl, rfl⟩
      | true =>
        go_wp2_with fail
        refine (may_any s[s.size - 1].toNat 8 s[s.size - 1].toNat_lt (by omega) _ HL.out).mono ?_
        rintro e w' ⟨rfl, rfl⟩
        cases hb1 : standN 8 s[s.size - 1].toNat with
        | false =>
          go_wp2_with fail
          go_ret
          exact ⟨by rw [HE.out, hb0, hb1]; rfl, rfl⟩
        | true =>
          go_wp2_with fail
          refine (all_any s 4 (by omega) (by omega) _ HL.out).mono ?_
          rintro e w' ⟨rfl, rfl⟩
          go_wp2_with fail
          go_ret
          exact ⟨by rw [HE.out, hb0, hb1]; rfl, rfl⟩
    · have hgt : (16 : Int) < s.size := by omega
      go_enter Tryd.func57, Tryd.ntmps57
      go_wp2_with fail
      go_ret
      exact ⟨by rw [nameL_false (by rw [HN.out]; omega)]; rfl, rfl⟩
theorem valL_eq (l : List UInt8) : valL l = (decide (l.length ≤ 16) && allN 1 l) := rfl
theorem tagL_eq (l : List UInt8) : tagL l = (decide (1 ≤ l.length) && decide (l.length ≤ 8) && allN 2 l) := rfl
set_option maxRecDepth 100000 in
theorem isVal_any (s : ByteArray) (hs : s.size ≤ maxLen) (w : World) (hL : Laid w) :
    Calls Tryd.prog 72 #[.string s] w fun e w' => e = .returned (.bool (valL s.data.toList)) ∧ w = w' := by
  unfold maxLen at hs
  have HL := Lib.hid hL
  have HN := Lib.hid (size_list s)
  clear hL
  have HE := Lib.hid (valL_eq s.data.toList)
  rw [HN.out] at HE
  by_cases h16 : s.size ≤ 16
  · have hgt : (s.size : Int) ≤ 16 := by omega
    go_enter Tryd.func72, Tryd.ntmps72
    go_wp2_with fail
    refine (all_any s 1 (by omega) (by omega) _ HL.out).mono ?_
    rintro e w' ⟨rfl, rfl⟩
    go_wp2_with fail
    go_ret
    exact ⟨by rw [HE.out, decide_eq_true h16]; rfl, rfl⟩
  · have hgt : ¬ (s.size : Int) ≤ 16 := by omega
    go_enter Tryd.func72, Tryd.ntmps72
    go_wp2_with fail
    go_ret
    exact ⟨by rw [HE.out, decide_eq_false h16]; rfl, rfl⟩
set_option maxRecDepth 100000 in
theorem isTag_any (s : ByteArray) (hs : s.size ≤ maxLen) (w : World) (hL : Laid w) :
    Calls Tryd.prog 89 #[.string s] w fun e w' => e = .returned (.bool (tagL s.data.toList)) ∧ w = w' := by
  unfold maxLen at hs
  have HL := Lib.hid hL
  have HN := Lib.hid (size_list s)
  clear hL
  have HE := Lib.hid (tagL_eq s.data.toList)
  rw [HN.out] at HE
  by_cases h0 : s.size = 0
  · obtain rfl : s = ⟨#[]⟩ := by cases s with | mk d => simp [ByteArray.size] at h0; simp [h0]
    go_enter Tryd.func89, Tryd.ntmps89
    go_wp2_with fail
    go_ret
    exact ⟨rfl, rfl⟩
  · have hpos : 0 < s.size := by omega
    have hne := list_empty hpos
    by_cases h16 : s.size ≤ 8
    · have hgt : (s.size : Int) ≤ 8 := by omega
      go_enter Tryd.func89, Tryd.ntmps89
      go_wp2_with fail
      refine (all_any s 2 (by omega) (by omega) _ HL.out).mono ?_
      rintro e w' ⟨rfl, rfl⟩
      go_wp2_with fail
      go_ret
      exact ⟨by rw [HE.out, decide_eq_true h16, decide_eq_true (show 1 ≤ s.size by omega)]; rfl, rfl⟩
    · have hgt : ¬ (s.size : Int) ≤ 8 := by omega
      go_enter Tryd.func89, Tryd.ntmps89
      go_wp2_with fail
      go_ret
      exact ⟨by rw [HE.out, decide_eq_false h16, Bool.and_false]; rfl, rfl⟩
end Text
end Go.Proofs.YtpllcnpmjnmcfaaDoor

/-
  The contracts of package text's exported functions: each tells what the document's words say; all that was there is left as it was. Conditions: the table and internal/bytealg.MaxLen hold what they may (Laid); the text has at most 4294967280 bytes where it is cut.
-/
namespace Go.Proofs.YtpllcnpmjnmcfaaDoor
open Go.ChangeShapes Go.WideShapes Go.ChangeAt Go.RowKit
open TextPure
namespace Text

/-- the part ahead of the first c, and the part behind it -/
def fstB (s : ByteArray) (c : UInt8) : ByteArray := ⟨(Lib.cut s.data.toList [c]).1.toArray⟩
def sndB (s : ByteArray) (c : UInt8) : ByteArray := ⟨(Lib.cut s.data.toList [c]).2.1.toArray⟩
def hasB (s : ByteArray) (c : UInt8) : Bool := (Lib.cut s.data.toList [c]).2.2
theorem fstB_size (s : ByteArray) (c : UInt8) : (fstB s c).size ≤ s.size := by
  have := (cut_len c s.data.toList).1
  rw [size_list] at this
  show (Lib.cut s.data.toList [c]).1.toArray.size ≤ _
  simpa using this
theorem sndB_size (s : ByteArray) (c : UInt8) : (sndB s c).size ≤ s.size := by
  have := (cut_len c s.data.toList).2
  rw [size_list] at this
  show (Lib.cut s.data.toList [c]).2.1.toArray.size ≤ _
  simpa using this
theorem cut_any (s : ByteArray) (c : UInt8) (hs : s.size < 4294967281) (w : World) (hL : Laid w) :
    Calls Tryd.prog 82 #[.string s, .string ⟨#[c]⟩] w fun e w' => e = .returned (.tuple #[.string (fstB s c), .string (sndB s c), .bool (hasB s c)]) ∧ Below w.heap.size w w' := by
  obtain ⟨m, hm⟩ := hL.max
  refine (Any.strings_Cut Tryd.lays145 s ⟨#[c]⟩ m w hs hm).mono ?_
  rintro e w' ⟨rfl, n, rfl⟩
  exact ⟨rfl, Kit.below_drewN _ _ _⟩
theorem keyL_eq (s : ByteArray) : keyL s.data.toList = (nameL (fstB s 47).data.toList && (!hasB s 47 || nameL (sndB s 47).data.toList)) := by
  unfold keyL fstB sndB hasB
  simp
set_option maxRecDepth 100000 in
theorem isKey_any (s : ByteArray) (hs : s.size < 4294967281) (w : World) (hL : Laid w) :
    Calls Tryd.prog 71 #[.string s] w fun e w' => e = .returned (.bool (keyL s.data.toList)) ∧ Below w.heap.size w w' := by
  have HE := Lib.hid (keyL_eq s)
  have h1 := Lib.hid (show (fstB s 47).size ≤ maxLen by have := fstB_size s 47; unfold maxLen; omega)
  have h2 := Lib.hid (show (sndB s 47).size ≤ maxLen by have := sndB_size s 47; unfold maxLen; omega)
  have HL := Lib.hid hL
  clear hL
  go_enter Tryd.func71, Tryd.ntmps71
  go_wp2_with fail
  refine (cut_any s 47 hs _ HL.out).mono ?_
  rintro e w1 ⟨rfl, hb⟩
  have HB := Lib.hid hb
  have HL1 := Lib.hid (HL.out.below hb)
  clear hb HL
  go_wp2_with fail
  refine (isName_any (fstB s 47) h1.out _ HL1.out).mono ?_
  rintro e w' ⟨rfl, rfl⟩
  cases hn : nameL (fstB s 47).data.toList with
  | false =>
    go_wp2_with fail
    go_ret
    exact ⟨by rw [HE.out, hn]; rfl, HB.out⟩
  | true =>
    cases hh : hasB s 47 with
    | false =>
      go_wp2_with fail
      go_ret
      exact ⟨by rw [HE.out, hn, hh]; rfl, HB.out⟩
    | true =>
      go_wp2_with fail
      refine (isName_any (sndB s 47) h2.out _ HL1.out).mono ?_
      rintro e w' ⟨rfl, rfl⟩
      go_wp2_with fail
      go_ret
      exact ⟨by rw [HE.out, hn, hh]; rfl, HB.out⟩
theorem info_string' : (Tryd.prog.info? 9).map (fun i => (i.zero, i.size, i.bytes)) = some (some (.string ByteArray.empty), 1, 16) := by kernel_rfl
/-- the pieces as texts -/
def piecesB (s : ByteArray) (c : UInt8) : List ByteArray := (pieces c s.data.toList).map fun l => ⟨l.toArray⟩
theorem splitB_pieces (s : ByteArray) (c : UInt8) : Lib.splitB ⟨#[c]⟩ 0 (Lib.countB s ⟨#[c]⟩) s = piecesB s c := by
  have h := Lib.splitB_data ⟨#[c]⟩ 0 (Lib.countB s ⟨#[c]⟩) s
  have h2 : Lib.splitK [c] 0 (Lib.countB s ⟨#[c]⟩) s.data.toList = pieces c s.data.toList := splitK_pieces c s.data.toList
  unfold piecesB
  rw [← h2]
  have h3 : (⟨#[c]⟩ : ByteArray).data.toList = [c] := rfl
  rw [h3] at h
  rw [← h, List.map_map]
  have : ((fun l : List UInt8 => (⟨l.toArray⟩ : ByteArray)) ∘ fun x : ByteArray => x.data.toList) = id := by
    funext x
    cases x
    simp
  rw [this, List.map_id]
theorem piecesB_len (s : ByteArray) (c : UInt8) : (piecesB s c).length = Lib.countB s ⟨#[c]⟩ + 1 := by
  rw [← splitB_pieces]
  exact Lib.splitB_all ⟨#[c]⟩ (Nat.le_refl 1) 0 _ s rfl
theorem split_any (s : ByteArray) (c : UInt8) (hs : s.size < 4294967281) (w : World) (hL : Laid w) :
    Calls Tryd.prog 97 #[.string s, .string ⟨#[c]⟩] w fun e w' =>
      e = .returned (.slice (some ⟨w.heap.size, 0, none⟩) (piecesB s c).length (piecesB s c).length) ∧ w' = w.alloc (.cells ((piecesB s c).map Value.string).toArray 9) := by
  obtain ⟨m, hm⟩ := hL.max
  refine (Any.strings_Split Tryd.lays146 info_string' s ⟨#[c]⟩ m w hs hm (Nat.le_refl 1)).mono ?_
  rintro e w' ⟨rfl, rfl⟩
  rw [piecesB_len, splitB_pieces]
  exact ⟨rfl, rfl⟩
theorem pieces_each (c : UInt8) : ∀ (l p : List UInt8), p ∈ pieces c l → p.length ≤ l.length
  | [], p, h => by simp [pieces] at h; simp [h]
  | b :: l, p, h => by
    unfold pieces at h
    split at h
    · rcases List.mem_cons.1 h with rfl | h
      · simp
      · have := pieces_each c l p h; simp; omega
    · split at h
      · rename_i hx; exact absurd hx (pieces_ne c l)
      · rename_i q qs hq
        rcases List.mem_cons.1 h with rfl | h
        · have := pieces_each c l q (by rw [hq]; simp); simp; omega
        · have := pieces_each c l p (by rw [hq]; simp [h]); simp; omega
theorem piecesB_each {s : ByteArray} {c : UInt8} {x : ByteArray} (h : x ∈ piecesB s c) : x.size ≤ s.size := by
  obtain ⟨l, hl, rfl⟩ := List.mem_map.1 h
  have := pieces_each c _ l hl
  rw [size_list] at this
  show l.toArray.size ≤ _
  simpa using this
theorem pieces_count (c : UInt8) : ∀ l : List UInt8, (pieces c l).length ≤ l.length + 1
  | [] => by simp [pieces]
  | b :: l => by
    have := pieces_count c l
    unfold pieces
    split
    · simp; omega
    · split
      · simp
      · rename_i q qs hq; rw [hq] at this; simp at this ⊢; omega
theorem piecesB_count (s : ByteArray) (c : UInt8) : (piecesB s c).length ≤ s.size + 1 := by
  have := pieces_count c s.data.toList
  rw [size_list] at this
  unfold piecesB
  simpa using this
/-- is each of the texts a name? -/
def namesL (l : List ByteArray) : Bool := l.all fun x => nameL x.data.toList
theorem namesL_pieces (s : ByteArray) (c : UInt8) : namesL (piecesB s c) = (pieces c s.data.toList).all nameL := by
  unfold namesL piecesB
  rw [List.all_map]
  rfl
theorem namesL_no {l : List ByteArray} {k : Nat} (hk : k < l.length) (h : nameL l[k].data.toList = false) : namesL l = false := by
  cases hx : namesL l with
  | false => rfl
  | true => rw [List.all_eq_true.1 hx _ (List.getElem_mem hk)] at h; cases h
theorem namesL_yes {l : List ByteArray} (h : ∀ k (hk : k < l.length), nameL l[k].data.toList = true) : namesL l = true := by
  refine List.all_eq_true.2 fun x hx => ?_
  obtain ⟨k, hk, rfl⟩ := List.getElem_of_mem hx
  exact h k hk
theorem repoL_eq (s : ByteArray) : repoL s.data.toList = (decide (s.size ≤ 24) && namesL (piecesB s 47)) := by
  unfold repoL
  rw [size_list, namesL_pieces]
set_option maxRecDepth 100000 in
set_option maxHeartbeats 1000000 in
theorem isRepo_any (s : ByteArray) (hs : s.size < 4294967281) (w : World) (hL : Laid w) :
    Calls Tryd.prog 88 #[.string s] w fun e w' => e = .returned (.bool (repoL s.data.toList)) ∧ Below w.heap.size w w' := by
  have HE := Lib.hid (repoL_eq s)
  have HL := Lib.hid hL
  clear hL
  by_cases h24 : s.size ≤ 24
  · rw [decide_eq_true h24, Bool.true_and] at HE
    have hgt : ¬ (24 : Int) < s.size := by omega
    go_enter Tryd.func88, Tryd.ntmps88
    go_wp2_with fail
    refine (split_any s 47 hs _ HL.out).mono ?_
    rintro e w1 ⟨rfl, hw1⟩
    have hb1 : Below w.heap.size w w1 := by rw [hw1]; exact (Below.refl _ _).alloc (Nat.le_refl _) _
    have HL1 := Lib.hid (HL.out.below hb1)
    have HB1 := Lib.hid hb1
    have hcell : ∀ k (hk : k < (piecesB s 47).length), w1.cell? ⟨w.heap.size, k, none⟩ = some (.string (piecesB s 47)[k]) := by
      intro k hk
      rw [hw1]
      simp [hk]
    have HC := Lib.hid hcell
    have hP := piecesB_count s 47
    have HZ := Lib.hid (fun k (hk : k < (piecesB s 47).length) => piecesB_each (List.getElem_mem hk))
    clear hcell hb1 hw1 HL
    generalize piecesB s 47 = ps at *
    go_wp2_with fail
    go_loop [11] (fun i => ∃ k : Nat, k ≤ ps.length ∧ i = .int .i64 k ∧ Hid (∀ j (hj : j < ps.length), j < k → nameL ps[j].data.toList = true)) (fun i => ps.length - (RowKit.intOf i).toNat)
    case atStart => exact ⟨0, by omega, rfl, fun j _ h => by omega⟩
    case round =>
      obtain ⟨k, hk, rfl, HA⟩ := hrel
      by_cases hlt : k < ps.length
      · have hc := HC.out k hlt
        have hz := HZ.out k hlt
        go_wp2_with fail
        refine (isName_any ps[k] (by unfold maxLen; omega) _ HL1.out).mono ?_
        rintro e w' ⟨rfl, rfl⟩
        cases hn : nameL ps[k].data.toList with
        | false =>
          go_wp2_with fail
          go_ret
          exact ⟨by rw [HE.out, namesL_no hlt hn]; rfl, HB1.out⟩
        | true =>
          go_wp2_with fail
          go_round
          case rel =>
            refine ⟨k + 1, by omega, by go_num, fun j hj hj' => ?_⟩
            by_cases e : j = k
            · subst e; exact hn
            · exact HA.out j hj (by omega)
          case measure => simp [RowKit.intOf]; omega
      · obtain rfl : k = ps.length := by omega
        go_wp2_with fail
        go_ret
        exact ⟨by rw [HE.out, namesL_yes (fun j hj => HA.out j hj hj)]; rfl, HB1.out⟩
  · have hgt : (24 : Int) < s.size := by omega
    go_enter Tryd.func88, Tryd.ntmps88
    go_wp2_with fail
    go_ret
    exact ⟨by rw [HE.out, decide_eq_false h24]; rfl, Below.refl _ _⟩
end Text
end Go.Proofs.YtpllcnpmjnmcfaaDoor

/-
  The contracts of package text's exported functions Name, Key, Val, Image, Split, Same: each tells what the document's words say; all that was there is left as it was. Conditions: the table and internal/bytealg.MaxLen hold what they may (Laid); a text that is cut has at most 4294967280 bytes.
-/
namespace Go.Proofs.YtpllcnpmjnmcfaaDoor
open Go.ChangeShapes Go.WideShapes Go.ChangeAt Go.RowKit
open TextPure
namespace Text

/-- is the text an image? -/
def imageB (s : ByteArray) : Bool := imageL s.data.toList
theorem imageB_eq (s : ByteArray) : imageB s = (hasB s 58 && repoL (fstB s 58).data.toList && tagL (sndB s 58).data.toList) := by
  unfold imageB imageL fstB sndB hasB
  simp
set_option maxRecDepth 100000 in
theorem parts_any (s : ByteArray) (hs : s.size < 4294967281) (w : World) (hL : Laid w) :
    Calls Tryd.prog 77 #[.string s] w fun e w' => e = .returned (.tuple #[.string (fstB s 58), .string (sndB s 58), .bool (imageB s)]) ∧ Below w.heap.size w w' := by
  have HE := Lib.hid (imageB_eq s)
  have h1 := Lib.hid (show (fstB s 58).size < 4294967281 by have := fstB_size s 58; omega)
  have h2 := Lib.hid (show (sndB s 58).size ≤ maxLen by have := sndB_size s 58; unfold maxLen; omega)
  have HL := Lib.hid hL
  clear hL
  go_enter Tryd.func77, Tryd.ntmps77
  go_wp2_with fail
  refine (cut_any s 58 hs _ HL.out).mono ?_
  rintro e w1 ⟨rfl, hb⟩
  have HB := Lib.hid hb
  have HL1 := Lib.hid (HL.out.below hb)
  clear hb HL
  cases hh : hasB s 58 with
  | false =>
    go_wp2_with fail
    go_ret3
    exact ⟨by rw [HE.out, hh]; rfl, HB.out⟩
  | true =>
    go_wp2_with fail
    refine (isRepo_any (fstB s 58) h1.out _ HL1.out).mono ?_
    rintro e w2 ⟨rfl, hb2⟩
    have HB2 := Lib.hid (HB.out.trans (hb2.mono HB.out.size))
    have HL2 := Lib.hid (HL1.out.below hb2)
    clear hb2 HL1 HB
    cases hr : repoL (fstB s 58).data.toList with
    | false =>
      go_wp2_with fail
      go_ret3
      exact ⟨by rw [HE.out, hh, hr]; rfl, HB2.out⟩
    | true =>
      go_wp2_with fail
      refine (isTag_any (sndB s 58) h2.out _ HL2.out).mono ?_
      rintro e w' ⟨rfl, rfl⟩
      go_wp2_with fail
      go_ret3
      exact ⟨by rw [HE.out, hh, hr]; rfl, HB2.out⟩
theorem name_any (s : ByteArray) (hs : s.size ≤ maxLen) (w : World) (hL : Laid w) :
    Calls Tryd.prog 45 #[.string s] w fun e w' => e = .returned (.int .i64 (codeN (nameL s.data.toList) 30)) ∧ w = w' := by
  have HL := Lib.hid hL
  clear hL
  go_enter Tryd.func45, Tryd.ntmps45
  go_wp2_with fail
  refine (isName_any s hs _ HL.out).mono ?_
  rintro e w' ⟨rfl, rfl⟩
  go_wp2_with fail
  refine (unless_any _ _ _).mono ?_
  rintro e w' ⟨rfl, rfl⟩
  go_wp2_with fail
  go_ret
  exact ⟨rfl, rfl⟩
theorem val_any (s : ByteArray) (hs : s.size ≤ maxLen) (w : World) (hL : Laid w) :
    Calls Tryd.prog 59 #[.string s] w fun e w' => e = .returned (.int .i64 (codeN (valL s.data.toList) 32)) ∧ w = w' := by
  have HL := Lib.hid hL
  clear hL
  go_enter Tryd.func59, Tryd.ntmps59
  go_wp2_with fail
  refine (isVal_any s hs _ HL.out).mono ?_
  rintro e w' ⟨rfl, rfl⟩
  go_wp2_with fail
  refine (unless_any _ _ _).mono ?_
  rintro e w' ⟨rfl, rfl⟩
  go_wp2_with fail
  go_ret
  exact ⟨rfl, rfl⟩
theorem key_any (s : ByteArray) (hs : s.size < 4294967281) (w : World) (hL : Laid w) :
    Calls Tryd.prog 58 #[.string s] w fun e w' => e = .returned (.int .i64 (codeN (keyL s.data.toList) 31)) ∧ Below w.heap.size w w' := by
  have HL := Lib.hid hL
  clear hL
  go_enter Tryd.func58, Tryd.ntmps58
  go_wp2_with fail
  refine (isKey_any s hs _ HL.out).mono ?_
  rintro e w1 ⟨rfl, hb⟩
  go_wp2_with fail
  refine (unless_any _ _ _).mono ?_
  rintro e w' ⟨rfl, rfl⟩
  go_wp2_with fail
  go_ret
  exact ⟨rfl, hb⟩
theorem image_any (s : ByteArray) (hs : s.size < 4294967281) (w : World) (hL : Laid w) :
    Calls Tryd.prog 64 #[.string s] w fun e w' => e = .returned (.int .i64 (codeN (imageB s) 33)) ∧ Below w.heap.size w w' := by
  have HL := Lib.hid hL
  clear hL
  go_enter Tryd.func64, Tryd.ntmps64
  go_wp2_with fail
  refine (parts_any s hs _ HL.out).mono ?_
  rintro e w1 ⟨rfl, hb⟩
  go_wp2_with fail
  refine (unless_any _ _ _).mono ?_
  rintro e w' ⟨rfl, rfl⟩
  go_wp2_with fail
  go_ret
  exact ⟨rfl, hb⟩
/-- an image's repository and tag; of what is none the empty text -/
def repoB (s : ByteArray) : ByteArray := if imageB s then fstB s 58 else ⟨#[]⟩
def tagB' (s : ByteArray) : ByteArray := if imageB s then sndB s 58 else ⟨#[]⟩
/-- are both images of one repository? -/
def sameB (a b : ByteArray) : Bool := imageB a && imageB b && ((fstB a 58).toList == (fstB b 58).toList)
end Text
end Go.Proofs.YtpllcnpmjnmcfaaDoor

/-
  Plain arithmetic for layer 1 (num): when a sum or a product of two 64-bit integers fits, and what Go's checks by division and by sizes say of it. No condition.
-/
namespace Go.Proofs.YtpllcnpmjnmcfaaDoor.NumMath
open Go.RowKit (wrap64)

/-- 'an int can be that' -/
def fits (n : Int) : Bool := decide (-9223372036854775808 ≤ n ∧ n ≤ 9223372036854775807)
theorem fits_yes {n : Int} (h1 : -9223372036854775808 ≤ n) (h2 : n ≤ 9223372036854775807) : fits n = true := by
  unfold fits; exact decide_eq_true ⟨h1, h2⟩
theorem fits_no {n : Int} (h : n < -9223372036854775808 ∨ 9223372036854775807 < n) : fits n = false := by
  unfold fits; exact decide_eq_false (by omega)
theorem fits_iff {n : Int} : fits n = true ↔ (-9223372036854775808 ≤ n ∧ n ≤ 9223372036854775807) := by
  unfold fits; exact decide_eq_true_iff
theorem fits_wf {a : Int} (h : (Lit.int .i64 a).wf = true) : fits a = true := by
  have := bounds_i64 h
  exact fits_yes this.1 this.2
/-- the value beside the answer -/
def val (n : Int) : Int := if fits n = true then n else 0
theorem val_yes {n : Int} (h : fits n = true) : val n = n := by unfold val; rw [if_pos h]
theorem val_no {n : Int} (h : fits n = false) : val n = 0 := by unfold val; rw [if_neg (by simp [h])]
theorem wrap_fits {n : Int} (h : fits n = true) : wrap64 n = n := by
  have := fits_iff.1 h; exact IntWalk.wrap64_in n this
theorem abs_lt_of_tdiv {x b a : Int} (hb : b ≠ 0) (h : x.tdiv b = a) : (x - a * b).natAbs < b.natAbs := by
  have h1 : x - a * b = x.tmod b := by
    have := Int.tmod_add_mul_tdiv x b
    rw [h] at this
    rw [Int.mul_comm a b]; omega
  rw [h1, Int.natAbs_tmod]
  exact Nat.mod_lt _ (by omega)
/-- Go's check of a product by division is exact. -/
theorem mul_check {a b : Int} (ha : fits a = true) (hb : fits b = true) (h0 : b ≠ 0) (hm : ¬ (a = -9223372036854775808 ∧ b = -1)) :
    (wrap64 ((wrap64 (a * b)).tdiv b) = a) ↔ fits (a * b) = true := by
  have hA := fits_iff.1 ha
  have hB := fits_iff.1 hb
  constructor
  · intro h
    have hw : -9223372036854775808 ≤ wrap64 (a * b) ∧ wrap64 (a * b) ≤ 9223372036854775807 := by unfold wrap64; omega
    have hmod : ∃ k : Int, a * b = wrap64 (a * b) + 18446744073709551616 * k := by
      unfold wrap64
      refine ⟨(a * b + 9223372036854775808) / 18446744073709551616, ?_⟩
      omega
    obtain ⟨k, hk⟩ := hmod
    generalize wrap64 (a * b) = w at *
    have hq : (w.tdiv b).natAbs ≤ w.natAbs := by rw [Int.natAbs_tdiv]; exact Nat.div_le_self _ _
    by_cases hbig : w.tdiv b = 9223372036854775808
    · exfalso
      rw [hbig] at h
      have ha' : a = -9223372036854775808 := by rw [← h]; unfold wrap64; omega
      have hl := abs_lt_of_tdiv h0 hbig
      have hb1 : b = -1 := by
        by_cases hbp : 0 < b
        · have : 9223372036854775808 * 1 ≤ 9223372036854775808 * b := Int.mul_le_mul_of_nonneg_left (by omega) (by omega)
          omega
        · by_cases hb2 : b = -1
          · exact hb2
          · have : 9223372036854775808 * b ≤ 9223372036854775808 * (-2) := Int.mul_le_mul_of_nonneg_left (by omega) (by omega)
            omega
      exact hm ⟨ha', hb1⟩
    · have h' : w.tdiv b = a := by
        rw [IntWalk.wrap64_in _ (by omega)] at h; exact h
      have hl := abs_lt_of_tdiv h0 h'
      have : a * b = w := by omega
      rw [this]; exact fits_yes hw.1 hw.2
  · intro h
    rw [wrap_fits h, Int.mul_tdiv_cancel _ h0]
    exact IntWalk.wrap64_in _ hA
/-- the greatest size that a product of these signs may have -/
def mostSize (a b : Int) : Nat := if decide (a < 0) = decide (b < 0) then 9223372036854775807 else 9223372036854775808
theorem mul_sizes (a b : Int) : (0 < a.natAbs ∧ mostSize a b / a.natAbs < b.natAbs) ↔ fits (a * b) = false := by
  by_cases h0 : a.natAbs = 0
  · have : a = 0 := by omega
    subst this
    simp [fits]
  · have hx : 0 < a.natAbs := by omega
    rw [Nat.div_lt_iff_lt_mul hx]
    have key : (a * b).natAbs = b.natAbs * a.natAbs := by rw [Int.natAbs_mul, Nat.mul_comm]
    rw [← key]
    have hs : (0 ≤ a ∧ 0 ≤ b ∧ 0 ≤ a * b) ∨ (a < 0 ∧ b < 0 ∧ 0 ≤ a * b) ∨ (0 ≤ a ∧ b < 0 ∧ a * b ≤ 0) ∨ (a < 0 ∧ 0 ≤ b ∧ a * b ≤ 0) := by
      rcases Int.lt_or_le a 0 with h1 | h1 <;> rcases Int.lt_or_le b 0 with h2 | h2
      · exact .inr (.inl ⟨h1, h2, Int.mul_nonneg_of_nonpos_of_nonpos (by omega) (by omega)⟩)
      · exact .inr (.inr (.inr ⟨h1, h2, Int.mul_nonpos_of_nonpos_of_nonneg (by omega) h2⟩))
      · exact .inr (.inr (.inl ⟨h1, h2, Int.mul_nonpos_of_nonneg_of_nonpos h1 (by omega)⟩))
      · exact .inl ⟨h1, h2, Int.mul_nonneg h1 h2⟩
    generalize a * b = p at *
    unfold fits mostSize
    rcases hs with ⟨h1, h2, h3⟩ | ⟨h1, h2, h3⟩ | ⟨h1, h2, h3⟩ | ⟨h1, h2, h3⟩
    · have e1 : decide (a < 0) = false := decide_eq_false (by omega)
      have e2 : decide (b < 0) = false := decide_eq_false (by omega)
      rw [e1, e2, if_pos rfl, decide_eq_false_iff_not]; omega
    · have e1 : decide (a < 0) = true := decide_eq_true (by omega)
      have e2 : decide (b < 0) = true := decide_eq_true (by omega)
      rw [e1, e2, if_pos rfl, decide_eq_false_iff_not]; omega
    · have e1 : decide (a < 0) = false := decide_eq_false (by omega)
      have e2 : decide (b < 0) = true := decide_eq_true (by omega)
      rw [e1, e2, if_neg (by simp), decide_eq_false_iff_not]
      have : p.natAbs ≠ 0 ∨ p = 0 := by omega
      omega
    · have e1 : decide (a < 0) = true := decide_eq_true (by omega)
      have e2 : decide (b < 0) = false := decide_eq_false (by omega)
      rw [e1, e2, if_neg (by simp), decide_eq_false_iff_not]
      omega
end Go.Proofs.YtpllcnpmjnmcfaaDoor.NumMath

/-
  The contract of the document's size of a number: its magnitude as a 64-bit number without sign; the world is left alone. Condition: the argument is a 64-bit integer.
-/
namespace Go.Proofs.YtpllcnpmjnmcfaaDoor
open Go.ChangeShapes Go.WideShapes Go.ChangeAt Go.RowKit
open NumMath
namespace NumRefSize

theorem size_any (a : Int) (w : World) (ha : fits a = true) :
    Calls Tryd.prog 52 #[.int .i64 a] w fun e w' => e = .returned (.int .u64 (a.natAbs : Int)) ∧ w = w' := by
  have hA := fits_iff.1 ha
  clear ha
  by_cases hs : a < 0
  · go_enter Tryd.func52, Tryd.ntmps52
    go_wp2
    go_ret
    refine ⟨congrArg (fun n => Ending.returned (.int .u64 n)) ?_, rfl⟩
    rw [IntKind.wrap_u64, IntKind.wrap_u64]
    omega
  · go_enter Tryd.func52, Tryd.ntmps52
    go_wp2
    go_ret
    refine ⟨congrArg (fun n => Ending.returned (.int .u64 n)) ?_, rfl⟩
    omega
end NumRefSize
end Go.Proofs.YtpllcnpmjnmcfaaDoor

/-
  A text of one byte out of a slice of one, and such a text ahead of another. Condition: the byte's cell holds it.
-/
namespace Go.Proofs.YtpllcnpmjnmcfaaDoor
open Go.ChangeShapes Go.WideShapes Go.ChangeAt Go.RowKit
namespace OneByte

set_option maxRecDepth 100000 in
theorem run_one (v : Int) (c : UInt8) (hv : v = c.toNat) (W : World) (b : Nat) (h : W.cell? ⟨b, 0, none⟩ = some (.int .u8 v)) :
    (convert 79 9 (.slice (some ⟨b, 0, none⟩) 1 1)).run Tryd.prog W = .ok (.string ⟨[c].toArray⟩) W := by
  subst hv
  have := run_convert_bytes_arg (P := Tryd.prog) W 79 5 Tryd.underlying79 Tryd.underlying5 b 0 1 1 [(c.toNat : Int)] (by simp)
    (fun i hi => by
      obtain rfl : i = 0 := by omega
      simpa using h) 9 Tryd.underlying9
  rw [this]
  congr 3
  unfold strOfNums
  simp
theorem ret_cat {c : UInt8} {l m : List UInt8} (h : m = [c] ++ l) : Ending.returned (.string (ByteArray.mk #[c] ++ ByteArray.mk l.toArray)) = .returned (.string ⟨m.toArray⟩) := by
  have e := ByteArray.mk_append_mk [c] l
  rw [h, ← e]
end OneByte
end Go.Proofs.YtpllcnpmjnmcfaaDoor
