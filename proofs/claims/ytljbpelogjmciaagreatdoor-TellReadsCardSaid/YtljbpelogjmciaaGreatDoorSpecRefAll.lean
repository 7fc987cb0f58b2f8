/-
 The document's words of what may be a spec, in plain functions: the first code, and the path's text. No condition. And what follows of it, part by part, each with its conditions.
-/
import Derived.Test.YtljbpelogjmciaaGreatDoorSpecDataAll
import Derived.Test.YtljbpelogjmciaaGreatDoorTextAll
import Derived.Test.YtljbpelogjmciaaGreatDoorNumRefText
import Derived.Test.YtljbpelogjmciaaGreatDoorTextRefAll
import Derived.Test.YtljbpelogjmciaaGreatDoorChecked
import Derived.Lib.ItoaLen
import Derived.Laws.Concat
import Derived.IntWalk
import Derived.Deep.QuietTactic
import Derived.BigQuiet
import Derived.WalkKit
import Derived.ProofKit
set_option maxRecDepth 100000
namespace Go.Proofs.YtljbpelogjmciaaGreatDoor
open TextPure
namespace Sd
def isName (s : ByteArray) : Bool := nameL s.data.toList
def isKey (s : ByteArray) : Bool := keyL s.data.toList
def isVal (s : ByteArray) : Bool := valL s.data.toList
def isImage (s : ByteArray) : Bool := imageL s.data.toList
def atB (name : ByteArray) (i : Nat) : ByteArray := name ++ ⟨#[91]⟩ ++ ⟨(Lib.itoa (i : Int)).toArray⟩ ++ ⟨#[93]⟩
def t_name : ByteArray := ⟨#[110, 97, 109, 101]⟩
def t_labels : ByteArray := ⟨#[108, 97, 98, 101, 108, 115]⟩
def t_key : ByteArray := ⟨#[46, 107, 101, 121]⟩
def t_val : ByteArray := ⟨#[46, 118, 97, 108]⟩
def t_init : ByteArray := ⟨#[105, 110, 105, 116]⟩
def t_main : ByteArray := ⟨#[109, 97, 105, 110]⟩
def t_image : ByteArray := ⟨#[105, 109, 97, 103, 101]⟩
def t_req : ByteArray := ⟨#[114, 101, 113, 46]⟩
def t_lim : ByteArray := ⟨#[108, 105, 109, 46]⟩
def t_cpu : ByteArray := ⟨#[99, 112, 117]⟩
def t_mem : ByteArray := ⟨#[109, 101, 109]⟩
def t_pids : ByteArray := ⟨#[112, 105, 100, 115]⟩
def t_ports : ByteArray := ⟨#[112, 111, 114, 116, 115]⟩
def t_every : ByteArray := ⟨#[112, 114, 111, 98, 101, 46, 101, 118, 101, 114, 121]⟩
def t_fails : ByteArray := ⟨#[112, 114, 111, 98, 101, 46, 102, 97, 105, 108, 115]⟩
def t_restart : ByteArray := ⟨#[114, 101, 115, 116, 97, 114, 116]⟩
def t_grace : ByteArray := ⟨#[103, 114, 97, 99, 101]⟩
def t_prio : ByteArray := ⟨#[112, 114, 105, 111]⟩
abbrev Say := Int × ByteArray
def fine : Say := (0, ⟨#[]⟩)
def notMore (p : Option Lbl) (x : Lbl) : Bool := match p with
 | none => false
 | some q => !(Op.bytesLess q.key.toList x.key.toList)
def labelsFrom (name : ByteArray) : Nat → Option Lbl → List Lbl → Say
 | _, _, [] => fine
 | i, p, x :: l =>
  if isKey x.key = false then (31, atB name i ++ t_key)
  else if notMore p x = true then (4, atB name i ++ t_key)
  else if isVal x.val = false then (32, atB name i ++ t_val)
  else labelsFrom name (i + 1) (some x) l
theorem labelsFrom_cons (name : ByteArray) (i : Nat) (p : Option Lbl) (x : Lbl) (l : List Lbl) : labelsFrom name i p (x :: l) =
 if isKey x.key = false then (31, atB name i ++ t_key) else if notMore p x = true then (4, atB name i ++ t_key) else if isVal x.val = false then (32, atB name i ++ t_val) else labelsFrom name (i + 1) (some x) l := by
 cases p <;> rfl
def labelsV (name : ByteArray) (l : List Lbl) : Say := if 4 < l.length then (2, name) else labelsFrom name 0 none l
def big : Int := 1099511627776
def numV (free : Bool) (n least : Int) : Bool := (!free || n != 0) && (decide (n < least) || decide (big < n))
def numsV (free : Bool) (n0 n1 n2 l0 l1 l2 : Int) : Int := if numV free n0 l0 then 0 else if numV free n1 l1 then 1 else if numV free n2 l2 then 2 else -1
def t_res (k : Int) : ByteArray := if k = 0 then t_cpu else if k = 1 then t_mem else t_pids
def hasV (l : List Ctr) (p : Int) : Bool := l.any fun c => c.ports.contains p
def portsFrom (ahead : List Ctr) : Nat → List Int → List Int → Say
 | _, _, [] => fine
 | k, seen, p :: l =>
  if p < 1 ∨ 65535 < p then (1, atB t_ports k)
  else if hasV ahead p || seen.contains p then (150, atB t_ports k)
  else portsFrom ahead (k + 1) (seen ++ [p]) l
def probeV (ev fl : Int) (init : Bool) : Say :=
 if ev < 0 ∨ 1000 < ev ∨ (init = true ∧ 0 < ev) then (1, t_every)
 else if (ev = 0 ∧ fl ≠ 0) ∨ (0 < ev ∧ (fl < 1 ∨ 10 < fl)) then (1, t_fails)
 else fine
def oneV (x : Ctr) (ahead : List Ctr) (init : Bool) : Say :=
 if isName x.name = false then (30, t_name)
 else if ahead.any (fun c => c.name.toList == x.name.toList) then (7, t_name)
 else if isImage x.image = false then (33, t_image)
 else if 0 ≤ numsV false x.rc x.rm x.rp 0 0 0 then (1, t_req ++ t_res (numsV false x.rc x.rm x.rp 0 0 0))
 else if 0 ≤ numsV true x.lc x.lm x.lp x.rc x.rm x.rp then (1, t_lim ++ t_res (numsV true x.lc x.lm x.lp x.rc x.rm x.rp))
 else if 3 < x.ports.length ∨ (init = true ∧ 0 < x.ports.length) then (2, t_ports)
 else if (portsFrom ahead 0 [] x.ports).1 ≠ 0 then portsFrom ahead 0 [] x.ports
 else probeV x.ev x.fl init
def ctrsFrom (name : ByteArray) (init : Bool) : Nat → List Ctr → List Ctr → Say
 | _, _, [] => fine
 | i, ahead, x :: l => if (oneV x ahead init).1 ≠ 0 then ((oneV x ahead init).1, atB name i ++ ⟨#[46]⟩ ++ (oneV x ahead init).2) else ctrsFrom name init (i + 1) (ahead ++ [x]) l
def tailV (S : Spc) : Say :=
 if S.restart < 1 ∨ 3 < S.restart then (1, t_restart)
 else if S.grace < 0 ∨ 1000 < S.grace then (1, t_grace)
 else if S.prio < 0 ∨ 10 < S.prio then (1, t_prio)
 else fine
def checkV (S : Spc) : Say :=
 if isName S.name = false then (30, t_name)
 else if (labelsV t_labels S.labels).1 ≠ 0 then labelsV t_labels S.labels
 else if 3 < S.init.length then (2, t_init)
 else if (ctrsFrom t_init true 0 [] S.init).1 ≠ 0 then ctrsFrom t_init true 0 [] S.init
 else if S.main.length < 1 ∨ 4 < S.main.length then (2, t_main)
 else if (ctrsFrom t_main false 0 S.init S.main).1 ≠ 0 then ctrsFrom t_main false 0 S.init S.main
 else tailV S
end Sd
end Go.Proofs.YtljbpelogjmciaaGreatDoor
namespace Go.Proofs.YtljbpelogjmciaaGreatDoor
open Go.ChangeShapes Go.WideShapes Go.ChangeAt Go.RowKit Go.Lib
open Sd Lists
namespace SpecRef
theorem at_any (s : ByteArray) (k : Nat) (hs : s.size ≤ 1000000) (hk : k ≤ 1000000) (w : World) :
 Calls Tryz.prog 151 #[.string s, .int .i64 k] w fun e w' => e = .returned (.string (atB s k)) ∧ Below w.heap.size w w' := by
 have hl : (itoa (k : Int)).length ≤ 21 := itoa_length_le _ (by omega) (by omega)
 obtain ⟨d, hd⟩ : ∃ d : ByteArray, (⟨(itoa (k : Int)).toArray⟩ : ByteArray) = d := ⟨_, rfl⟩
 have hds : d.size ≤ 21 := by rw [← hd]; show (itoa (k : Int)).toArray.size ≤ 21; simpa using hl
 have a1 : ∀ v, (Op.stringOp .add s ⟨#[91]⟩).run Tryz.prog v = .ok (.string (s ++ ⟨#[91]⟩)) v := fun v => run_string_add_sum v _ _ (by show _ + 1 ≤ _; omega)
 have a2 : ∀ v, (Op.stringOp .add (s ++ ⟨#[91]⟩) d).run Tryz.prog v = .ok (.string (s ++ ⟨#[91]⟩ ++ d)) v := fun v => run_string_add_sum v _ _ (by rw [ByteArray.size_append]; show _ + 1 + _ ≤ _; omega)
 have a3 : ∀ v, (Op.stringOp .add (s ++ ⟨#[91]⟩ ++ d) ⟨#[93]⟩).run Tryz.prog v = .ok (.string (s ++ ⟨#[91]⟩ ++ d ++ ⟨#[93]⟩)) v := fun v => run_string_add_sum v _ _ (by rw [ByteArray.size_append, ByteArray.size_append]; show _ + 1 + _ + 1 ≤ _; omega)
 have HD := hid (show s ++ ⟨#[91]⟩ ++ d ++ ⟨#[93]⟩ = atB s k by rw [← hd]; rfl)
 have HE := hid hd
 clear hd
 go_enter Tryz.func151, Tryz.ntmps151
 go_wp2_with fail
 refine (NumRefText.refText_any k w (by omega) (by omega)).mono ?_
 rw [HE.out]
 rintro e w1 ⟨rfl, hb⟩
 go_wp2
 go_ret
 exact ⟨congrArg (fun x => Ending.returned (.string x)) HD.out, hb⟩
theorem three_any (a b c : Int) (w : World) : Calls Tryz.prog 188 #[.agg #[.int .i64 a, .int .i64 b, .int .i64 c]] w fun e w' => e = .returned (.agg #[.int .i64 a, .int .i64 b, .int .i64 c]) ∧ Below w.heap.size w w' := by
 go_enter Tryz.func188, Tryz.ntmps188
 go_wp2
 exact bodyPost_ret (v := .agg #[.int .i64 a, .int .i64 b, .int .i64 c]) (by simp [results, Tryz.f188, go_sem]) rfl ⟨rfl, ((Below.refl _ _).alloc (Nat.le_refl _) _).alloc (by simp) _⟩
theorem atB_size (name : ByteArray) (k : Nat) (hk : k ≤ 1000000) : (atB name k).size ≤ name.size + 23 := by
 have h1 : (itoa (k : Int)).length ≤ 21 := itoa_length_le _ (by omega) (by omega)
 have h2 : (⟨(itoa (k : Int)).toArray⟩ : ByteArray).size = (itoa (k : Int)).length := by show (itoa (k : Int)).toArray.size = _; simp
 unfold atB
 rw [ByteArray.size_append, ByteArray.size_append, ByteArray.size_append, h2]
 show _ + 1 + _ + 1 ≤ _
 omega
def LHere (name : ByteArray) (l : List Lbl) (k : Nat) : Prop := labelsV name l = labelsFrom name k (if k = 0 then none else l[k - 1]?) (l.drop k)
theorem ret_two {a c : Int} {s t : ByteArray} {p : Say} (h : p = (a, s)) (h1 : a = c) (h2 : s = t) : Ending.returned (.tuple #[.int .i64 c, .string t]) = .returned (.tuple #[.int .i64 p.1, .string p.2]) := by subst h h1 h2; rfl
set_option maxHeartbeats 1000000 in
theorem labels_ref_all (name : ByteArray) (A : Option Addr) (cap : Nat) (l : List Lbl) (hn : name.size ≤ 1000) (hl : l.length ≤ 9223372036854775807) (w : World) (h : Lbls w A l) :
 Calls Tryz.prog 149 #[.string name, .slice A l.length cap] w fun e w' => e = .returned (.tuple #[.int .i64 (labelsV name l).1, .string (labelsV name l).2]) ∧ Below w.heap.size w w' := by
 have H := hid h
 have HN := hid hn
 have hl' : (l.length : Int) ≤ 9223372036854775807 := by omega
 clear h
 by_cases h4 : 4 < l.length
 · have HE := hid (show labelsV name l = (2, name) by unfold labelsV; rw [if_pos h4])
   go_enter Tryz.func149, Tryz.ntmps149
   go_wp2
   go_ret2
   exact ⟨ret_two HE.out rfl rfl, Below.refl _ _⟩
 · have HE := hid (show LHere name l 0 by unfold LHere labelsV; rw [if_neg h4]; rfl)
   have H4 := hid h4
   go_enter Tryz.func149, Tryz.ntmps149
   go_wp2_with fail
   go_loopw [6] (fun i wr => ∃ k : Nat, k ≤ l.length ∧ i = .int .i64 k ∧ Hid (LHere name l k) ∧ Hid (Below w.heap.size w wr)) (fun i _ => l.length - (RowKit.intOf i).toNat)
   case atStart => exact ⟨0, Nat.zero_le _, rfl, HE.out, Below.refl _ _⟩
   case round =>
    obtain ⟨k, hk, rfl, HK, HW⟩ := hrel
    by_cases hlt : k < l.length
    · obtain ⟨p, rfl, hp, hc⟩ := (H.out.below HW.out).at hlt
      obtain ⟨x, hx⟩ : ∃ x, l[k] = x := ⟨_, rfl⟩
      rw [hx] at hc
      obtain ⟨c0, c1⟩ := hc
      have HX := hid hx
      clear hx
      have hkn : (k : Int) < (l.length : Int) := by omega
      have HS := hid (show labelsV name l = labelsFrom name k (if k = 0 then none else l[k - 1]?) (x :: l.drop (k + 1)) by
       have := HK.out
       unfold LHere at this
       rw [this, List.drop_eq_getElem_cons hlt, HX.out])
      have hks := HN.out
      go_wp2_with fail
      refine (Text.key_ref_all x.key wr).mono ?_
      rintro e w5 ⟨rfl, hb5⟩; have HW5 := hid (HW.out.trans (hb5.mono HW.out.size))
      obtain ⟨p', hpp, hp5, hc5⟩ := (H.out.below HW5.out).at hlt
      injection hpp with hpp
      subst hpp
      rw [HX.out] at hc5
      obtain ⟨d0, d1⟩ := hc5
      have hat := at_any name k (by omega) (by omega)
      clear hb5 c0 c1 hp
      cases hkey : TextPure.keyL x.key.data.toList with
      | false =>
       have HD := hid (show labelsV name l = (31, atB name k ++ t_key) by rw [HS.out, labelsFrom_cons, if_pos (show isKey x.key = false from hkey)])
       have hasz := atB_size name k (by omega)
       obtain ⟨u, hu⟩ : ∃ u, atB name k = u := ⟨_, rfl⟩
       have HU := hid hu
       rw [hu] at hasz
       have hadd : ∀ v, (Op.stringOp .add u ⟨#[46, 107, 101, 121]⟩).run Tryz.prog v = .ok (.string (u ++ ⟨#[46, 107, 101, 121]⟩)) v := fun v => run_string_add_sum v _ _ (by show _ + 4 ≤ _; omega)
       clear hkey hu; go_wp2_with fail
       refine (hat _).mono ?_
       rw [HU.out]; rintro e w6 ⟨rfl, hb6⟩; go_wp2
       go_ret2
       exact ⟨ret_two HD.out rfl (by rw [HU.out]; rfl), HW5.out.trans (hb6.mono HW5.out.size)⟩
      | true =>
       have HKEY := hid hkey
       clear hkey; obtain ⟨o, ho⟩ : ∃ o, notMore (if k = 0 then none else l[k - 1]?) x = o := ⟨_, rfl⟩
       have HO := hid ho
       rcases k with _ | m
       · have e0 : p.add (0 * 2) = p := by simp [Addr.add]
         rw [e0] at d0 d1
         have ho' : o = false := by rw [← ho]; rfl
         subst ho'
         clear ho e0; go_wp2_with fail
         go_quiet (fail)
         go_wp2_with fail
         refine (Text.val_ref_all x.val _).mono ?_
         rintro e w6 ⟨rfl, rfl⟩
         cases hval : TextPure.valL x.val.data.toList with
         | false =>
          have HVAL := hid hval
          clear hval; have HD := hid (show labelsV name l = (32, atB name (0) ++ t_val) by rw [HS.out, labelsFrom_cons, if_neg (show ¬ isKey x.key = false by show ¬ TextPure.keyL _ = _; rw [HKEY.out]; simp), if_neg (show ¬ notMore _ x = true by rw [HO.out]; simp), if_pos (show isVal x.val = false from HVAL.out)])
          have hasz := atB_size name (0) (by omega)
          obtain ⟨u, hu⟩ : ∃ u, atB name (0) = u := ⟨_, rfl⟩
          have HU := hid hu
          rw [hu] at hasz
          have hadd : ∀ v, (Op.stringOp .add u ⟨#[46, 118, 97, 108]⟩).run Tryz.prog v = .ok (.string (u ++ ⟨#[46, 118, 97, 108]⟩)) v := fun v => run_string_add_sum v _ _ (by show _ + 4 ≤ _; omega)
          clear hu; go_wp2_with fail
          refine (hat _).mono ?_
          rw [HU.out]; rintro e w7 ⟨rfl, hb7⟩; have HB7 := hid (HW5.out.trans (((Kit.below_drewN _ _ _).trans hb7).mono HW5.out.size)); clear hb7; go_wp2
          go_ret2
          exact ⟨ret_two HD.out rfl (by rw [HU.out]; rfl), HB7.out⟩
         | true =>
          have HNX := hid (show LHere name l (0 + 1) by
           unfold LHere
           rw [HS.out, labelsFrom_cons, if_neg (show ¬ isKey x.key = false by show ¬ TextPure.keyL _ = _; rw [HKEY.out]; simp), if_neg (show ¬ notMore _ x = true by rw [HO.out]; simp), if_neg (show ¬ isVal x.val = false by show ¬ TextPure.valL _ = _; rw [hval]; simp), if_neg (by omega), show 0 + 1 - 1 = 0 by omega, List.getElem?_eq_getElem hlt, HX.out])
          clear hval; go_wp2
          go_roundw
          case rel => exact ⟨0 + 1, by omega, by go_num, HNX.out, HW5.out.trans ((Kit.below_drewN _ _ _).mono HW5.out.size)⟩
          case measure => simp [RowKit.intOf]; omega
       · obtain ⟨p', hpp, hpb, hcp⟩ := (H.out.below HW5.out).at (k := m) (by omega)
         injection hpp with hpp
         subst hpp; obtain ⟨y, hy⟩ : ∃ y, l[m] = y := ⟨_, rfl⟩
         have ho' : o = !(Op.bytesLess y.key.toList x.key.toList) := by
          rw [← ho, if_neg (by omega), show m + 1 - 1 = m by omega, List.getElem?_eq_getElem (by omega), hy]; rfl
         rw [hy] at hcp
         obtain ⟨g0, g1⟩ := hcp
         have hwr : IntKind.i64.wrap (m : Int) = (m : Int) := IntWalk.i64_in _ (by omega)
         have hm0 : (0 : Int) ≤ (m : Int) := by omega
         have hmn : (m : Int) < (l.length : Int) := by omega
         have hmn1 : (m : Int) + 1 < (l.length : Int) := by omega
         have hmn2 : m < l.length := by omega
         have hp0 : (0 : Int) ≤ (m : Int) + 1 := by omega
         have hp1 : ((m : Int) + 1).toNat = m + 1 := by omega
         clear ho hy g1
         cases o with
         | true =>
          have hbl : Op.bytesLess y.key.toList x.key.toList = false := by simpa using ho'.symm
          have hge : ∀ v, (binOp .geq 9 (.string y.key) (.string x.key)).run Tryz.prog v = .ok (.bool true) v := fun v => by simp [binOp, Op.stringOp, hbl]
          clear ho' hbl; go_wp2_with fail
          go_quiet (fail)
          have HD := hid (show labelsV name l = (4, atB name (m + 1) ++ t_key) by rw [HS.out, labelsFrom_cons, if_neg (show ¬ isKey x.key = false by show ¬ TextPure.keyL _ = _; rw [HKEY.out]; simp), if_pos HO.out])
          have hasz := atB_size name (m + 1) (by omega)
          obtain ⟨u, hu⟩ : ∃ u, atB name (m + 1) = u := ⟨_, rfl⟩
          have HU := hid hu
          rw [hu] at hasz
          have hadd : ∀ v, (Op.stringOp .add u ⟨#[46, 107, 101, 121]⟩).run Tryz.prog v = .ok (.string (u ++ ⟨#[46, 107, 101, 121]⟩)) v := fun v => run_string_add_sum v _ _ (by show _ + 4 ≤ _; omega)
          clear hu; go_wp2_with fail
          refine (hat _).mono ?_
          rw [HU.out]; rintro e w7 ⟨rfl, hb7⟩; have HB7 := hid (HW5.out.trans (((Kit.below_drewN _ _ _).trans hb7).mono HW5.out.size)); clear hb7; go_wp2
          go_ret2
          exact ⟨ret_two HD.out rfl (by rw [HU.out]; rfl), HB7.out⟩
         | false =>
          have hbl : Op.bytesLess y.key.toList x.key.toList = true := by simpa using ho'.symm
          have hge : ∀ v, (binOp .geq 9 (.string y.key) (.string x.key)).run Tryz.prog v = .ok (.bool false) v := fun v => by simp [binOp, Op.stringOp, hbl]
          clear ho' hbl; go_wp2_with fail
          go_quiet (fail)
          go_wp2_with fail
          refine (Text.val_ref_all x.val _).mono ?_
          rintro e w6 ⟨rfl, rfl⟩
          cases hval : TextPure.valL x.val.data.toList with
          | false =>
           have HVAL := hid hval
           clear hval; have HD := hid (show labelsV name l = (32, atB name (m + 1) ++ t_val) by rw [HS.out, labelsFrom_cons, if_neg (show ¬ isKey x.key = false by show ¬ TextPure.keyL _ = _; rw [HKEY.out]; simp), if_neg (show ¬ notMore _ x = true by rw [HO.out]; simp), if_pos (show isVal x.val = false from HVAL.out)])
           have hasz := atB_size name (m + 1) (by omega)
           obtain ⟨u, hu⟩ : ∃ u, atB name (m + 1) = u := ⟨_, rfl⟩
           have HU := hid hu
           rw [hu] at hasz
           have hadd : ∀ v, (Op.stringOp .add u ⟨#[46, 118, 97, 108]⟩).run Tryz.prog v = .ok (.string (u ++ ⟨#[46, 118, 97, 108]⟩)) v := fun v => run_string_add_sum v _ _ (by show _ + 4 ≤ _; omega)
           clear hu; go_wp2_with fail
           refine (hat _).mono ?_
           rw [HU.out]; rintro e w7 ⟨rfl, hb7⟩; have HB7 := hid (HW5.out.trans (((Kit.below_drewN _ _ _).trans hb7).mono HW5.out.size)); clear hb7; go_wp2
           go_ret2
           exact ⟨ret_two HD.out rfl (by rw [HU.out]; rfl), HB7.out⟩
          | true =>
           have HNX := hid (show LHere name l (m + 1 + 1) by
            unfold LHere
            rw [HS.out, labelsFrom_cons, if_neg (show ¬ isKey x.key = false by show ¬ TextPure.keyL _ = _; rw [HKEY.out]; simp), if_neg (show ¬ notMore _ x = true by rw [HO.out]; simp), if_neg (show ¬ isVal x.val = false by show ¬ TextPure.valL _ = _; rw [hval]; simp), if_neg (by omega), show m + 1 + 1 - 1 = m + 1 by omega, List.getElem?_eq_getElem hlt, HX.out])
           clear hval; go_wp2
           go_roundw
           case rel => exact ⟨m + 1 + 1, by omega, by go_num, HNX.out, HW5.out.trans ((Kit.below_drewN _ _ _).mono HW5.out.size)⟩
           case measure => simp [RowKit.intOf]; omega
    · have HD := hid (show labelsV name l = fine by have := HK.out; unfold LHere at this; rw [this, List.drop_eq_nil_of_le (by omega)]; rfl)
      go_wp2
      go_ret2
      exact ⟨ret_two HD.out rfl rfl, HW.out⟩
theorem labels_ref (name : ByteArray) (A : Option Addr) (cap : Nat) (l : List Lbl) (hn : name.size ≤ 1000) (hl : l.length ≤ 9223372036854775807) (_hlight : ∀ x ∈ l, x.key.size ≤ 100 ∧ x.val.size ≤ 100) (w : World) (h : Lbls w A l) :
 Calls Tryz.prog 149 #[.string name, .slice A l.length cap] w fun e w' => e = .returned (.tuple #[.int .i64 (labelsV name l).1, .string (labelsV name l).2]) ∧ Below w.heap.size w w' := labels_ref_all name A cap l hn hl w h
theorem numV_yes {free : Bool} {x y : Int} (h0 : free = false ∨ x ≠ 0) (h1 : x < y ∨ 1099511627776 < x) : numV free x y = true := by
 have a1 : (decide (x < y) || decide (big < x)) = true := by
  rcases h1 with h1 | h1
  · rw [decide_eq_true h1]; rfl
  · rw [decide_eq_true (show big < x from h1)]; exact Bool.or_true _
 have a0 : (!free || x != 0) = true := by
  rcases h0 with rfl | h0
  · rfl
  · rw [show (x != 0) = true by simpa using h0]; exact Bool.or_true _
 unfold numV
 rw [a0, a1]; rfl
theorem numV_not {free : Bool} {x y : Int} (h : (free = true ∧ x = 0) ∨ (¬ x < y ∧ ¬ 1099511627776 < x)) : numV free x y = false := by
 unfold numV
 rcases h with ⟨rfl, rfl⟩ | ⟨h1, h2⟩
 · rfl
 · rw [decide_eq_false h1, decide_eq_false (show ¬ big < x from h2)]; exact Bool.and_false _
def nth3 (a b c : Int) (k : Nat) : Int := if k = 0 then a else if k = 1 then b else c
theorem numsV_none {free : Bool} {a b c l m n : Int} (h : ∀ j, j < 3 → numV free (nth3 a b c j) (nth3 l m n j) = false) : numsV free a b c l m n = -1 := by
 have h0 := h 0 (by omega)
 have h1 := h 1 (by omega)
 have h2 := h 2 (by omega)
 simp only [nth3] at h0 h1 h2
 simp at h1 h2 h0
 unfold numsV
 simp [h0, h1, h2]
theorem numsV_some {free : Bool} {a b c l m n : Int} {k : Nat} (hk : k < 3) (h : ∀ j, j < k → numV free (nth3 a b c j) (nth3 l m n j) = false) (h1 : numV free (nth3 a b c k) (nth3 l m n k) = true) : numsV free a b c l m n = k := by
 unfold numsV
 obtain rfl | rfl | rfl : k = 0 ∨ k = 1 ∨ k = 2 := by omega
 · have h1' : numV free a l = true := h1
   simp [h1']
 · have h0' : numV free a l = false := h 0 (by omega)
   have h1' : numV free b m = true := h1
   simp [h0', h1']
 · have h0' : numV free a l = false := h 0 (by omega)
   have h2' : numV free b m = false := h 1 (by omega)
   have h1' : numV free c n = true := h1
   simp [h0', h1', h2']
theorem box_three (w : World) (a b c : Int) (t : TypeId) (k : Nat) (hk : k < 3) : (w.alloc (.cells #[.int .i64 a, .int .i64 b, .int .i64 c] t)).cell? ⟨w.heap.size, k, none⟩ = some (.int .i64 (nth3 a b c k)) := by
 have h := heap_alloc_new w (.cells #[.int .i64 a, .int .i64 b, .int .i64 c] t)
 obtain rfl | rfl | rfl : k = 0 ∨ k = 1 ∨ k = 2 := by omega
 · simp only [World.cell?]; rw [h]; rfl
 · simp only [World.cell?]; rw [h]; rfl
 · simp only [World.cell?]; rw [h]; rfl
theorem ret_i {a b : Int} (h : a = b) : Ending.returned (.int .i64 a) = .returned (.int .i64 b) := by rw [h]
set_option maxHeartbeats 2000000 in
theorem numbers_ref (free : Bool) (a b c l m n : Int) (w : World) :
 Calls Tryz.prog 187 #[.agg #[.int .i64 a, .int .i64 b, .int .i64 c], .agg #[.int .i64 l, .int .i64 m, .int .i64 n], .bool free] w fun e w' => e = .returned (.int .i64 (numsV free a b c l m n)) ∧ Below w.heap.size w w' := by
 go_enter Tryz.func187, Tryz.ntmps187
 go_wp2_with fail
 obtain ⟨w1, hw1⟩ : ∃ w1, (w.alloc (.cells #[.int .i64 a, .int .i64 b, .int .i64 c] 237)).alloc (.cells #[.int .i64 l, .int .i64 m, .int .i64 n] 237) = w1 := ⟨_, rfl⟩
 have hB : Below w.heap.size w w1 := by rw [← hw1]; exact ((Below.refl _ _).alloc (Nat.le_refl _) _).alloc (by simp) _
 have hN : ∀ k, k < 3 → w1.cell? ⟨w.heap.size, k, none⟩ = some (.int .i64 (nth3 a b c k)) := fun k hk => by
  rw [← hw1]
  exact (World.cell?_of_block (Below.heap_alloc _ _ _ (by simp))).trans (box_three w a b c _ k hk)
 have hM : ∀ k, k < 3 → w1.cell? ⟨w.heap.size + 1, k, none⟩ = some (.int .i64 (nth3 l m n k)) := fun k hk => by
  rw [← hw1]
  have := box_three (w.alloc (.cells #[.int .i64 a, .int .i64 b, .int .i64 c] 237)) l m n 237 k hk
  rwa [World.size_alloc] at this
 rw [hw1]
 have HZ := hid (show w.heap.size + 1 < w1.heap.size by rw [← hw1]; simp)
 have HB := hid hB
 have HN := hid hN
 have HM := hid hM
 clear hw1 hB hN hM
 go_loopw [7] (fun i wr => ∃ k : Nat, k ≤ 3 ∧ i = .int .i64 k ∧ Hid (∀ j, j < k → numV free (nth3 a b c j) (nth3 l m n j) = false) ∧ Hid (Below w1.heap.size w1 wr)) (fun i _ => 3 - (RowKit.intOf i).toNat)
 case atStart => exact ⟨0, Nat.zero_le _, rfl, fun j hj => by omega, Below.refl _ _⟩
 case round =>
  obtain ⟨k, hk, rfl, HK, HW⟩ := hrel
  have HE := hid (HB.out.trans (HW.out.mono HB.out.size))
  by_cases hlt : k < 3
  · have hk3 : (k : Int) < 3 := by omega
    have hkz : (0 : Int) ≤ (k : Int) := by omega
    have hsz := HZ.out
    have c1 := (HW.out.cell (p := ⟨w.heap.size, k, none⟩) (by show w.heap.size < _; omega)).trans (HN.out k hlt)
    have c2 := (HW.out.cell (p := ⟨w.heap.size + 1, k, none⟩) hsz).trans (HM.out k hlt)
    obtain ⟨x, hx⟩ : ∃ x, nth3 a b c k = x := ⟨_, rfl⟩; obtain ⟨y, hy⟩ : ∃ y, nth3 l m n k = y := ⟨_, rfl⟩
    rw [hx] at c1
    rw [hy] at c2
    have HX := hid hx
    have HY := hid hy
    clear hx hy hsz
    have next : ∀ (hv : numV free x y = false) (w' : World), Below wr.heap.size wr w' → Hid (∀ j, j < k + 1 → numV free (nth3 a b c j) (nth3 l m n j) = false) := fun hv _ _ j hj => by
     rcases Nat.lt_or_ge j k with h | h
     · exact HK.out j h
     · obtain rfl : j = k := by omega
       rw [HX.out, HY.out]; exact hv
    have NEXT := hid next
    clear next
    cases free with
    | false =>
     by_cases hxy : x < y
     · clear NEXT
       have HD := hid (show numsV false a b c l m n = k from numsV_some hlt HK.out (by rw [HX.out, HY.out]; exact numV_yes (.inl rfl) (.inl hxy))); go_wp2_with fail
       go_quiet (fail)
       go_wp2
       go_ret
       exact ⟨ret_i HD.out.symm, HE.out.trans ((Kit.below_drewN _ _ _).mono HE.out.size)⟩
     · by_cases hxb : (1099511627776 : Int) < x
       · clear NEXT
         have HD := hid (show numsV false a b c l m n = k from numsV_some hlt HK.out (by rw [HX.out, HY.out]; exact numV_yes (.inl rfl) (.inr hxb))); go_wp2_with fail
         go_quiet (fail)
         go_wp2
         go_ret
         exact ⟨ret_i HD.out.symm, HE.out.trans ((Kit.below_drewN _ _ _).mono HE.out.size)⟩
       · have HNX := hid (NEXT.out (numV_not (.inr ⟨hxy, hxb⟩)) _ (Below.refl _ _))
         clear NEXT; go_wp2_with fail
         go_quiet (fail)
         go_wp2
         go_roundw
         case rel => exact ⟨k + 1, by omega, by go_num, HNX.out, HW.out.trans ((Kit.below_drewN _ _ _).mono HW.out.size)⟩
         case measure => simp [RowKit.intOf]; omega
    | true =>
     by_cases hx0 : x = 0
     · subst hx0
       have HNX := hid (NEXT.out (numV_not (.inl ⟨rfl, rfl⟩)) _ (Below.refl _ _)); clear NEXT; go_wp2_with fail
       go_quiet (fail)
       go_wp2
       go_roundw
       case rel => exact ⟨k + 1, by omega, by go_num, HNX.out, HW.out.trans ((Kit.below_drewN _ _ _).mono HW.out.size)⟩
       case measure => simp [RowKit.intOf]; omega
     · have hxn : (x == 0) = false := by simpa using hx0
       by_cases hxy : x < y
       · clear NEXT
         have HD := hid (show numsV true a b c l m n = k from numsV_some hlt HK.out (by rw [HX.out, HY.out]; exact numV_yes (.inr hx0) (.inl hxy))); go_wp2_with fail
         go_quiet (fail)
         go_wp2
         go_ret
         exact ⟨ret_i HD.out.symm, HE.out.trans ((Kit.below_drewN _ _ _).mono HE.out.size)⟩
       · by_cases hxb : (1099511627776 : Int) < x
         · clear NEXT
           have HD := hid (show numsV true a b c l m n = k from numsV_some hlt HK.out (by rw [HX.out, HY.out]; exact numV_yes (.inr hx0) (.inr hxb))); go_wp2_with fail
           go_quiet (fail)
           go_wp2
           go_ret
           exact ⟨ret_i HD.out.symm, HE.out.trans ((Kit.below_drewN _ _ _).mono HE.out.size)⟩
         · have HNX := hid (NEXT.out (numV_not (.inr ⟨hxy, hxb⟩)) _ (Below.refl _ _))
           clear NEXT; go_wp2_with fail
           go_quiet (fail)
           go_wp2
           go_roundw
           case rel => exact ⟨k + 1, by omega, by go_num, HNX.out, HW.out.trans ((Kit.below_drewN _ _ _).mono HW.out.size)⟩
           case measure => simp [RowKit.intOf]; omega
  · have HD := hid (show numsV free a b c l m n = -1 from numsV_none (fun j hj => HK.out j (by omega)))
    go_wp2
    go_ret
    exact ⟨ret_i HD.out.symm, HE.out⟩
theorem ret_b {a b : Bool} (h : a = b) : Ending.returned (.bool a) = .returned (.bool b) := by rw [h]
theorem hasV_no {l : List Ctr} {p : Int} (h : ∀ x ∈ l, ∀ q ∈ x.ports, q ≠ p) : hasV l p = false := by
 cases e : hasV l p
 · rfl
 · obtain ⟨x, hx, hq⟩ := List.any_eq_true.1 e
   exact absurd rfl (h x hx p (by simpa using hq))
theorem hasV_yes {l : List Ctr} {p : Int} {x : Ctr} (hx : x ∈ l) (hq : p ∈ x.ports) : hasV l p = true := List.any_eq_true.2 ⟨x, hx, by simpa using hq⟩
theorem has_ref (A : Option Addr) (cap : Nat) (l : List Ctr) (p : Int) (hl : l.length ≤ 9223372036854775807) (w : World) (h : Ctrs w A l) :
 Calls Tryz.prog 189 #[.slice A l.length cap, .int .i64 p] w fun e w' => e = .returned (.bool (hasV l p)) ∧ w = w' := by
 have H := hid h
 have hl' : (l.length : Int) ≤ 9223372036854775807 := by omega
 clear h hl
 go_enter Tryz.func189, Tryz.ntmps189
 go_wp2_with fail
 go_loop [5] (fun i => ∃ k : Nat, k ≤ l.length ∧ i = .int .i64 k ∧ Hid (∀ x ∈ l.take k, ∀ q ∈ x.ports, q ≠ p)) (fun i => l.length - (RowKit.intOf i).toNat)
 case atStart => exact ⟨0, Nat.zero_le _, rfl, fun x hx => by simp at hx⟩
 case round =>
  obtain ⟨k, hk, rfl, HK⟩ := hrel
  by_cases hlt : k < l.length
  · obtain ⟨hF, a, P, c, rfl, ha, hc, hN⟩ := H.out.at hlt
    have hp := hF.ports
    obtain ⟨x, hx⟩ : ∃ x, l[k] = x := ⟨_, rfl⟩
    rw [hx] at hc hp hN
    have c8 := hc.2.2.2.2.2.2.2.2.1
    have HX := hid hx
    have HNN := hid hN
    have HM := hid (show x ∈ l from hx ▸ List.getElem_mem hlt); clear hx hF ha hN hc
    have hkn : (k : Int) < (l.length : Int) := by omega
    have hpn : (x.ports.length : Int) ≤ 9223372036854775807 := by omega
    go_wp2_with fail
    go_loop [6] (fun i => ∃ m : Nat, m ≤ x.ports.length ∧ i = .int .i64 m ∧ Hid (∀ q ∈ x.ports.take m, q ≠ p)) (fun i => x.ports.length - (RowKit.intOf i).toNat)
    case atStart => exact ⟨0, Nat.zero_le _, rfl, fun x hx => by simp at hx⟩
    case round =>
     obtain ⟨m, hm, rfl, HQ⟩ := hrel
     by_cases hmt : m < x.ports.length
     · obtain ⟨_, b, rfl, hb, hd⟩ := HNN.out.at hmt
       obtain ⟨q, hq⟩ : ∃ q, x.ports[m] = q := ⟨_, rfl⟩
       rw [hq] at hd
       have HQQ := hid hq
       clear hq hb
       have hmn : (m : Int) < (x.ports.length : Int) := by omega
       by_cases hqp : q = p
       · subst hqp
         have HD := hid (show hasV l q = true from hasV_yes HM.out (HQQ.out ▸ List.getElem_mem hmt)); go_wp2
         go_ret
         exact ⟨ret_b HD.out.symm, rfl⟩
       · have hqp' : (q == p) = false := by simpa using hqp
         have HN2 := hid (show ∀ q ∈ x.ports.take (m + 1), q ≠ p from fun z hz => by
          rw [List.take_succ_eq_append_getElem hmt, HQQ.out] at hz
          rcases List.mem_append.1 hz with hz | hz
          · exact HQ.out z hz
          · rw [List.mem_singleton.1 hz]; exact hqp)
         clear hqp; go_wp2
         go_round
         case rel => exact ⟨m + 1, by omega, by go_num, HN2.out⟩
         case measure => simp [RowKit.intOf]; omega
     · have HN3 := hid (show ∀ z ∈ l.take (k + 1), ∀ q ∈ z.ports, q ≠ p from fun z hz q hq => by
        rw [List.take_succ_eq_append_getElem hlt, HX.out] at hz
        rcases List.mem_append.1 hz with hz | hz
        · exact HK.out z hz q hq
        · rw [List.mem_singleton.1 hz] at hq
          exact HQ.out q (by rw [List.take_of_length_le (by omega)]; exact hq))
       have hmn : ¬ (m : Int) < (x.ports.length : Int) := by omega
       go_wp2
       go_round
       case rel => exact ⟨k + 1, by omega, by go_num, HN3.out⟩
       case measure => simp [RowKit.intOf]; omega
  · have HD := hid (show hasV l p = false from hasV_no (fun x hx => HK.out x (by rw [List.take_of_length_le (by omega)]; exact hx)))
    have hkn : ¬ (k : Int) < (l.length : Int) := by omega
    go_wp2
    go_ret
    exact ⟨ret_b HD.out.symm, rfl⟩
end SpecRef
end Go.Proofs.YtljbpelogjmciaaGreatDoor
