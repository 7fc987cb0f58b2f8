/-
  The document's words of what may be a spec, in plain functions: the first code, and the path's text. No condition. And what follows of it, part by part, each with its conditions.
-/
import Derived.Test.YtaegknpijgjioaaGreatDoorSpecDataAll
import Derived.Test.YtaegknpijgjioaaGreatDoorTextAll
import Derived.Test.YtaegknpijgjioaaGreatDoorNumRefText
import Derived.Test.YtaegknpijgjioaaGreatDoorTextRefAll
import Derived.Test.YtaegknpijgjioaaGreatDoorChecked
import Derived.Lib.ItoaLen
import Derived.Laws.Concat
import Derived.IntWalk
import Derived.Deep.QuietTactic
import Derived.BigQuiet
import Derived.WalkKit
import Derived.ProofKit
/- The document's words of what may be a spec, in plain functions: the first code, and the path's text. No condition. -/
namespace Go.Proofs.YtaegknpijgjioaaGreatDoor
open TextPure
namespace Sd

def isName (s : ByteArray) : Bool := nameL s.data.toList
def isKey (s : ByteArray) : Bool := keyL s.data.toList
def isVal (s : ByteArray) : Bool := valL s.data.toList
def isImage (s : ByteArray) : Bool := imageL s.data.toList
/-- a name, a number between brackets -/
def atB (name : ByteArray) (i : Nat) : ByteArray := name ++ ⟨#[91]⟩ ++ ⟨(Lib.itoa (i : Int)).toArray⟩ ++ ⟨#[93]⟩
def t_name : ByteArray := ⟨#[110, 97, 109, 101]⟩
def t_labels : ByteArray := ⟨#[108, 97, 98, 101, 108, 115]⟩
def t_key : ByteArray := ⟨#[46, 107, 101, 121]⟩
def t_val : ByteArray := ⟨#[46, 118, 97, 108]⟩
def t_init : ByteArray := ⟨#[105, 110, 105, 116]⟩
def t_main : ByteArray := ⟨#[109, 97, 105, 110]⟩
def t_image : ByteArray := ⟨#[105, 109, 97, 103, 101]⟩
def t_req : ByteArray := ⟨#[114, 101, 113, 46]⟩
def t_lim : ByteArray := ⟨#[108, 105, 109, 46]⟩
def t_cpu : ByteArray := ⟨#[99, 112, 117]⟩
def t_mem : ByteArray := ⟨#[109, 101, 109]⟩
def t_pids : ByteArray := ⟨#[112, 105, 100, 115]⟩
def t_ports : ByteArray := ⟨#[112, 111, 114, 116, 115]⟩
def t_every : ByteArray := ⟨#[112, 114, 111, 98, 101, 46, 101, 118, 101, 114, 121]⟩
def t_fails : ByteArray := ⟨#[112, 114, 111, 98, 101, 46, 102, 97, 105, 108, 115]⟩
def t_restart : ByteArray := ⟨#[114, 101, 115, 116, 97, 114, 116]⟩
def t_grace : ByteArray := ⟨#[103, 114, 97, 99, 101]⟩
def t_prio : ByteArray := ⟨#[112, 114, 105, 111]⟩
/-- what is told: a code, and a path's text; nothing is wrong: 0, and no text -/
abbrev Say := Int × ByteArray
def fine : Say := (0, ⟨#[]⟩)
/-- is a label not greater than the one ahead? -/
def notMore (p : Option Lbl) (x : Lbl) : Bool := match p with
  | none => false
  | some q => !(Op.bytesLess q.key.toList x.key.toList)
/-- the labels from number i on, the one ahead being known -/
def labelsFrom (name : ByteArray) : Nat → Option Lbl → List Lbl → Say
  | _, _, [] => fine
  | i, p, x :: l =>
    if isKey x.key = false then (31, atB name i ++ t_key)
    else if notMore p x = true then (4, atB name i ++ t_key)
    else if isVal x.val = false then (32, atB name i ++ t_val)
    else labelsFrom name (i + 1) (some x) l
theorem labelsFrom_cons (name : ByteArray) (i : Nat) (p : Option Lbl) (x : Lbl) (l : List Lbl) : labelsFrom name i p (x :: l) =
    if isKey x.key = false then (31, atB name i ++ t_key) else if notMore p x = true then (4, atB name i ++ t_key) else if isVal x.val = false then (32, atB name i ++ t_val) else labelsFrom name (i + 1) (some x) l := by
  cases p <;> rfl
def labelsV (name : ByteArray) (l : List Lbl) : Say := if 4 < l.length then (2, name) else labelsFrom name 0 none l
def big : Int := 1099511627776
/-- the first of three numbers out of bounds: which -/
def numV (free : Bool) (n least : Int) : Bool := (!free || n != 0) && (decide (n < least) || decide (big < n))
def numsV (free : Bool) (n0 n1 n2 l0 l1 l2 : Int) : Int := if numV free n0 l0 then 0 else if numV free n1 l1 then 1 else if numV free n2 l2 then 2 else -1
def t_res (k : Int) : ByteArray := if k = 0 then t_cpu else if k = 1 then t_mem else t_pids
/-- is a port one of these containers'? -/
def hasV (l : List Ctr) (p : Int) : Bool := l.any fun c => c.ports.contains p
/-- the ports from number k on, those ahead in the container being known -/
def portsFrom (ahead : List Ctr) : Nat → List Int → List Int → Say
  | _, _, [] => fine
  | k, seen, p :: l =>
    if p < 1 ∨ 65535 < p then (1, atB t_ports k)
    else if hasV ahead p || seen.contains p then (150, atB t_ports k)
    else portsFrom ahead (k + 1) (seen ++ [p]) l
/-- a probe -/
def probeV (ev fl : Int) (init : Bool) : Say :=
  if ev < 0 ∨ 1000 < ev ∨ (init = true ∧ 0 < ev) then (1, t_every)
  else if (ev = 0 ∧ fl ≠ 0) ∨ (0 < ev ∧ (fl < 1 ∨ 10 < fl)) then (1, t_fails)
  else fine
/-- a container, behind others -/
def oneV (x : Ctr) (ahead : List Ctr) (init : Bool) : Say :=
  if isName x.name = false then (30, t_name)
  else if ahead.any (fun c => c.name.toList == x.name.toList) then (7, t_name)
  else if isImage x.image = false then (33, t_image)
  else if 0 ≤ numsV false x.rc x.rm x.rp 0 0 0 then (1, t_req ++ t_res (numsV false x.rc x.rm x.rp 0 0 0))
  else if 0 ≤ numsV true x.lc x.lm x.lp x.rc x.rm x.rp then (1, t_lim ++ t_res (numsV true x.lc x.lm x.lp x.rc x.rm x.rp))
  else if 3 < x.ports.length ∨ (init = true ∧ 0 < x.ports.length) then (2, t_ports)
  else if (portsFrom ahead 0 [] x.ports).1 ≠ 0 then portsFrom ahead 0 [] x.ports
  else probeV x.ev x.fl init
/-- the containers from number i on, those ahead being known -/
def ctrsFrom (name : ByteArray) (init : Bool) : Nat → List Ctr → List Ctr → Say
  | _, _, [] => fine
  | i, ahead, x :: l => if (oneV x ahead init).1 ≠ 0 then ((oneV x ahead init).1, atB name i ++ ⟨#[46]⟩ ++ (oneV x ahead init).2) else ctrsFrom name init (i + 1) (ahead ++ [x]) l
/-- what stands behind the lists -/
def tailV (S : Spc) : Say :=
  if S.restart < 1 ∨ 3 < S.restart then (1, t_restart)
  else if S.grace < 0 ∨ 1000 < S.grace then (1, t_grace)
  else if S.prio < 0 ∨ 10 < S.prio then (1, t_prio)
  else fine
/-- a spec -/
def checkV (S : Spc) : Say :=
  if isName S.name = false then (30, t_name)
  else if (labelsV t_labels S.labels).1 ≠ 0 then labelsV t_labels S.labels
  else if 3 < S.init.length then (2, t_init)
  else if (ctrsFrom t_init true 0 [] S.init).1 ≠ 0 then ctrsFrom t_init true 0 [] S.init
  else if S.main.length < 1 ∨ 4 < S.main.length then (2, t_main)
  else if (ctrsFrom t_main false 0 S.init S.main).1 ≠ 0 then ctrsFrom t_main false 0 S.init S.main
  else tailV S
end Sd
end Go.Proofs.YtaegknpijgjioaaGreatDoor

/- The contracts of the document's own answers on labels and containers (provostref06). Condition: what is looked at is not too long. -/
namespace Go.Proofs.YtaegknpijgjioaaGreatDoor
open Go.ChangeShapes Go.WideShapes Go.ChangeAt Go.RowKit Go.Lib
open Sd Lists
namespace SpecRef

theorem at_any (s : ByteArray) (k : Nat) (hs : s.size ≤ 1000000) (hk : k ≤ 1000000) (w : World) :
    Calls Tryz.prog 44 #[.string s, .int .i64 k] w fun e w' => e = .returned (.string (atB s k)) ∧ Below w.heap.size w w' := by
  have hl : (itoa (k : Int)).length ≤ 21 := itoa_length_le _ (by omega) (by omega)
  obtain ⟨d, hd⟩ : ∃ d : ByteArray, (⟨(itoa (k : Int)).toArray⟩ : ByteArray) = d := ⟨_, rfl⟩
  have hds : d.size ≤ 21 := by rw [← hd]; show (itoa (k : Int)).toArray.size ≤ 21; simpa using hl
  have a1 : ∀ v, (Op.stringOp .add s ⟨#[91]⟩).run Tryz.prog v = .ok (.string (s ++ ⟨#[91]⟩)) v := fun v => run_string_add_sum v _ _ (by show _ + 1 ≤ _; omega)
  have a2 : ∀ v, (Op.stringOp .add (s ++ ⟨#[91]⟩) d).run Tryz.prog v = .ok (.string (s ++ ⟨#[91]⟩ ++ d)) v := fun v => run_string_add_sum v _ _ (by rw [ByteArray.size_append]; show _ + 1 + _ ≤ _; omega)
  have a3 : ∀ v, (Op.stringOp .add (s ++ ⟨#[91]⟩ ++ d) ⟨#[93]⟩).run Tryz.prog v = .ok (.string (s ++ ⟨#[91]⟩ ++ d ++ ⟨#[93]⟩)) v := fun v => run_string_add_sum v _ _ (by rw [ByteArray.size_append, ByteArray.size_append]; show _ + 1 + _ + 1 ≤ _; omega)
  have HD := Lib.hid (show s ++ ⟨#[91]⟩ ++ d ++ ⟨#[93]⟩ = atB s k by rw [← hd]; rfl)
  have HE := Lib.hid hd
  clear hd
  go_enter Tryz.func44, Tryz.ntmps44
  go_wp2_with fail
  refine (NumRefText.refText_any k w (by omega) (by omega)).mono ?_
  rw [HE.out]
  rintro e w1 ⟨rfl, hb⟩
  go_wp2
  go_ret
  exact ⟨congrArg (fun x => Ending.returned (.string x)) HD.out, hb⟩
theorem atB_size (name : ByteArray) (k : Nat) (hk : k ≤ 1000000) : (atB name k).size ≤ name.size + 23 := by
  have h1 : (itoa (k : Int)).length ≤ 21 := itoa_length_le _ (by omega) (by omega)
  have h2 : (⟨(itoa (k : Int)).toArray⟩ : ByteArray).size = (itoa (k : Int)).length := by show (itoa (k : Int)).toArray.size = _; simp
  unfold atB
  rw [ByteArray.size_append, ByteArray.size_append, ByteArray.size_append, h2]
  show _ + 1 + _ + 1 ≤ _
  omega
/-- the labels: from k on -/
def LHere (name : ByteArray) (l : List Lbl) (k : Nat) : Prop := labelsV name l = labelsFrom name k (if k = 0 then none else l[k - 1]?) (l.drop k)
theorem ret_two {a c : Int} {s t : ByteArray} {p : Say} (h : p = (a, s)) (h1 : a = c) (h2 : s = t) : Ending.returned (.tuple #[.int .i64 c, .string t]) = .returned (.tuple #[.int .i64 p.1, .string p.2]) := by subst h h1 h2; rfl
set_option maxRecDepth 100000 in
set_option maxHeartbeats 1000000 in
theorem labels_ref_all (name : ByteArray) (A : Option Addr) (cap : Nat) (l : List Lbl) (hn : name.size ≤ 1000) (hl : l.length ≤ 9223372036854775807) (w : World) (h : Lbls w A l) :
    Calls Tryz.prog 27 #[.string name, .slice A l.length cap] w fun e w' => e = .returned (.tuple #[.int .i64 (labelsV name l).1, .string (labelsV name l).2]) ∧ Below w.heap.size w w' := by
  have H := Lib.hid h
  have HN := Lib.hid hn
  have hl' : (l.length : Int) ≤ 9223372036854775807 := by omega
  clear h
  by_cases h4 : 4 < l.length
  · have HE := Lib.hid (show labelsV name l = (2, name) by unfold labelsV; rw [if_pos h4])
    go_enter Tryz.func27, Tryz.ntmps27
    go_wp2
    go_ret2
    exact ⟨ret_two HE.out rfl rfl, Below.refl _ _⟩
  · have HE := Lib.hid (show LHere name l 0 by unfold LHere labelsV; rw [if_neg h4]; rfl)
    have H4 := Lib.hid h4
    go_enter Tryz.func27, Tryz.ntmps27
    go_wp2_with fail
    go_loopw [6] (fun i wr => ∃ k : Nat, k ≤ l.length ∧ i = .int .i64 k ∧ Hid (LHere name l k) ∧ Hid (Below w.heap.size w wr)) (fun i _ => l.length - (RowKit.intOf i).toNat)
    case atStart => exact ⟨0, Nat.zero_le _, rfl, HE.out, Below.refl _ _⟩
    case round =>
      obtain ⟨k, hk, rfl, HK, HW⟩ := hrel
      by_cases hlt : k < l.length
      · obtain ⟨p, rfl, hp, hc⟩ := (H.out.below HW.out).at hlt
        obtain ⟨x, hx⟩ : ∃ x, l[k] = x := ⟨_, rfl⟩
        rw [hx] at hc
        obtain ⟨c0, c1⟩ := hc
        have HX := Lib.hid hx
        clear hx
        have hkn : (k : Int) < (l.length : Int) := by omega
        have HS := Lib.hid (show labelsV name l = labelsFrom name k (if k = 0 then none else l[k - 1]?) (x :: l.drop (k + 1)) by
          have := HK.out
          unfold LHere at this
          rw [this, List.drop_eq_getElem_cons hlt, HX.out])
        have hks := HN.out
        go_wp2_with fail
        refine (Text.key_ref_all x.key wr).mono ?_
        rintro e w5 ⟨rfl, hb5⟩
        have HW5 := Lib.hid (HW.out.trans (hb5.mono HW.out.size))
        obtain ⟨p', hpp, hp5, hc5⟩ := (H.out.below HW5.out).at hlt
        injection hpp with hpp
        subst hpp
        rw [HX.out] at hc5
        obtain ⟨d0, d1⟩ := hc5
        have hat := at_any name k (by omega) (by omega)
        clear hb5 c0 c1 hp
        cases hkey : TextPure.keyL x.key.data.toList with
        | false =>
          have HD := Lib.hid (show labelsV name l = (31, atB name k ++ t_key) by rw [HS.out, labelsFrom_cons, if_pos (show isKey x.key = false from hkey)])
          have hasz := atB_size name k (by omega)
          obtain ⟨u, hu⟩ : ∃ u, atB name k = u := ⟨_, rfl⟩
          have HU := Lib.hid hu
          rw [hu] at hasz
          have hadd : ∀ v, (Op.stringOp .add u ⟨#[46, 107, 101, 121]⟩).run Tryz.prog v = .ok (.string (u ++ ⟨#[46, 107, 101, 121]⟩)) v := fun v => run_string_add_sum v _ _ (by show _ + 4 ≤ _; omega)
          clear hkey hu
          go_wp2_with fail
          refine (hat _).mono ?_
          rw [HU.out]
          rintro e w6 ⟨rfl, hb6⟩
          go_wp2
          go_ret2
          exact ⟨ret_two HD.out rfl (by rw [HU.out]; rfl), HW5.out.trans (hb6.mono HW5.out.size)⟩
        | true =>
          have HKEY := Lib.hid hkey
          clear hkey
          obtain ⟨o, ho⟩ : ∃ o, notMore (if k = 0 then none else l[k - 1]?) x = o := ⟨_, rfl⟩
          have HO := Lib.hid ho
          rcases k with _ | m
          · have e0 : p.add (0 * 2) = p := by simp [Addr.add]
            rw [e0] at d0 d1
            have ho' : o = false := by rw [← ho]; rfl
            subst ho'
            clear ho e0
            go_wp2_with fail
            go_quiet (fail)
            go_wp2_with fail
            refine (Text.val_ref_all x.val _).mono ?_
            rintro e w6 ⟨rfl, rfl⟩
            cases hval : TextPure.valL x.val.data.toList with
            | false =>
              have HVAL := Lib.hid hval
              clear hval
              have HD := Lib.hid (show labelsV name l = (32, atB name (0) ++ t_val) by rw [HS.out, labelsFrom_cons, if_neg (show ¬ isKey x.key = false by show ¬ TextPure.keyL _ = _; rw [HKEY.out]; simp), if_neg (show ¬ notMore _ x = true by rw [HO.out]; simp), if_pos (show isVal x.val = false from HVAL.out)])
              have hasz := atB_size name (0) (by omega)
              obtain ⟨u, hu⟩ : ∃ u, atB name (0) = u := ⟨_, rfl⟩
              have HU := Lib.hid hu
              rw [hu] at hasz
              have hadd : ∀ v, (Op.stringOp .add u ⟨#[46, 118, 97, 108]⟩).run Tryz.prog v = .ok (.string (u ++ ⟨#[46, 118, 97, 108]⟩)) v := fun v => run_string_add_sum v _ _ (by show _ + 4 ≤ _; omega)
              clear hu
              go_wp2_with fail
              refine (hat _).mono ?_
              rw [HU.out]
              rintro e w7 ⟨rfl, hb7⟩
              have HB7 := Lib.hid (HW5.out.trans (((Kit.below_drewN _ _ _).trans hb7).mono HW5.out.size))
              clear hb7
              go_wp2
              go_ret2
              exact ⟨ret_two HD.out rfl (by rw [HU.out]; rfl), HB7.out⟩
            | true =>
              have HNX := Lib.hid (show LHere name l (0 + 1) by
                unfold LHere
                rw [HS.out, labelsFrom_cons, if_neg (show ¬ isKey x.key = false by show ¬ TextPure.keyL _ = _; rw [HKEY.out]; simp), if_neg (show ¬ notMore _ x = true by rw [HO.out]; simp), if_neg (show ¬ isVal x.val = false by show ¬ TextPure.valL _ = _; rw [hval]; simp), if_neg (by omega), show 0 + 1 - 1 = 0 by omega, List.getElem?_eq_getElem hlt, HX.out])
              clear hval
              go_wp2
              go_roundw
              case rel => exact ⟨0 + 1, by omega, by go_num, HNX.out, HW5.out.trans ((Kit.below_drewN _ _ _).mono HW5.out.size)⟩
              case measure => simp [RowKit.intOf]; omega
          · obtain ⟨p', hpp, hpb, hcp⟩ := (H.out.below HW5.out).at (k := m) (by omega)
            injection hpp with hpp
            subst hpp
            obtain ⟨y, hy⟩ : ∃ y, l[m] = y := ⟨_, rfl⟩
            have ho' : o = !(Op.bytesLess y.key.toList x.key.toList) := by
              rw [← ho, if_neg (by omega), show m + 1 - 1 = m by omega, List.getElem?_eq_getElem (by omega), hy]; rfl
            rw [hy] at hcp
            obtain ⟨g0, g1⟩ := hcp
            have hwr : IntKind.i64.wrap (m : Int) = (m : Int) := IntWalk.i64_in _ (by omega)
            have hm0 : (0 : Int) ≤ (m : Int) := by omega
            have hmn : (m : Int) < (l.length : Int) := by omega
            have hmn1 : (m : Int) + 1 < (l.length : Int) := by omega
            have hmn2 : m < l.length := by omega
            have hp0 : (0 : Int) ≤ (m : Int) + 1 := by omega
            have hp1 : ((m : Int) + 1).toNat = m + 1 := by omega
            clear ho hy g1
            cases o with
            | true =>
              have hbl : Op.bytesLess y.key.toList x.key.toList = false := by simpa using ho'.symm
              have hge : ∀ v, (binOp .geq 9 (.string y.key) (.string x.key)).run Tryz.prog v = .ok (.bool true) v := fun v => by simp [binOp, Op.stringOp, hbl]
              clear ho' hbl
              go_wp2_with fail
              go_quiet (fail)
              have HD := Lib.hid (show labelsV name l = (4, atB name (m + 1) ++ t_key) by rw [HS.out, labelsFrom_cons, if_neg (show ¬ isKey x.key = false by show ¬ TextPure.keyL _ = _; rw [HKEY.out]; simp), if_pos HO.out])
              have hasz := atB_size name (m + 1) (by omega)
              obtain ⟨u, hu⟩ : ∃ u, atB name (m + 1) = u := ⟨_, rfl⟩
              have HU := Lib.hid hu
              rw [hu] at hasz
              have hadd : ∀ v, (Op.stringOp .add u ⟨#[46, 107, 101, 121]⟩).run Tryz.prog v = .ok (.string (u ++ ⟨#[46, 107, 101, 121]⟩)) v := fun v => run_string_add_sum v _ _ (by show _ + 4 ≤ _; omega)
              clear hu
              go_wp2_with fail
              refine (hat _).mono ?_
              rw [HU.out]
              rintro e w7 ⟨rfl, hb7⟩
              have HB7 := Lib.hid (HW5.out.trans (((Kit.below_drewN _ _ _).trans hb7).mono HW5.out.size))
              clear hb7
              go_wp2
              go_ret2
              exact ⟨ret_two HD.out rfl (by rw [HU.out]; rfl), HB7.out⟩
            | false =>
              have hbl : Op.bytesLess y.key.toList x.key.toList = true := by simpa using ho'.symm
              have hge : ∀ v, (binOp .geq 9 (.string y.key) (.string x.key)).run Tryz.prog v = .ok (.bool false) v := fun v => by simp [binOp, Op.stringOp, hbl]
              clear ho' hbl
              go_wp2_with fail
              go_quiet (fail)
              go_wp2_with fail
              refine (Text.val_ref_all x.val _).mono ?_
              rintro e w6 ⟨rfl, rfl⟩
              cases hval : TextPure.valL x.val.data.toList with
              | false =>
                have HVAL := Lib.hid hval
                clear hval
                have HD := Lib.hid (show labelsV name l = (32, atB name (m + 1) ++ t_val) by rw [HS.out, labelsFrom_cons, if_neg (show ¬ isKey x.key = false by show ¬ TextPure.keyL _ = _; rw [HKEY.out]; simp), if_neg (show ¬ notMore _ x = true by rw [HO.out]; simp), if_pos (show isVal x.val = false from HVAL.out)])
                have hasz := atB_size name (m + 1) (by omega)
                obtain ⟨u, hu⟩ : ∃ u, atB name (m + 1) = u := ⟨_, rfl⟩
                have HU := Lib.hid hu
                rw [hu] at hasz
                have hadd : ∀ v, (Op.stringOp .add u ⟨#[46, 118, 97, 108]⟩).run Tryz.prog v = .ok (.string (u ++ ⟨#[46, 118, 97, 108]⟩)) v := fun v => run_string_add_sum v _ _ (by show _ + 4 ≤ _; omega)
                clear hu
                go_wp2_with fail
                refine (hat _).mono ?_
                rw [HU.out]
                rintro e w7 ⟨rfl, hb7⟩
                have HB7 := Lib.hid (HW5.out.trans (((Kit.below_drewN _ _ _).trans hb7).mono HW5.out.size))
                clear hb7
                go_wp2
                go_ret2
                exact ⟨ret_two HD.out rfl (by rw [HU.out]; rfl), HB7.out⟩
              | true =>
                have HNX := Lib.hid (show LHere name l (m + 1 + 1) by
                  unfold LHere
                  rw [HS.out, labelsFrom_cons, if_neg (show ¬ isKey x.key = false by show ¬ TextPure.keyL _ = _; rw [HKEY.out]; simp), if_neg (show ¬ notMore _ x = true by rw [HO.out]; simp), if_neg (show ¬ isVal x.val = false by show ¬ TextPure.valL _ = _; rw [hval]; simp), if_neg (by omega), show m + 1 + 1 - 1 = m + 1 by omega, List.getElem?_eq_getElem hlt, HX.out])
                clear hval
                go_wp2
                go_roundw
                case rel => exact ⟨m + 1 + 1, by omega, by go_num, HNX.out, HW5.out.trans ((Kit.below_drewN _ _ _).mono HW5.out.size)⟩
                case measure => simp [RowKit.intOf]; omega
      · have HD := Lib.hid (show labelsV name l = fine by have := HK.out; unfold LHere at this; rw [this, List.drop_eq_nil_of_le (by omega)]; rfl)
        go_wp2
        go_ret2
        exact ⟨ret_two HD.out rfl rfl, HW.out⟩
theorem labels_ref (name : ByteArray) (A : Option Addr) (cap : Nat) (l : List Lbl) (hn : name.size ≤ 1000) (hl : l.length ≤ 9223372036854775807) (_hlight : ∀ x ∈ l, x.key.size ≤ 100 ∧ x.val.size ≤ 100) (w : World) (h : Lbls w A l) :
    Calls Tryz.prog 27 #[.string name, .slice A l.length cap] w fun e w' => e = .returned (.tuple #[.int .i64 (labelsV name l).1, .string (labelsV name l).2]) ∧ Below w.heap.size w w' := labels_ref_all name A cap l hn hl w h
end SpecRef
end Go.Proofs.YtaegknpijgjioaaGreatDoor

/- The contracts of the document's numbers and ports (provostref06.numbers, Has). No condition. -/
namespace Go.Proofs.YtaegknpijgjioaaGreatDoor
open Go.ChangeShapes Go.WideShapes Go.ChangeAt Go.RowKit Go.Lib
open Sd Lists
namespace SpecRef

theorem numV_yes {free : Bool} {x y : Int} (h0 : free = false ∨ x ≠ 0) (h1 : x < y ∨ 1099511627776 < x) : numV free x y = true := by
  have a1 : (decide (x < y) || decide (big < x)) = true := by
    rcases h1 with h1 | h1
    · rw [decide_eq_true h1]; rfl
    · rw [decide_eq_true (show big < x from h1)]; exact Bool.or_true _
  have a0 : (!free || x != 0) = true := by
    rcases h0 with rfl | h0
    · rfl
    · rw [show (x != 0) = true by simpa using h0]; exact Bool.or_true _
  unfold numV
  rw [a0, a1]; rfl
theorem numV_not {free : Bool} {x y : Int} (h : (free = true ∧ x = 0) ∨ (¬ x < y ∧ ¬ 1099511627776 < x)) : numV free x y = false := by
  unfold numV
  rcases h with ⟨rfl, rfl⟩ | ⟨h1, h2⟩
  · rfl
  · rw [decide_eq_false h1, decide_eq_false (show ¬ big < x from h2)]; exact Bool.and_false _
/-- the three, by number -/
def nth3 (a b c : Int) (k : Nat) : Int := if k = 0 then a else if k = 1 then b else c
theorem numsV_none {free : Bool} {a b c l m n : Int} (h : ∀ j, j < 3 → numV free (nth3 a b c j) (nth3 l m n j) = false) : numsV free a b c l m n = -1 := by
  have h0 := h 0 (by omega)
  have h1 := h 1 (by omega)
  have h2 := h 2 (by omega)
  simp only [nth3] at h0 h1 h2
  simp at h1 h2 h0
  unfold numsV
  simp [h0, h1, h2]
theorem numsV_some {free : Bool} {a b c l m n : Int} {k : Nat} (hk : k < 3) (h : ∀ j, j < k → numV free (nth3 a b c j) (nth3 l m n j) = false) (h1 : numV free (nth3 a b c k) (nth3 l m n k) = true) : numsV free a b c l m n = k := by
  unfold numsV
  obtain rfl | rfl | rfl : k = 0 ∨ k = 1 ∨ k = 2 := by omega
  · have h1' : numV free a l = true := h1
    simp [h1']
  · have h0' : numV free a l = false := h 0 (by omega)
    have h1' : numV free b m = true := h1
    simp [h0', h1']
  · have h0' : numV free a l = false := h 0 (by omega)
    have h2' : numV free b m = false := h 1 (by omega)
    have h1' : numV free c n = true := h1
    simp [h0', h1', h2']
theorem box_three (w : World) (a b c : Int) (t : TypeId) (k : Nat) (hk : k < 3) : (w.alloc (.cells #[.int .i64 a, .int .i64 b, .int .i64 c] t)).cell? ⟨w.heap.size, k, none⟩ = some (.int .i64 (nth3 a b c k)) := by
  have h := heap_alloc_new w (.cells #[.int .i64 a, .int .i64 b, .int .i64 c] t)
  obtain rfl | rfl | rfl : k = 0 ∨ k = 1 ∨ k = 2 := by omega
  · simp only [World.cell?]; rw [h]; rfl
  · simp only [World.cell?]; rw [h]; rfl
  · simp only [World.cell?]; rw [h]; rfl
theorem ret_i {a b : Int} (h : a = b) : Ending.returned (.int .i64 a) = .returned (.int .i64 b) := by rw [h]
end SpecRef
end Go.Proofs.YtaegknpijgjioaaGreatDoor

/- The contract of the document's Has (provostref06.Has): has one of some containers a port? No condition. -/
namespace Go.Proofs.YtaegknpijgjioaaGreatDoor
open Go.ChangeShapes Go.WideShapes Go.ChangeAt Go.RowKit Go.Lib
open Sd Lists
namespace SpecRef

theorem ret_b {a b : Bool} (h : a = b) : Ending.returned (.bool a) = .returned (.bool b) := by rw [h]
theorem hasV_no {l : List Ctr} {p : Int} (h : ∀ x ∈ l, ∀ q ∈ x.ports, q ≠ p) : hasV l p = false := by
  cases e : hasV l p
  · rfl
  · obtain ⟨x, hx, hq⟩ := List.any_eq_true.1 e
    exact absurd rfl (h x hx p (by simpa using hq))
theorem hasV_yes {l : List Ctr} {p : Int} {x : Ctr} (hx : x ∈ l) (hq : p ∈ x.ports) : hasV l p = true := List.any_eq_true.2 ⟨x, hx, by simpa using hq⟩
end SpecRef
end Go.Proofs.YtaegknpijgjioaaGreatDoor
