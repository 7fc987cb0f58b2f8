/-
  The contracts of (*taken).takeName and (*taken).takePorts: what is said of a name, of ports, and what is taken behind. All that was there is left as it was, but what is taken. Conditions: as SpecStep; few are taken; the texts are short.
-/
import Derived.Test.YtpllcnpmjnmcfaaDoorRc15
import Derived.Test.YtpllcnpmjnmcfaaDoorRc5
import Derived.Maps.AppendAt
import Derived.OwnWalk
namespace Go.Proofs.YtpllcnpmjnmcfaaDoor
open Go.ChangeShapes Go.WideShapes Go.ChangeAt Go.RowKit Go.Lib
open Sd Lists
namespace SpecOwn

theorem info_int : (Tryd.prog.info? 3).map (fun i => (i.zero, i.size, i.bytes)) = some (some (.int .i64 0), 1, 8) := by kernel_rfl
/-- a call ends with what says y, in blocks off what is taken -/
def Took (g : Nat) (y : Say) (N : List ByteArray) (P : List Int) (w : World) (e : Ending) (w' : World) : Prop :=
  ∃ E, e = .returned E ∧ Says (Off g w') w' E y ∧ Av g w w' ∧ Tk w' g N P
theorem tells_off {g : Nat} {y : Say} {w w1 w' : World} {E : Value} {N : List ByteArray} {P : List Int} (hT : Tk w1 g N P) (hb1 : Below w.heap.size w w1) (hg : g < w.heap.size) (h : Tells y w1 (.returned E) w') : Took g y N P w (.returned E) w' := by
  obtain ⟨E', he, h1, h2⟩ := h
  injection he with he
  subst he
  refine ⟨_, rfl, ?_, Av.of_below (hb1.trans (h2.mono hb1.size)) hg, hT.keep h2⟩
  rcases h1 with h1 | ⟨h0, hs, p, hp, hr⟩
  · exact .inl h1
  · refine .inr ⟨h0, hs, p, ?_, hr⟩
    refine IsIn.keep (w' := w') hp fun b hd hlt => ⟨hT.ok.fresh h2 hd hlt, rfl⟩
theorem tells_on {g : Nat} {y : Say} {w w1 w' : World} {E : Value} {N : List ByteArray} {P : List Int} (hT : Tk w1 g N P) (hA : Av g w w1) (h : Tells y w1 (.returned E) w') : Took g y N P w (.returned E) w' := by
  obtain ⟨E', he, h1, h2, h3⟩ := tells_off hT (Below.refl _ _) hT.lt h
  exact ⟨E', he, h1, hA.trans h2, h3⟩
theorem Av.base {g : Nat} {w0 w w' : World} (h : Av g w w') (hb : Below w0.heap.size w0 w) (hB : w0.heap.size ≤ g) : Below w0.heap.size w0 w' :=
  ⟨h.os.trans hb.os, h.tape.trans hb.tape, h.output.trans hb.output, Nat.le_trans hb.size h.size, fun k hk => (h.low k (Nat.lt_of_lt_of_le hk hB) (Nat.lt_of_lt_of_le hk hb.size)).trans (hb.block k hk)⟩
theorem texts_of_own {w : World} {base : Nat} {A : Option Addr} {n c : Nat} {p : List ByteArray} (h : w.ownsRow base 9 1 (.slice A n c) p.length (p.map Value.string)) : Texts w A p := by
  rcases h.2 with ⟨h1, h0⟩ | ⟨g, cap, cur, h1, _⟩
  · obtain rfl : p = [] := List.eq_nil_of_length_eq_zero h0
    exact fun k x hx => by simp at hx
  · injection h1 with e1 e2 e3
    subst e1
    intro k x hx
    have hc := h.cells (g := g) rfl k (.string x) (by rw [List.getElem?_map, hx]; rfl)
    exact ⟨_, rfl, (h.lt g rfl).2, hc⟩
theorem nums_of_own {w : World} {base : Nat} {A : Option Addr} {n c : Nat} {p : List Int} (h : w.ownsRow base 3 1 (.slice A n c) p.length (p.map (Value.int .i64))) :
    ∀ (k : Nat) (x : Int), p[k]? = some x → ∃ a, A = some a ∧ w.cell? (a.add k) = some (.int .i64 x) := by
  rcases h.2 with ⟨h1, h0⟩ | ⟨g, cap, cur, h1, _⟩
  · obtain rfl : p = [] := List.eq_nil_of_length_eq_zero h0
    exact fun k x hx => by simp at hx
  · injection h1 with e1 e2 e3
    subst e1
    intro k x hx
    exact ⟨_, rfl, h.cells (g := g) rfl k (.int .i64 x) (by rw [List.getElem?_map, hx]; rfl)⟩
set_option maxRecDepth 100000 in
set_option maxHeartbeats 1000000 in
theorem takeName_any (g : Nat) (s : ByteArray) (N : List ByteArray) (P : List Int) (hs : s.size ≤ 1000) (hN : N.length ≤ 1000) (w : World) (hL : SLaid w) (hT : Tk w g N P) :
    Calls Tryd.prog 63 #[.pointer (some ⟨g, 0, none⟩), .string s] w (Took g (nameN s N) (nameAfter s N) P w) := by
  have HL := Lib.hid hL
  have HT := Lib.hid hT
  obtain ⟨A, c, B, d, hV⟩ := hT
  have HV := Lib.hid hV
  obtain ⟨c0, c1, f0, f1⟩ := two_cells hV.box
  have hg := hV.lt
  have HTX := Lib.hid (texts_of_own hV.names)
  obtain ⟨i0, hi, hz0, hz1, hz2⟩ := info_parts Err.info_string
  clear hL hV
  cases hname : TextPure.nameL s.data.toList with
  | false =>
    have HE := Lib.hid (show nameN s N = newV 30 t_name by unfold nameN newV; rw [if_pos (show isName s = false from hname), if_neg (by decide)])
    have HA := Lib.hid (show nameAfter s N = N by unfold nameAfter; rw [HE.out]; rfl)
    have HC := Lib.hid (show Text.codeN (TextPure.nameL s.data.toList) 30 = 30 by rw [hname]; rfl)
    clear hname
    go_enter Tryd.func63, Tryd.ntmps63
    go_wp2_with fail
    refine (Text.name_any s (by unfold maxLen; omega) _ HL.out.text).mono ?_
    rw [HC.out]
    rintro e w1 ⟨rfl, rfl⟩
    go_wp2_with fail
    refine (new_says 30 t_name w.heap.size 1 _ (by decide) (by simp [t_name])).mono ?_
    rintro e w1 ⟨E, rfl, hE, hb⟩
    have HX := Lib.hid (tells_off (HT.out.keep ((Below.refl _ w).alloc (Nat.le_refl _) _)) ((Below.refl _ w).alloc (Nat.le_refl _) _) hg ⟨E, rfl, hE, hb⟩)
    clear hE hb
    go_wp2_with fail
    go_ret
    rw [HE.out, HA.out]
    exact HX.out
  | true =>
    have HC := Lib.hid (show Text.codeN (TextPure.nameL s.data.toList) 30 = 0 by rw [hname]; rfl)
    cases hin : N.any (fun y => y.toList == s.toList) with
    | true =>
      have HE := Lib.hid (show nameN s N = newV 7 t_name by unfold nameN newV; rw [if_neg (show ¬ isName s = false by show ¬ TextPure.nameL _ = _; rw [hname]; simp), if_pos hin, if_neg (by decide)])
      have HA := Lib.hid (show nameAfter s N = N by unfold nameAfter; rw [HE.out]; rfl)
      have HI := Lib.hid hin
      clear hname hin
      go_enter Tryd.func63, Tryd.ntmps63
      go_wp2_with fail
      refine (Text.name_any s (by unfold maxLen; omega) _ HL.out.text).mono ?_
      rw [HC.out]
      rintro e w1 ⟨rfl, rfl⟩
      go_wp2_with fail
      refine (contains_texts s A c N (by omega) _ HTX.out).mono ?_
      rw [HI.out]
      rintro e w1 ⟨rfl, rfl⟩
      go_wp2_with fail
      refine (new_says 7 t_name w.heap.size 1 _ (by decide) (by simp [t_name])).mono ?_
      rintro e w1 ⟨E, rfl, hE, hb⟩
      have HX := Lib.hid (tells_off (HT.out.keep ((Below.refl _ w).alloc (Nat.le_refl _) _)) ((Below.refl _ w).alloc (Nat.le_refl _) _) hg ⟨E, rfl, hE, hb⟩)
      clear hE hb
      go_wp2_with fail
      go_ret
      rw [HE.out, HA.out]
      exact HX.out
    | false =>
      have HE := Lib.hid (show nameN s N = fine by unfold nameN; rw [if_neg (show ¬ isName s = false by show ¬ TextPure.nameL _ = _; rw [hname]; simp), if_neg (by rw [hin]; simp)])
      have HA := Lib.hid (show nameAfter s N = N ++ [s] by unfold nameAfter; rw [HE.out]; rfl)
      have HI := Lib.hid hin
      clear hname hin
      go_enter Tryd.func63, Tryd.ntmps63
      go_wp2_with fail
      refine (Text.name_any s (by unfold maxLen; omega) _ HL.out.text).mono ?_
      rw [HC.out]
      rintro e w1 ⟨rfl, rfl⟩
      go_wp2_with fail
      refine (contains_texts s A c N (by omega) _ HTX.out).mono ?_
      rw [HI.out]
      rintro e w1 ⟨rfl, rfl⟩
      go_wp2_with (at_builtin; refine wpList_append_own_at _ rfl _ _ 62 rfl (g + 1) 9 i0 (.string ⟨#[]⟩) 1 16 Tryd.underlying62 hi hz0 hz1 hz2 rfl (by decide) _ _ _ rfl (HV.out.names.alloc _) ⟨w.heap.size, 0, none⟩ 1 1 [.string s] rfl rfl (cell_one_new _ _ _) (by intro u hu; simp at hu; subst hu; rfl) (by unfold maxLen; omega) (by omega) (by simp; omega) ?_)
      intro v' w7 hown' hgrow hnil hloc
      obtain ⟨A', c', rfl⟩ := own_form hown'
      have HP := Lib.hid (HV.out.push_name (.cells #[.string s] 9) s _ hown' hgrow hloc)
      have hsame : w7.heap[g]? = w.heap[g]? := by
        have h1 := hgrow.block g (by simp; omega) (fun e => by have := (HV.out.names.lt g e.symm).1; omega)
        rw [h1]
        exact ((Below.refl w.heap.size w).alloc (Nat.le_refl _) _).block g hg
      have hcell : w7.cell? ⟨g, 0, none⟩ = some (.slice A N.length c) := (World.cell?_of_block (w := w) (a := ⟨g, 0, none⟩) hsame).trans c0
      have hfz : w7.frozen? ⟨g, 0, none⟩ = false := (World.frozen?_of_block (w := w) (a := ⟨g, 0, none⟩) hsame).trans f0
      clear hown' hgrow hnil hloc hsame c0 c1 f0 f1
      go_wp2
      go_ret
      rw [HE.out, HA.out]
      exact ⟨_, rfl, .inl ⟨rfl, rfl⟩, HP.out.2, HP.out.1⟩
set_option maxRecDepth 100000 in
set_option maxHeartbeats 2000000 in
theorem takePorts_any (w0 : World) (hL : SLaid w0) (g : Nat) (hg0 : w0.heap.size ≤ g) (LA : Option Addr) (lc : Nat) (l : List Int) (most : Int) (hl : Nums .i64 w0 LA l) (hll : l.length ≤ 1000) (N : List ByteArray) (P : List Int) (hP : P.length ≤ 1000)
    (w : World) (hb0 : Below w0.heap.size w0 w) (hT : Tk w g N P) :
    Calls Tryd.prog 67 #[.pointer (some ⟨g, 0, none⟩), .slice LA l.length lc, .int .i64 most] w (Took g (portsL P most l) N (portsLAfter P most l) w) := by
  have HL := Lib.hid hL
  have HT := Lib.hid hT
  have HN := Lib.hid hl
  have HB := Lib.hid hb0
  have hlt := hT.lt
  obtain ⟨i0, hi, hz0, hz1, hz2⟩ := info_parts info_int
  clear hL hT hl hb0
  by_cases hm : most < (l.length : Int)
  · have HE := Lib.hid (show portsL P most l = newV 2 t_ports by unfold portsL newV; rw [if_pos hm, if_neg (by decide)])
    have HA := Lib.hid (show portsLAfter P most l = P by unfold portsLAfter; rw [if_pos hm])
    go_enter Tryd.func67, Tryd.ntmps67
    go_wp2_with fail
    refine (new_says 2 t_ports w.heap.size 1 _ (by decide) (by simp [t_ports])).mono ?_
    rintro e w1 ⟨E, rfl, hE, hb⟩
    have HX := Lib.hid (tells_off (HT.out.keep ((Below.refl _ w).alloc (Nat.le_refl _) _)) ((Below.refl _ w).alloc (Nat.le_refl _) _) hlt ⟨E, rfl, hE, hb⟩)
    clear hE hb
    go_wp2_with fail
    go_ret
    rw [HE.out, HA.out]
    exact HX.out
  · have HE := Lib.hid (show portsL P most l = portsN P 0 l by unfold portsL; rw [if_neg hm])
    have HA := Lib.hid (show portsLAfter P most l = portsAfter P l by unfold portsLAfter; rw [if_neg hm])
    go_enter Tryd.func67, Tryd.ntmps67
    go_wp2_with fail
    go_loopw [19] (fun i wr => ∃ (k : Nat) (Q : List Int), k ≤ l.length ∧ i = .int .i64 k ∧ Q.length ≤ P.length + k ∧ Hid (Tk wr g N Q) ∧ Hid (Av g w wr) ∧ Hid (portsN P 0 l = portsN Q k (l.drop k)) ∧ Hid (portsAfter P l = portsAfter Q (l.drop k))) (fun i _ => l.length - (RowKit.intOf i).toNat)
    case atStart => exact ⟨0, P, Nat.zero_le _, rfl, by omega, HT.out, Av.refl _ _, by unfold Hid; rw [List.drop_zero], by unfold Hid; rw [List.drop_zero]⟩
    case round =>
      obtain ⟨k, Q, hk, rfl, hQ, HTk, HAv, H1, H2⟩ := hrel
      by_cases hkl : k < l.length
      · have hkn : (k : Int) < (l.length : Int) := by omega
        have HBr := Lib.hid (HAv.out.base HB.out hg0)
        obtain ⟨hwf, a, rfl, ha, hc⟩ := (Nums.below HN.out HBr.out).at hkl
        have HD := Lib.hid (List.drop_eq_getElem_cons hkl)
        obtain ⟨z, hz⟩ : ∃ z, l[k] = z := ⟨_, rfl⟩
        rw [hz] at hc hwf
        have HZ := Lib.hid hz
        clear hz
        go_wp2_with fail
        refine (member_any t_ports k (by decide) (by omega) wr (HL.out.below HBr.out).tab).mono ?_
        rintro e w1 ⟨rfl, hb1⟩
        have hasz : (atB t_ports k).size ≤ 100 := Nat.le_trans (SpecRef.atB_size t_ports k (by omega)) (by decide)
        obtain ⟨u, hu⟩ : ∃ u, atB t_ports k = u := ⟨_, rfl⟩
        rw [hu] at hasz ⊢
        have HU := Lib.hid hu
        have HT1 := Lib.hid (HTk.out.keep hb1)
        have HA1 := Lib.hid (HAv.out.trans (Av.of_below hb1 HTk.out.lt))
        clear hu hc hb1
        go_wp2_with fail
        refine (within_any z 1 65535 u (by omega) w1).mono ?_
        by_cases hr : z < 1 ∨ 65535 < z
        · have HV : Hid (withinV z 1 65535 u = (1, u)) := by unfold Hid withinV; rw [if_pos hr]
          have HF := Lib.hid (show portsN P 0 l = (1, u) by rw [H1.out, HD.out, HZ.out, portsN, if_pos hr, HU.out])
          have HG := Lib.hid (show portsAfter P l = Q by rw [H2.out, HD.out, HZ.out, portsAfter, if_pos hr])
          rw [HV.out]
          rintro e w2 ⟨E, rfl, hE, hb2⟩
          have HX := Lib.hid (tells_on HT1.out HA1.out ⟨E, rfl, hE, hb2⟩)
          obtain ⟨uu, xx, rfl⟩ : ∃ uu xx, E = .iface uu xx := by
            rcases hE.form with h | h
            · have := hE.nil_iff.1 h
              simp at this
            · exact h
          clear hE hb2 hr
          go_wp2
          go_ret
          rw [HE.out, HA.out, HF.out, HG.out]
          exact HX.out
        · have HV : Hid (withinV z 1 65535 u = fine) := by unfold Hid withinV; rw [if_neg hr]
          rw [HV.out]
          rintro e w2 ⟨E, rfl, hE, hb2⟩
          obtain rfl : E = .nilIface := hE.nil_iff.2 rfl
          have HT2 := Lib.hid (HT1.out.keep hb2)
          have HA2 := Lib.hid (HA1.out.trans (Av.of_below hb2 HT1.out.lt))
          obtain ⟨A, c, B, d, hV⟩ := HT2.out
          have HV2 := Lib.hid hV
          obtain ⟨c0, c1, f0, f1⟩ := two_cells hV.box
          have hg2 := hV.lt
          have HNU := Lib.hid (nums_of_own hV.ports)
          have HR := Lib.hid hr
          clear hE hb2 hV hr
          go_wp2_with fail
          refine (contains_nums z B d Q (by omega) _ HNU.out).mono ?_
          cases hin : Q.contains z with
          | true =>
            have HF := Lib.hid (show portsN P 0 l = newV 150 u by rw [H1.out, HD.out, HZ.out, portsN, if_neg HR.out, if_pos hin, HU.out]; rfl)
            have HG := Lib.hid (show portsAfter P l = Q by rw [H2.out, HD.out, HZ.out, portsAfter, if_neg HR.out, if_pos hin])
            clear hin
            rintro e w3 ⟨rfl, rfl⟩
            go_wp2_with fail
            refine (new_says 150 u w2.heap.size 1 _ (by omega) (by simp)).mono ?_
            rintro e w3 ⟨E, rfl, hE, hb3⟩
            have hal : Below w2.heap.size w2 (w2.alloc (.cells #[.string u] 9)) := (Below.refl _ _).alloc (Nat.le_refl _) _
            have HX := Lib.hid (tells_on (HT2.out.keep hal) (HA2.out.trans (Av.of_below hal hg2)) ⟨E, rfl, hE, hb3⟩)
            clear hE hb3 hal c0 c1 f0 f1
            go_wp2_with fail
            go_ret
            rw [HE.out, HA.out, HF.out, HG.out]
            exact HX.out
          | false =>
            have HF := Lib.hid (show portsN P 0 l = portsN (Q ++ [z]) (k + 1) (l.drop (k + 1)) by rw [H1.out, HD.out, HZ.out, portsN, if_neg HR.out, if_neg (by rw [hin]; simp)])
            have HG := Lib.hid (show portsAfter P l = portsAfter (Q ++ [z]) (l.drop (k + 1)) by rw [H2.out, HD.out, HZ.out, portsAfter, if_neg HR.out, if_neg (by rw [hin]; simp)])
            clear hin
            rintro e w3 ⟨rfl, rfl⟩
            go_wp2_with (at_builtin; refine wpList_append_own_at _ rfl _ _ 46 rfl (g + 1) 3 i0 (.int .i64 0) 1 8 Tryd.underlying46 hi hz0 hz1 hz2 rfl (by decide) _ _ _ rfl (HV2.out.ports.alloc _) ⟨w2.heap.size, 0, none⟩ 1 1 [.int .i64 z] rfl rfl (cell_one_new _ _ _) (by intro u hu; simp at hu; subst hu; rfl) (by unfold maxLen; omega) (by omega) (by simp; omega) ?_)
            intro v' w7 hown' hgrow hnil hloc
            obtain ⟨A', c', rfl⟩ := own_form hown'
            have HP := Lib.hid (HV2.out.push_port (.cells #[.int .i64 z] 3) z _ hown' hgrow hloc)
            have hsame : w7.heap[g]? = w2.heap[g]? := by
              have h1 := hgrow.block g (by simp; omega) (fun e => by have := (HV2.out.ports.lt g e.symm).1; omega)
              rw [h1]
              exact ((Below.refl w2.heap.size w2).alloc (Nat.le_refl _) _).block g hg2
            have hcell : w7.cell? ⟨g, 1, none⟩ = some (.slice B Q.length d) := (World.cell?_of_block (w := w2) (a := ⟨g, 1, none⟩) hsame).trans c1
            have hfz : w7.frozen? ⟨g, 1, none⟩ = false := (World.frozen?_of_block (w := w2) (a := ⟨g, 1, none⟩) hsame).trans f1
            clear hown' hgrow hnil hloc hsame c0 c1 f0 f1
            go_wp2
            go_roundw
            case rel => exact ⟨k + 1, Q ++ [z], by omega, by go_num, by simp; omega, HP.out.1, HA2.out.trans HP.out.2, HF.out, HG.out⟩
            case measure => simp [RowKit.intOf]; omega
      · have HF := Lib.hid (show portsN P 0 l = fine by rw [H1.out, List.drop_eq_nil_of_le (by omega)]; rfl)
        have HG := Lib.hid (show portsAfter P l = Q by rw [H2.out, List.drop_eq_nil_of_le (by omega)]; rfl)
        go_wp2
        go_ret
        rw [HE.out, HA.out, HF.out, HG.out]
        exact ⟨_, rfl, .inl ⟨rfl, rfl⟩, HAv.out, HTk.out⟩
end SpecOwn
end Go.Proofs.YtpllcnpmjnmcfaaDoor

/-
  A region that draws its order, in which some operations, one behind the other, write (calls that turn what was there), while all others leave what was there as it was: what each operation leaves in its slot is told by a fact that stays true through the region; what the writing ones turn is told by a state that each of them brings on by one.
-/
namespace Go.Proofs.YtpllcnpmjnmcfaaDoor
open Go.RowKit
namespace Line
open Loose
variable {P : Program} {ops : Array Oper} {Q : Exit → Act → World → Prop}

/-- what the world may become: A; the writing operations: cs; the state behind j of them: G j; what operation i leaves in its slot: F i -/
structure Plan where
  A : World → World → Prop
  refl : ∀ w, A w w
  trans : ∀ {a b c}, A a b → A b c → A a c
  below : ∀ {w w'}, Below w.heap.size w w' → A w w'
  cs : List Nat
  G : Nat → World → Prop
  F : Nat → Value → World → Prop
  keepG : ∀ j w w', G j w → Below w.heap.size w w' → G j w'
  keepF : ∀ i v w w', F i v w → A w w' → F i v w'
/-- each writing operation waits for the one ahead of it -/
def lineB (ops : Array Oper) : List Nat → Bool
  | [] => true
  | [_] => true
  | c :: d :: l => decide (c < d) && (ops[d]?).any (fun o => o.after.any fun e => e.on == c && Region.binds .any e) && lineB ops (d :: l)
theorem line_next : ∀ {cs : List Nat} {k : Nat} {c d : Nat} {o : Oper}, lineB ops cs = true → cs[k]? = some c → cs[k + 1]? = some d → ops[d]? = some o → c < d ∧ ∃ e ∈ o.after, e.on = c ∧ Region.binds .any e = true
  | [], _, _, _, _, _, h, _, _ => by simp at h
  | [_], 0, _, _, _, _, _, h, _ => by simp at h
  | [_], _ + 1, _, _, _, _, h, _, _ => by simp at h
  | x :: y :: l, 0, c, d, o, h, h1, h2, ho => by
    simp only [List.getElem?_cons_zero, Option.some.injEq, List.getElem?_cons_succ] at h1 h2
    subst h1 h2
    simp only [lineB, ho, Option.any_some, Bool.and_eq_true, decide_eq_true_eq] at h
    obtain ⟨⟨hl, h3⟩, _⟩ := h
    rw [Array.any_eq_true] at h3
    obtain ⟨i, hi, h3⟩ := h3
    rw [Bool.and_eq_true, beq_iff_eq] at h3
    exact ⟨hl, _, Array.getElem_mem hi, h3.1, h3.2⟩
  | x :: y :: l, k + 1, c, d, o, h, h1, h2, ho => by
    simp only [lineB, Bool.and_eq_true] at h
    exact line_next (cs := y :: l) (k := k) h.2 (by simpa using h1) (by simpa using h2) ho
theorem line_lt : ∀ {cs : List Nat} {k m : Nat} {c d : Nat}, lineB ops cs = true → cs[k]? = some c → cs[m]? = some d → k < m → c < d
  | [], _, _, _, _, _, h, _, _ => by simp at h
  | x :: l, k, 0, _, _, _, _, _, h => by omega
  | [_], _, m + 1, _, _, _, _, h, _ => by simp at h
  | x :: y :: l, 0, m + 1, c, d, h, h1, h2, _ => by
    simp only [List.getElem?_cons_zero, Option.some.injEq] at h1
    subst h1
    simp only [lineB, Bool.and_eq_true, decide_eq_true_eq] at h
    rcases m with _ | m
    · simp only [List.getElem?_cons_succ, List.getElem?_cons_zero, Option.some.injEq] at h2
      rw [← h2]; exact h.1.1
    · have := line_lt (cs := y :: l) (k := 0) (m := m + 1) (c := y) (d := d) h.2 rfl (by simpa using h2) (by omega)
      have := h.1.1
      omega
  | x :: y :: l, k + 1, m + 1, c, d, h, h1, h2, hk => by
    simp only [lineB, Bool.and_eq_true] at h
    exact line_lt (cs := y :: l) (k := k) (m := m) h.2 (by simpa using h1) (by simpa using h2) (by omega)
/-- the frame behind some of the operations -/
structure Framed (p : Plan) (ops : Array Oper) (a0 : Act) (w0 : World) (a : Act) (w : World) : Prop where
  size : a.tmps.size = a0.tmps.size
  defers : a.defers = a0.defers
  kept : p.A w0 w
  free : ∀ t, (∀ (i : Nat) (o : Oper), ops[i]? = some o → o.dst ≠ some t) → a.tmps.getD t undef = a0.tmps.getD t undef
/-- what operation i may do to the world -/
def Leaves (p : Plan) (i : Nat) (w w' : World) : Prop := (i ∉ p.cs ∧ Below w.heap.size w w') ∨ ∃ j, p.cs[j]? = some i ∧ p.A w w' ∧ p.G (j + 1) w'
/-- the operation number i is met -/
def Step (p : Plan) (P : Program) (ops : Array Oper) (Q : Exit → Act → World → Prop) (a0 : Act) (w0 : World) (i : Nat) (o : Oper) : Prop :=
  ∀ a w, Framed p ops a0 w0 a w → (∀ e ∈ o.after, Region.binds .any e = true → ∀ oj d, ops[e.on]? = some oj → oj.dst = some d → p.F e.on (a.tmps.getD d undef) w) → (∀ j, p.cs[j]? = some i → p.G j w) →
    (Region.wanted o (yielded ops a.tmps) = true ∧ o.wp P a w (fun a' w' => ∃ v, a' = a.put o.dst v ∧ p.F i v w' ∧ Leaves p i w w') Q) ∨ (Region.wanted o (yielded ops a.tmps) = false ∧ p.F i undef w ∧ Leaves p i w w)
theorem wp_region_line {id : Nat} {a0 : Act} {w0 : World} (hm : P.follows .mixedOrders = true) (hok : okB ops a0.tmps.size = true) (p : Plan) (hline : lineB ops p.cs = true) (h0 : p.G 0 w0)
    (hstep : ∀ i o, ops[i]? = some o → Step p P ops Q a0 w0 i o) (hcs : ∀ i ∈ p.cs, i < ops.size)
    (hend : ∀ a w, Framed p ops a0 w0 a w → (∀ i o d, ops[i]? = some o → o.dst = some d → p.F i (a.tmps.getD d undef) w) → p.G p.cs.length w → Q .normal a w) : (Code.region id ops true).wp P Q a0 w0 := by
  have main : ∀ (fuel : Nat) (listed : Array Bool) (a : Act) (w : World), listed.size = ops.size → ((List.range ops.size).filter fun j => !listed.getD j true).length ≤ fuel → Framed p ops a0 w0 a w →
      (∃ j, j ≤ p.cs.length ∧ p.G j w ∧ (∀ k c, k < j → p.cs[k]? = some c → listed.getD c true = true) ∧ (∀ k c, j ≤ k → p.cs[k]? = some c → listed.getD c true = false)) →
      (∀ i o d, ops[i]? = some o → listed.getD i true = true → o.dst = some d → p.F i (a.tmps.getD d undef) w) → wpAny P .any ops Q fuel listed a w := by
    have last : ∀ (listed : Array Bool) (a : Act) (w : World), (∀ i, i < ops.size → listed.getD i true = true) → Framed p ops a0 w0 a w →
        (∃ j, j ≤ p.cs.length ∧ p.G j w ∧ (∀ k c, k < j → p.cs[k]? = some c → listed.getD c true = true) ∧ (∀ k c, j ≤ k → p.cs[k]? = some c → listed.getD c true = false)) →
        (∀ i o d, ops[i]? = some o → listed.getD i true = true → o.dst = some d → p.F i (a.tmps.getD d undef) w) → Q .normal a w := by
      rintro listed a w hall hfr ⟨j, hj, hG, _, hun⟩ hd
      refine hend a w hfr (fun i o d ho hdst => hd i o d ho (hall i (Array.getElem?_eq_some_iff.1 ho).1) hdst) ?_
      rcases Nat.lt_or_ge j p.cs.length with hl | hl
      · have h1 := hun j _ (Nat.le_refl _) (List.getElem?_eq_getElem hl)
        rw [hall _ (hcs _ (List.getElem_mem hl))] at h1
        cases h1
      · obtain rfl : j = p.cs.length := by omega
        exact hG
    intro fuel
    induction fuel with
    | zero =>
      intro listed a w hsz hl hfr hJ hd
      have hall : ∀ i, i < ops.size → listed.getD i true = true := by
        intro i hi
        cases hc : listed.getD i true with
        | true => rfl
        | false =>
          have : i ∈ (List.range ops.size).filter fun j => !listed.getD j true := List.mem_filter.2 ⟨List.mem_range.2 hi, by rw [hc]; rfl⟩
          have h0 := List.eq_nil_of_length_eq_zero (Nat.le_zero.1 hl)
          rw [h0] at this
          cases this
      refine ⟨?_, last listed a w hall hfr hJ hd⟩
      rw [List.eq_nil_iff_forall_not_mem]
      intro i hi
      obtain ⟨h1, o, ho, _⟩ := mem_ready.1 hi
      rw [hall i (Array.getElem?_eq_some_iff.1 ho).1] at h1
      cases h1
    | succ fuel ih =>
      intro listed a w hsz hl hfr hJ hd
      refine ⟨fun hr => ?_, fun i hi => ?_⟩
      · have hall : ∀ i, i < ops.size → listed.getD i true = true := by
          intro i
          induction i using Nat.strongRecOn with
          | _ i hi =>
            intro hlt
            cases hc : listed.getD i true with
            | true => rfl
            | false =>
              have ho : ops[i]? = some ops[i] := Array.getElem?_eq_getElem hlt
              have : i ∈ Region.ready .any ops listed := mem_ready.2 ⟨hc, _, ho, fun e he hb => by
                have hlt' := (ok_spec hok ho).2.1 e he hb
                have h1 := hi e.on hlt' (by omega)
                rw [Array.getD_eq_getD_getElem?] at h1 ⊢
                have : e.on < listed.size := by omega
                simp [this] at h1 ⊢
                exact h1⟩
              rw [hr] at this
              cases this
        exact last listed a w hall hfr hJ hd
      · obtain ⟨hun, o, ho, hdep⟩ := mem_ready.1 hi
        have hlt : i < ops.size := (Array.getElem?_eq_some_iff.1 ho).1
        obtain ⟨⟨d, hdst, hdn⟩, hback, _⟩ := ok_spec hok ho
        have hsz' : (listed.setIfInBounds i true).size = ops.size := by simpa using hsz
        have hl' : ((List.range ops.size).filter fun j => !(listed.setIfInBounds i true).getD j true).length ≤ fuel := by
          have := left_lt (n := ops.size) hlt hun
          omega
        have hset : (listed.setIfInBounds i true).getD i true = true := by
          have : i < listed.size := by omega
          simp [Array.getD_eq_getD_getElem?, this]
        have hdl : ∀ e ∈ o.after, Region.binds .any e = true → listed.getD e.on true = true := by
          intro e he hb
          have h1 := hdep e he hb
          have hs : e.on < listed.size := by have := hback e he hb; omega
          rw [Array.getD_eq_getD_getElem?] at h1 ⊢
          simp [hs] at h1 ⊢
          exact h1
        obtain ⟨j, hj, hG, hdone, hleft⟩ := hJ
        -- a writing operation that is ready is the next one
        have hnext : ∀ m, p.cs[m]? = some i → m = j := by
          intro m hm
          rcases Nat.lt_trichotomy m j with h | h | h
          · have := hdone m i h hm
            rw [hun] at this; cases this
          · exact h
          · exfalso
            obtain ⟨n, rfl⟩ : ∃ n, m = n + 1 := ⟨m - 1, by omega⟩
            have hn : n < p.cs.length := by have := (List.getElem?_eq_some_iff.1 hm).1; omega
            obtain ⟨_, e, he, hon, hbd⟩ := line_next hline (List.getElem?_eq_getElem hn) hm ho
            have h1 := hdl e he hbd
            rw [hon, hleft n _ (by omega) (List.getElem?_eq_getElem hn)] at h1
            cases h1
        -- whatever the operation leaves
        have next : ∀ v w', p.F i v w' → Leaves p i w w' → wpAny P .any ops Q fuel (listed.setIfInBounds i true) (a.put o.dst v) w' := by
          intro v w' hv hlv
          have hA : p.A w w' := by
            rcases hlv with ⟨_, h⟩ | ⟨_, _, h, _⟩
            · exact p.below h
            · exact h
          refine ih _ _ _ hsz' hl' ⟨?_, ?_, p.trans hfr.kept hA, fun t ht => ?_⟩ ?_ fun k oj dj hoj hlj hdj => ?_
          · rw [hdst]; simpa [Act.put] using hfr.size
          · rw [hdst]; exact hfr.defers
          · rw [hdst, put_other (fun e => ht i o ho (by rw [hdst, e]))]
            exact hfr.free t ht
          · rcases hlv with ⟨hni, hb⟩ | ⟨m, hmi, _, hG'⟩
            · refine ⟨j, hj, p.keepG _ _ _ hG hb, fun k c hk hc => ?_, fun k c hk hc => ?_⟩
              · have hci : c ≠ i := fun e => hni (e ▸ List.mem_of_getElem? hc)
                rw [getD_set_ne true (Ne.symm hci)]
                exact hdone k c hk hc
              · have hci : c ≠ i := fun e => hni (e ▸ List.mem_of_getElem? hc)
                rw [getD_set_ne true (Ne.symm hci)]
                exact hleft k c hk hc
            · obtain rfl := hnext m hmi
              have hml := (List.getElem?_eq_some_iff.1 hmi).1
              refine ⟨m + 1, hml, hG', fun k c hk hc => ?_, fun k c hk hc => ?_⟩
              · by_cases hkm : k = m
                · subst hkm
                  obtain rfl : c = i := Option.some.inj (hc.symm.trans hmi)
                  exact hset
                · have hci : c ≠ i := by have := line_lt hline hc hmi (by omega); omega
                  rw [getD_set_ne true (Ne.symm hci)]
                  exact hdone k c (by omega) hc
              · have hci : c ≠ i := by have := line_lt hline hmi hc (by omega); omega
                rw [getD_set_ne true (Ne.symm hci)]
                exact hleft k c (by omega) hc
          · by_cases hji : k = i
            · subst hji
              obtain rfl : oj = o := Option.some.inj (hoj.symm.trans ho)
              obtain rfl : dj = d := Option.some.inj (hdj.symm.trans hdst)
              rw [hdst, put_same (by rw [hfr.size]; exact hdn)]
              exact hv
            · have hne := ok_unlike hok ho hoj hji
              rw [hdst, hdj] at hne
              rw [hdst, put_other (fun e => hne (by rw [e]))]
              rw [getD_set_ne true (Ne.symm hji)] at hlj
              exact p.keepF k _ _ _ (hd k oj dj hoj hlj hdj) hA
        have hdeps : ∀ e ∈ o.after, Region.binds .any e = true → ∀ oj dj, ops[e.on]? = some oj → oj.dst = some dj → p.F e.on (a.tmps.getD dj undef) w :=
          fun e he hb oj dj hoj hdj => hd e.on oj dj hoj (hdl e he hb) hdj
        unfold wpOp
        simp only [ho]
        rcases hstep i o ho a w hfr hdeps (fun m hm => by rw [hnext m hm]; exact hG) with ⟨hw, hwp⟩ | ⟨hw, hu, hlv⟩
        · rw [if_pos hw]
          refine .inl (Oper.wp_mono ?_ hwp)
          rintro a' w' ⟨v, rfl, hv, hb⟩
          exact next v w' hv hb
        · rw [if_neg (by rw [hw]; simp)]
          exact next undef w hu hlv
  refine wp_region_any hm (main _ _ _ _ (by simp) ?_ ⟨rfl, rfl, p.below ⟨rfl, rfl, rfl, Nat.le_refl _, fun _ _ => rfl⟩, fun _ _ => rfl⟩ ⟨0, Nat.zero_le _, p.keepG _ w0 _ h0 ⟨rfl, rfl, rfl, Nat.le_refl _, fun _ _ => rfl⟩, fun k c hk _ => by omega, fun k c _ hc => ?_⟩ ?_)
  · refine Nat.le_trans (List.length_filter_le _ _) ?_
    simp
  · have := hcs c (List.mem_of_getElem? hc)
    rw [Array.getD_eq_getD_getElem?]
    simp [this]
  · intro i o d ho hl _
    have hlt : i < ops.size := (Array.getElem?_eq_some_iff.1 ho).1
    rw [Array.getD_eq_getD_getElem?] at hl
    simp [hlt] at hl
/-- the steps, one behind the other -/
def Steps (p : Plan) (P : Program) (ops : Array Oper) (Q : Exit → Act → World → Prop) (a0 : Act) (w0 : World) : Nat → List Oper → Prop
  | _, [] => True
  | k, o :: l => Step p P ops Q a0 w0 k o ∧ Steps p P ops Q a0 w0 (k + 1) l
theorem Steps.at {p : Plan} {a0 : Act} {w0 : World} : ∀ {l : List Oper} {k i : Nat} {o : Oper}, Steps p P ops Q a0 w0 k l → l[i]? = some o → Step p P ops Q a0 w0 (k + i) o
  | [], _, _, _, _, h => by simp at h
  | x :: l, k, 0, o, hs, h => by
    simp only [List.getElem?_cons_zero, Option.some.injEq] at h
    subst h
    exact hs.1
  | x :: l, k, i + 1, o, hs, h => by
    have := Steps.at hs.2 (show l[i]? = some o by simpa using h)
    rwa [Nat.add_assoc, Nat.add_comm 1 i] at this
/-- behind the region: whatever the slots hold, by the facts on it -/
def Ends (p : Plan) (Q : Exit → Act → World → Prop) (w0 : World) : Nat → List Oper → Act → (World → Prop) → Prop
  | _, [], a, C => ∀ w, p.A w0 w → C w → p.G p.cs.length w → Q .normal a w
  | k, o :: l, a, C => ∀ v, Ends p Q w0 (k + 1) l (a.put o.dst v) (fun w => C w ∧ p.F k v w)
theorem ends_sound {p : Plan} {w0 : World} {a : Act} {w : World} (hb : p.A w0 w) (hG : p.G p.cs.length w) : ∀ {l : List Oper} {k : Nat} {b : Act} {C : World → Prop}, Ends p Q w0 k l b C → C w →
    (∀ i o d, l[i]? = some o → o.dst = some d → p.F (k + i) (a.tmps.getD d undef) w) → (∀ o ∈ l, ∃ d, o.dst = some d ∧ d < a.tmps.size) → b.tmps.size = a.tmps.size → b.defers = a.defers →
    (∀ t, (∀ o ∈ l, o.dst ≠ some t) → b.tmps.getD t undef = a.tmps.getD t undef) → Q .normal a w
  | [], k, b, C, he, hC, _, _, hs, hd, ht => by
    obtain rfl : b = a := act_ext hs hd fun t => ht t (fun o ho => by cases ho)
    exact he w hb hC hG
  | o :: l, k, b, C, he, hC, hF, hr, hs, hd, ht => by
    obtain ⟨d, hdst, hdn⟩ := hr o (by simp)
    have h0 : p.F k (a.tmps.getD d undef) w := hF 0 o d rfl hdst
    refine ends_sound hb hG (he (a.tmps.getD d undef)) ⟨hC, h0⟩ (fun i o' d' ho' hd' => ?_) (fun o' ho' => hr o' (by simp [ho'])) ?_ ?_ fun t hnt => ?_
    · have := hF (i + 1) o' d' (by simpa using ho') hd'
      rwa [show k + (i + 1) = k + 1 + i from by omega] at this
    · rw [hdst]; simpa [Act.put] using hs
    · rw [hdst]; exact hd
    · by_cases e : d = t
      · subst e
        rw [hdst, put_same (by rw [hs]; exact hdn)]
      · rw [hdst, put_other e]
        exact ht t fun o' ho' => by
          rcases List.mem_cons.1 ho' with rfl | h
          · rw [hdst]; exact fun h => e (Option.some.inj h)
          · exact hnt o' h
/-- THE LAW, for a region whose operations are written out -/
theorem wp_region_walk {id : Nat} {l : List Oper} {a0 : Act} {w0 : World} (hm : P.follows .mixedOrders = true) (hok : okB l.toArray a0.tmps.size = true) (p : Plan) (hline : lineB l.toArray p.cs = true) (hcs : p.cs.all (fun i => decide (i < l.length)) = true) (h0 : p.G 0 w0)
    (hsteps : Steps p P l.toArray Q a0 w0 0 l) (hend : Ends p Q w0 0 l a0 (fun _ => True)) : (Code.region id l.toArray true).wp P Q a0 w0 := by
  refine wp_region_line hm hok p hline h0 (fun i o ho => ?_) (fun i hi => by simpa using List.all_eq_true.1 hcs i hi) fun a w hfr hall hG => ?_
  · have := hsteps.at (i := i) (o := o) (by simpa using ho)
    rwa [Nat.zero_add] at this
  · refine ends_sound hfr.kept hG hend trivial (fun i o d ho hd => ?_) (fun o ho => ?_) hfr.size.symm hfr.defers.symm fun t ht => ?_
    · rw [Nat.zero_add]
      exact hall i o d (by simpa using ho) hd
    · obtain ⟨i, hi, rfl⟩ := List.getElem_of_mem ho
      obtain ⟨d, h1, h2⟩ := (ok_spec hok (i := i) (o := l[i]) (by simp [hi])).1
      exact ⟨d, h1, by rw [hfr.size]; exact h2⟩
    · exact (hfr.free t fun i o ho => ht o (by
        have := List.mem_of_getElem? (show l[i]? = some o by simpa using ho)
        exact this)).symm
theorem Framed.slot {p : Plan} {a0 a : Act} {w0 w : World} (h : Framed p ops a0 w0 a w) (t : Nat) (ht : freeB ops t = true) : a.tmps.getD t undef = a0.tmps.getD t undef :=
  h.free t fun i o ho e => by
    have := Array.all_eq_true_iff_forall_mem.1 ht o (Array.mem_of_getElem? ho)
    rw [e] at this
    simp at this
/-- an operation that is no call and only computes, reads or makes memory -/
theorem Step.value {p : Plan} {i : Nat} {o : Oper} {a : Act} {w w' : World} {v : Value} (hi : i ∉ p.cs) (hg : Region.wanted o (yielded ops a.tmps) = true) (hr : (execOp a.eval o).run P w = .ok (.value v) w') (hv : p.F i v w') (hb : Below w.heap.size w w') :
    (Region.wanted o (yielded ops a.tmps) = true ∧ o.wp P a w (fun a' w' => ∃ v, a' = a.put o.dst v ∧ p.F i v w' ∧ Leaves p i w w') Q) ∨ (Region.wanted o (yielded ops a.tmps) = false ∧ p.F i undef w ∧ Leaves p i w w) := by
  refine .inl ⟨hg, ?_⟩
  unfold Oper.wp
  rw [hr]
  exact ⟨v, rfl, hv, .inl ⟨hi, hb⟩⟩
/-- a call that leaves what was there, by its contract -/
theorem Step.call {p : Plan} {i : Nat} {o : Oper} {a : Act} {w : World} {f : FuncId} {args : Array Value} (hi : i ∉ p.cs) (hg : Region.wanted o (yielded ops a.tmps) = true) (hr : (execOp a.eval o).run P w = .ok (.enter f args) w)
    (hc : Calls P f args w fun e w' => ∃ v, e = .returned v ∧ p.F i v w' ∧ Below w.heap.size w w') :
    (Region.wanted o (yielded ops a.tmps) = true ∧ o.wp P a w (fun a' w' => ∃ v, a' = a.put o.dst v ∧ p.F i v w' ∧ Leaves p i w w') Q) ∨ (Region.wanted o (yielded ops a.tmps) = false ∧ p.F i undef w ∧ Leaves p i w w) := by
  refine .inl ⟨hg, ?_⟩
  unfold Oper.wp
  rw [hr]
  refine Calls.mono hc ?_
  rintro e w' ⟨v, rfl, hv, hb⟩
  exact ⟨v, rfl, hv, .inl ⟨hi, hb⟩⟩
/-- a call that brings the state on, by its contract -/
theorem Step.write {p : Plan} {i : Nat} {o : Oper} {a : Act} {w : World} {f : FuncId} {args : Array Value} (j : Nat) (hj : p.cs[j]? = some i) (hg : Region.wanted o (yielded ops a.tmps) = true) (hr : (execOp a.eval o).run P w = .ok (.enter f args) w)
    (hc : Calls P f args w fun e w' => ∃ v, e = .returned v ∧ p.F i v w' ∧ p.A w w' ∧ p.G (j + 1) w') :
    (Region.wanted o (yielded ops a.tmps) = true ∧ o.wp P a w (fun a' w' => ∃ v, a' = a.put o.dst v ∧ p.F i v w' ∧ Leaves p i w w') Q) ∨ (Region.wanted o (yielded ops a.tmps) = false ∧ p.F i undef w ∧ Leaves p i w w) := by
  refine .inl ⟨hg, ?_⟩
  unfold Oper.wp
  rw [hr]
  refine Calls.mono hc ?_
  rintro e w' ⟨v, rfl, hv, hb, hG⟩
  exact ⟨v, rfl, hv, .inr ⟨j, hj, hb, hG⟩⟩
theorem wanted_free {o : Oper} {a : Act} (hg : o.guard = none) : Region.wanted o (yielded ops a.tmps) = true := by simp [Region.wanted, hg]
end Line
end Go.Proofs.YtpllcnpmjnmcfaaDoor
