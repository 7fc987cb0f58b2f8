/-
  A call, done to the program's node and to the document's: they answer alike and hold the same pods behind it. Conditions: as Admit says, of both.
-/
import Derived.Test.YtbichomjpmmjmaaGreatDoorNp21
import Derived.Test.YtbichomjpmmjmaaGreatDoorNp22
import Derived.Test.YtbichomjpmmjmaaGreatDoorNp19
import Derived.Test.YtbichomjpmmjmaaGreatDoorNp24
import Derived.Test.YtbichomjpmmjmaaGreatDoorNp3
import Derived.Test.YtbichomjpmmjmaaGreatDoorShelf5
import Derived.Test.YtbichomjpmmjmaaGreatDoorNp10
import Derived.Test.YtbichomjpmmjmaaGreatDoorNp17
import Derived.Test.YtbichomjpmmjmaaGreatDoorNp1
import Derived.Test.YtbichomjpmmjmaaGreatDoorNp15
import Derived.Test.YtbichomjpmmjmaaGreatDoorNp14
import Derived.Test.YtbichomjpmmjmaaGreatDoorNp11
import Derived.Maps.OwnSet
import Derived.WalkKit
import Derived.ProofKit
import Derived.BigQuiet
import Derived.Deep.QuietTactic
import Derived.Deep.RegionLaw
import Derived.StillTailTactics
set_option linter.unusedVariables false
set_option linter.unusedSimpArgs false
namespace Go.Proofs.YtbichomjpmmjmaaGreatDoor
open Go.ChangeShapes Go.WideShapes Go.ChangeAt Go.RowKit Go.Lib
open NumMath
namespace Nn
open Re Nd Sd SpecOwn
/-- the pods behind a call -/
def stepL (has : Rx) (l : Pods) (x : Na) : Pods := if x.kind = 0 then admL has l x.uid (askS x.S) else if x.kind = 1 then cut x.uid l else l
theorem step_len (has : Rx) (l : Pods) (x : Na) : (stepL has l x).length ≤ l.length + 1 := by
  unfold stepL
  split
  · exact adm_length _ _ _ _
  · split
    · have := cut_le x.uid l; omega
    · omega
/-- what a call done to both comes to -/
def Both (B g : Nat) (has : Rx) (l : Pods) (w : World) (e : Ending) (w' : World) : Prop := ∃ (A : Option Addr) (c : Nat) (ds : List Pd), e = .returned (.tuple #[.agg ([.int .i64 has.c, .int .i64 has.m, .int .i64 has.p, .slice A ds.length c] : List Value).toArray, .bool true]) ∧ pods ds = l ∧ Nl w' 0 A c ds ∧ Nn B w' g has l ∧ Kn B w w'
theorem res_does (tmps : Array Value) (w : World) (p : Nat) (xs : List Value) (x : Value) (h2 : tmps.getD 6 undef = .pointer (some ⟨p, 0, none⟩)) (h3 : tmps.getD 7 undef = x) (hX : w.heap[p]? = some (.cells xs.toArray 29 (0, 0))) (hm : xs.length = 4) :
    (results Tryz.f10 tmps).run Tryz.prog w = .ok (.tuple #[.agg xs.toArray, x]) w := by
  have h1 : (loadVar 29 ⟨p, 0, none⟩).run Tryz.prog w = .ok (.agg xs.toArray) w := run_loadVar_mid w p 0 29 _ _ (range_box hX) Tryz.underlying29 rfl (by rw [hm]; kernel_rfl)
  simp only [results, Tryz.results10]
  simp only [Array.getD_eq_getD_getElem?] at h2 h3
  have ha : (asAddr (tmps[6]?.getD undef)).run Tryz.prog w = .ok ⟨p, 0, none⟩ w := by rw [h2]; rfl
  simp [Sem.run_bind, h1, ha, h3]
theorem act_range {w : World} {b : Nat} {x : Na} (h : w.heap[b]? = some (.cells x.vals.toArray 37 (0, 0))) : w.rangeAt b 2 [.string x.S.name, .slice x.LA x.S.labels.length x.lc, .slice x.IA x.S.init.length x.ic, .slice x.MA x.S.main.length x.mc, .int .i64 x.S.restart, .int .i64 x.S.grace, .int .i64 x.S.prio] := Na.spec_at (o := 0) fun j v hv => Pt.box_cell h (0 + j) (by simpa using hv)
set_option maxRecDepth 100000 in
set_option maxHeartbeats 8000000 in
theorem does_any {B : Nat} {g : Nat} {has : Rx} {l : Pods} {B2 : Nat} {A : Option Addr} {c : Nat} (ds : List Pd) (x : Na) (w : World) (h : Nn B w g has l) (hD : Nl w B2 A c ds) (hl : pods ds = l) (hfew : ds.length ≤ 99999) (hx : x.uid ≤ 9223372036854775807) (hL : Book.Light x.S)
    (hSL : ∀ v, Kn B w v → SLaid v) (hS : ∀ v, Kn B w v → x.S.In v x.LA x.lc x.IA x.ic x.MA x.mc) :
    Calls Tryz.prog 10 #[.pointer (some ⟨g, 0, none⟩), .agg ([.int .i64 has.c, .int .i64 has.m, .int .i64 has.p, .slice A ds.length c] : List Value).toArray, .agg x.vals.toArray] w (Both B g has (stepL has l x) w) := by
  have H := Lib.hid h
  have HD := Lib.hid hD
  have HSL := Lib.hid hSL
  have HS := Lib.hid hS
  have HL := Lib.hid hL
  have HLE := Lib.hid hl
  obtain ⟨w0, hw0⟩ : ∃ v, ((w.alloc (.cells ([.int .i64 has.c, .int .i64 has.m, .int .i64 has.p, .slice A ds.length c] : List Value).toArray 29)).alloc (.cells x.vals.toArray 37)).alloc (.cells ([.int .i64 0, .int .i64 0, .int .i64 0, .slice none 0 0] : List Value).toArray 29) = v := ⟨_, rfl⟩
  have B0 := Lib.hid (show Below w.heap.size w w0 by rw [← hw0]; go_grown)
  have Q0 := Lib.hid (show w0.heap[w.heap.size]? = some (.cells ([.int .i64 has.c, .int .i64 has.m, .int .i64 has.p, .slice A ds.length c] : List Value).toArray 29 (0, 0)) by rw [← hw0, Below.heap_alloc _ _ _ (by simp; omega), Below.heap_alloc _ _ _ (by simp)]; exact heap_alloc_new w _)
  have X0 := Lib.hid (show w0.heap[w.heap.size + 1]? = some (.cells x.vals.toArray 37 (0, 0)) by rw [← hw0, Below.heap_alloc _ _ _ (by simp)]; have := heap_alloc_new (w.alloc (.cells ([.int .i64 has.c, .int .i64 has.m, .int .i64 has.p, .slice A ds.length c] : List Value).toArray 29)) (.cells x.vals.toArray 37); rw [World.size_alloc] at this; exact this)
  have Y0 := Lib.hid (show w0.heap[w.heap.size + 1 + 1]? = some (.cells ([.int .i64 0, .int .i64 0, .int .i64 0, .slice none 0 0] : List Value).toArray 29 (0, 0)) by rw [← hw0]; have := heap_alloc_new ((w.alloc (.cells ([.int .i64 has.c, .int .i64 has.m, .int .i64 has.p, .slice A ds.length c] : List Value).toArray 29)).alloc (.cells x.vals.toArray 37)) (.cells ([.int .i64 0, .int .i64 0, .int .i64 0, .slice none 0 0] : List Value).toArray 29); rw [World.size_alloc, World.size_alloc] at this; exact this)
  have HW := Lib.hid hw0
  have k0 : w0.cell? ⟨w.heap.size + 1, 0, none⟩ = some (.int .i64 x.kind) := Pt.box_cell X0.out 0 rfl
  have k1 : w0.cell? ⟨w.heap.size + 1, 1, none⟩ = some (.int .i64 x.uid) := Pt.box_cell X0.out 1 rfl
  have RX := Lib.hid (act_range X0.out)
  obtain ⟨l2, hl2⟩ : ∃ l2, stepL has l x = l2 := ⟨_, rfl⟩
  have HL2 := Lib.hid hl2
  rw [hl2]
  clear h hD hSL hS hL hl hl2
  by_cases hk : x.kind = 0
  · have hkk : (x.kind == 0) = true := by simp [hk]
    have HE := Lib.hid (show l2 = admL has l x.uid (askS x.S) by rw [← HL2.out]; unfold stepL; rw [if_pos hk])
    obtain ⟨F, hF⟩ : ∃ F, admC has l x.uid (askS x.S) = F := ⟨_, rfl⟩
    have CA := admit_any x.uid x.S x.LA x.lc x.IA x.ic x.MA x.mc hx HL.out w0 (H.out.below B0.out) (HSL.out _ (Kn.of_below B0.out)) (fun v hv => HS.out v ((Kn.of_below B0.out).trans hv))
    rw [hF] at CA
    have CA := Lib.hid CA
    have CR := Lib.hid (fun (v : World) (hv : Kn B w v) => refadmit_any has x.uid x.S x.LA x.lc x.IA x.ic x.MA x.mc HL.out v (nl_kn HD.out hv) (HS.out v hv) hfew)
    rw [HLE.out, hF] at CR
    clear hk hF
    go_enter Tryz.func10, Tryz.ntmps10
    go_wp2_with (first | (refine wpList_load_mid rfl 35 _ rfl _ _ rfl _ _ RX.out Tryz.underlying35 rfl (by kernel_rfl) ?_))
    clear hw0
    refine (CA.out).mono ?_
    rintro e w1 ⟨rfl, hn1, hk1⟩
    have K1 := Lib.hid ((Kn.of_below B0.out).trans hk1)
    have N1 := Lib.hid hn1
    have Q1 := Lib.hid ((hk1.block _ (lt_of_block Q0.out) (.inr (not_n Q0.out (by decide) (by decide) (by decide)))).trans Q0.out)
    have X1 := Lib.hid ((hk1.block _ (lt_of_block X0.out) (.inr (not_n X0.out (by decide) (by decide) (by decide)))).trans X0.out)
    have Y1 := Lib.hid ((hk1.block _ (lt_of_block Y0.out) (.inr (not_n Y0.out (by decide) (by decide) (by decide)))).trans Y0.out)
    have D1 := Lib.hid (nl_kn HD.out K1.out)
    have k1 : w1.cell? ⟨w.heap.size + 1, 1, none⟩ = some (.int .i64 x.uid) := Pt.box_cell X1.out 1 rfl
    have RQ := Lib.hid (range_box Q1.out)
    have RX1 := Lib.hid (act_range X1.out)
    clear hn1 hk1 RX
    go_wp2_with (first | (refine wpList_load_mid rfl 29 _ rfl _ _ rfl _ _ RQ.out Tryz.underlying29 rfl (by kernel_rfl) ?_) | (refine wpList_load_mid rfl 35 _ rfl _ _ rfl _ _ RX1.out Tryz.underlying35 rfl (by kernel_rfl) ?_))
    refine (CR.out w1 K1.out).mono ?_
    rintro e w2 ⟨A2, c2, ds2, rfl, he2, hd2, hb2⟩
    have K2 := Lib.hid (K1.out.trans (Kn.of_below hb2))
    have N2 := Lib.hid (N1.out.below hb2)
    have Q2 := Lib.hid ((hb2.block _ (lt_of_block Q1.out)).trans Q1.out)
    have Y2 := Lib.hid ((hb2.block _ (lt_of_block Y1.out)).trans Y1.out)
    have D2 := Lib.hid hd2
    obtain ⟨n2, hn2⟩ : ∃ n2, ds2.length = n2 := ⟨_, rfl⟩
    have L2 := Lib.hid hn2
    rw [hn2]
    have E2 := Lib.hid (he2.trans HE.out.symm)
    rw [← HE.out] at N2
    clear he2 hd2 hb2 hn2 K1 N1 D1 Q1 X1 Y1 CA CR RQ RX1 k1 k0
    obtain ⟨w3, hw3⟩ : ∃ v, w2.setCells w.heap.size 0 ([.int .i64 has.c, .int .i64 has.m, .int .i64 has.p, .slice A2 n2 c2]) = v := ⟨_, rfl⟩
    have TH3 := Lib.hid (show w2.there w.heap.size 0 4 from Back.th Q2.out rfl)
    have ONE3 := Lib.hid (show ([.int .i64 has.c, .int .i64 has.m, .int .i64 has.p, .slice A2 n2 c2] : List Value).toArray.all (·.oneCell') = true by simp [Value.oneCell'])
    have HV3 := Lib.hid hw3
    have Q3 := Lib.hid (show w3.heap[w.heap.size]? = some (.cells ([.int .i64 has.c, .int .i64 has.m, .int .i64 has.p, .slice A2 n2 c2] : List Value).toArray 29 (0, 0)) by rw [← hw3]; exact Back.st Q2.out rfl)
    have Y3 := Lib.hid (show w3.heap[w.heap.size + 1 + 1]? = some (.cells ([.int .i64 0, .int .i64 0, .int .i64 0, .slice none 0 0] : List Value).toArray 29 (0, 0)) by rw [← hw3]; exact ((Back.far w.heap.size ([.int .i64 has.c, .int .i64 has.m, .int .i64 has.p, .slice A2 n2 c2]) 0 w2).2.2.2.2 _ (by omega)).trans Y2.out)
    have K3 := Lib.hid (show Kn B w w3 by rw [← hw3]; exact K2.out.set (Nat.le_refl _) _ _)
    have N3 := Lib.hid (show Nn B w3 g has l2 by rw [← hw3]; exact N2.out.set Q2.out (by decide) (by decide) (by decide) _ _)
    have D3 := Lib.hid (show Nl w3 0 A2 c2 ds2 by rw [← hw3]; exact nl_set D2.out Q2.out (by decide) (by decide) _ _)
    have R3 := Lib.hid (range_box Q3.out)
    obtain ⟨w4, hw4⟩ : ∃ v, w3.setCells (w.heap.size + 1 + 1) 0 ([.int .i64 has.c, .int .i64 has.m, .int .i64 has.p, .slice A2 n2 c2]) = v := ⟨_, rfl⟩
    have TH4 := Lib.hid (show w3.there (w.heap.size + 1 + 1) 0 4 from Back.th Y3.out rfl)
    have HV4 := Lib.hid hw4
    have ONE4 := Lib.hid ONE3.out
    have Y4 := Lib.hid (show w4.heap[w.heap.size + 1 + 1]? = some (.cells ([.int .i64 has.c, .int .i64 has.m, .int .i64 has.p, .slice A2 n2 c2] : List Value).toArray 29 (0, 0)) by rw [← hw4]; exact Back.st Y3.out rfl)
    have K4 := Lib.hid (show Kn B w w4 by rw [← hw4]; exact K3.out.set (by omega) _ _)
    have N4 := Lib.hid (show Nn B w4 g has l2 by rw [← hw4]; exact N3.out.set Y3.out (by decide) (by decide) (by decide) _ _)
    have D4 := Lib.hid (show Nl w4 0 A2 c2 ds2 by rw [← hw4]; exact nl_set D3.out Y3.out (by decide) (by decide) _ _)
    clear hw3 hw4 K3 N3 D3
    go_wp2_with (first | (refine wpList_store_at rfl 29 _ _ rfl _ _ _ rfl rfl TH3.out (by kernel_rfl) ONE3.out HV3.out ?_) | (refine wpList_load_mid rfl 29 _ rfl _ _ rfl _ _ R3.out Tryz.underlying29 rfl (by kernel_rfl) ?_) | (refine wpList_store_at rfl 29 _ _ rfl _ _ _ rfl rfl TH4.out (by kernel_rfl) ONE4.out HV4.out ?_))
    refine bodyPost_ret (v := .tuple #[.agg ([.int .i64 has.c, .int .i64 has.m, .int .i64 has.p, .slice A2 n2 c2] : List Value).toArray, .bool true]) (res_does _ _ _ ([.int .i64 has.c, .int .i64 has.m, .int .i64 has.p, .slice A2 n2 c2]) _ rfl rfl Y4.out rfl) rfl ?_
    exact ⟨A2, c2, ds2, by rw [L2.out], E2.out, D4.out, N4.out, K4.out⟩
  have hkk : (x.kind == 0) = false := by simpa using hk
  by_cases hk1 : x.kind = 1
  · have hkk1 : (x.kind == 1) = true := by simp [hk1]
    have HE := Lib.hid (show l2 = cut x.uid l by rw [← HL2.out]; unfold stepL; rw [if_neg hk, if_pos hk1])
    obtain ⟨F, hF⟩ : ∃ F, relC l x.uid = F := ⟨_, rfl⟩
    have CA := release_any x.uid w0 (H.out.below B0.out)
    rw [hF] at CA
    have CA := Lib.hid CA
    have CR := Lib.hid (fun (v : World) (hv : Kn B w v) => refrelease_any has x.uid v (nl_kn HD.out hv))
    rw [HLE.out, hF] at CR
    clear hk hk1 hF
    go_enter Tryz.func10, Tryz.ntmps10
    go_wp2_with (first | fail)
    clear hw0
    refine (CA.out).mono ?_
    rintro e w1 ⟨rfl, hn1, hk1⟩
    have K1 := Lib.hid ((Kn.of_below B0.out).trans hk1)
    have N1 := Lib.hid hn1
    have Q1 := Lib.hid ((hk1.block _ (lt_of_block Q0.out) (.inr (not_n Q0.out (by decide) (by decide) (by decide)))).trans Q0.out)
    have X1 := Lib.hid ((hk1.block _ (lt_of_block X0.out) (.inr (not_n X0.out (by decide) (by decide) (by decide)))).trans X0.out)
    have Y1 := Lib.hid ((hk1.block _ (lt_of_block Y0.out) (.inr (not_n Y0.out (by decide) (by decide) (by decide)))).trans Y0.out)
    have D1 := Lib.hid (nl_kn HD.out K1.out)
    have k1 : w1.cell? ⟨w.heap.size + 1, 1, none⟩ = some (.int .i64 x.uid) := Pt.box_cell X1.out 1 rfl
    have RQ := Lib.hid (range_box Q1.out)
    clear hn1 hk1 RX
    go_wp2_with (first | (refine wpList_load_mid rfl 29 _ rfl _ _ rfl _ _ RQ.out Tryz.underlying29 rfl (by kernel_rfl) ?_))
    refine (CR.out w1 K1.out).mono ?_
    rintro e w2 ⟨A2, c2, ds2, rfl, he2, hd2, hb2⟩
    have K2 := Lib.hid (K1.out.trans (Kn.of_below hb2))
    have N2 := Lib.hid (N1.out.below hb2)
    have Q2 := Lib.hid ((hb2.block _ (lt_of_block Q1.out)).trans Q1.out)
    have Y2 := Lib.hid ((hb2.block _ (lt_of_block Y1.out)).trans Y1.out)
    have D2 := Lib.hid hd2
    obtain ⟨n2, hn2⟩ : ∃ n2, ds2.length = n2 := ⟨_, rfl⟩
    have L2 := Lib.hid hn2
    rw [hn2]
    have E2 := Lib.hid (he2.trans HE.out.symm)
    rw [← HE.out] at N2
    clear he2 hd2 hb2 hn2 K1 N1 D1 Q1 X1 Y1 CA CR RQ k1 k0
    obtain ⟨w3, hw3⟩ : ∃ v, w2.setCells w.heap.size 0 ([.int .i64 has.c, .int .i64 has.m, .int .i64 has.p, .slice A2 n2 c2]) = v := ⟨_, rfl⟩
    have TH3 := Lib.hid (show w2.there w.heap.size 0 4 from Back.th Q2.out rfl)
    have ONE3 := Lib.hid (show ([.int .i64 has.c, .int .i64 has.m, .int .i64 has.p, .slice A2 n2 c2] : List Value).toArray.all (·.oneCell') = true by simp [Value.oneCell'])
    have HV3 := Lib.hid hw3
    have Q3 := Lib.hid (show w3.heap[w.heap.size]? = some (.cells ([.int .i64 has.c, .int .i64 has.m, .int .i64 has.p, .slice A2 n2 c2] : List Value).toArray 29 (0, 0)) by rw [← hw3]; exact Back.st Q2.out rfl)
    have Y3 := Lib.hid (show w3.heap[w.heap.size + 1 + 1]? = some (.cells ([.int .i64 0, .int .i64 0, .int .i64 0, .slice none 0 0] : List Value).toArray 29 (0, 0)) by rw [← hw3]; exact ((Back.far w.heap.size ([.int .i64 has.c, .int .i64 has.m, .int .i64 has.p, .slice A2 n2 c2]) 0 w2).2.2.2.2 _ (by omega)).trans Y2.out)
    have K3 := Lib.hid (show Kn B w w3 by rw [← hw3]; exact K2.out.set (Nat.le_refl _) _ _)
    have N3 := Lib.hid (show Nn B w3 g has l2 by rw [← hw3]; exact N2.out.set Q2.out (by decide) (by decide) (by decide) _ _)
    have D3 := Lib.hid (show Nl w3 0 A2 c2 ds2 by rw [← hw3]; exact nl_set D2.out Q2.out (by decide) (by decide) _ _)
    have R3 := Lib.hid (range_box Q3.out)
    obtain ⟨w4, hw4⟩ : ∃ v, w3.setCells (w.heap.size + 1 + 1) 0 ([.int .i64 has.c, .int .i64 has.m, .int .i64 has.p, .slice A2 n2 c2]) = v := ⟨_, rfl⟩
    have TH4 := Lib.hid (show w3.there (w.heap.size + 1 + 1) 0 4 from Back.th Y3.out rfl)
    have HV4 := Lib.hid hw4
    have ONE4 := Lib.hid ONE3.out
    have Y4 := Lib.hid (show w4.heap[w.heap.size + 1 + 1]? = some (.cells ([.int .i64 has.c, .int .i64 has.m, .int .i64 has.p, .slice A2 n2 c2] : List Value).toArray 29 (0, 0)) by rw [← hw4]; exact Back.st Y3.out rfl)
    have K4 := Lib.hid (show Kn B w w4 by rw [← hw4]; exact K3.out.set (by omega) _ _)
    have N4 := Lib.hid (show Nn B w4 g has l2 by rw [← hw4]; exact N3.out.set Y3.out (by decide) (by decide) (by decide) _ _)
    have D4 := Lib.hid (show Nl w4 0 A2 c2 ds2 by rw [← hw4]; exact nl_set D3.out Y3.out (by decide) (by decide) _ _)
    clear hw3 hw4 K3 N3 D3
    go_wp2_with (first | (refine wpList_store_at rfl 29 _ _ rfl _ _ _ rfl rfl TH3.out (by kernel_rfl) ONE3.out HV3.out ?_) | (refine wpList_load_mid rfl 29 _ rfl _ _ rfl _ _ R3.out Tryz.underlying29 rfl (by kernel_rfl) ?_) | (refine wpList_store_at rfl 29 _ _ rfl _ _ _ rfl rfl TH4.out (by kernel_rfl) ONE4.out HV4.out ?_))
    refine bodyPost_ret (v := .tuple #[.agg ([.int .i64 has.c, .int .i64 has.m, .int .i64 has.p, .slice A2 n2 c2] : List Value).toArray, .bool true]) (res_does _ _ _ ([.int .i64 has.c, .int .i64 has.m, .int .i64 has.p, .slice A2 n2 c2]) _ rfl rfl Y4.out rfl) rfl ?_
    exact ⟨A2, c2, ds2, by rw [L2.out], E2.out, D4.out, N4.out, K4.out⟩
  · have hkk1 : (x.kind == 1) = false := by simpa using hk1
    have HE := Lib.hid (show l2 = l by rw [← HL2.out]; unfold stepL; rw [if_neg hk, if_neg hk1])
    obtain ⟨F, hF⟩ : ∃ F, fitC has l (askS x.S) = F := ⟨_, rfl⟩
    have CA := Lib.hid (fun (v : World) (hv : Below w.heap.size w v) => fits_any x.S x.LA x.lc x.IA x.ic x.MA x.mc HL.out v (H.out.below hv) (HSL.out _ (Kn.of_below hv)) (HS.out v (Kn.of_below hv)))
    have CR := Lib.hid (fun (v : World) (hv : Below w.heap.size w v) => reffit_any has x.S x.LA x.lc x.IA x.ic x.MA x.mc HL.out v (HD.out.below hv) (HS.out v (Kn.of_below hv)))
    rw [HLE.out, hF] at CR
    rw [hF] at CA
    obtain ⟨n2, hn2⟩ : ∃ n2, ds.length = n2 := ⟨_, rfl⟩
    have L2 := Lib.hid hn2
    clear hk hk1 hF hn2
    go_enter Tryz.func10, Tryz.ntmps10
    go_upto_region 3 with fail
    clear hw0 k0 k1
    refine Vls.wp_region (by kernel_rfl) (Jx.JX (fun u => Below w0.heap.size w0 u) (fun u => Below w0.heap.size w0 u) 100 101 (fun _ _ => True) [(2, 1), (3, 0), (3, 2), (6, 5), (7, 4), (7, 6), (8, 3), (9, 7)] [.pointer (some ⟨g, 0, none⟩), .pointer (some ⟨w.heap.size + 1, 2, none⟩), .agg ([.string x.S.name, .slice x.LA x.S.labels.length x.lc, .slice x.IA x.S.init.length x.ic, .slice x.MA x.S.main.length x.mc, .int .i64 x.S.restart, .int .i64 x.S.grace, .int .i64 x.S.prio] : List Value).toArray, .int .i64 F, .agg ([.int .i64 has.c, .int .i64 has.m, .int .i64 has.p, .slice A ds.length c] : List Value).toArray, .pointer (some ⟨w.heap.size + 1, 2, none⟩), .agg ([.string x.S.name, .slice x.LA x.S.labels.length x.lc, .slice x.IA x.S.init.length x.ic, .slice x.MA x.S.main.length x.mc, .int .i64 x.S.restart, .int .i64 x.S.grace, .int .i64 x.S.prio] : List Value).toArray, .int .i64 F, .int .i64 F, .int .i64 F]) (by kernel_rfl) (fun _ => undef) (Jx.JX.start (P := fun u => Below w0.heap.size w0 u) (Below.drew (Below.refl _ _)) _) ?_ ?_
    · refine ⟨?_, ?_, ?_, ?_, ?_, ?_, ?_, ?_, ?_, ?_, trivial⟩
      · intro s_ a_ u V hs hd hfr hpo hJ
        have f0 : a_.tmps.getD 0 undef = .pointer (some ⟨g, 0, none⟩) := hfr 0 (by kernel_rfl)
        refine .inl ⟨rfl, ?_⟩
        unfold Oper.wp
        rw [show (execOp a_.eval _).run Tryz.prog u = .ok (.value (.pointer (some ⟨g, 0, none⟩))) u from by simp [go_sem, Act.eval, f0]]
        exact ⟨_, rfl, hJ.stay 0 (by decide) (by decide) rfl rfl⟩
      · intro s_ a_ u V hs hd hfr hpo hJ
        have f5 : a_.tmps.getD 5 undef = .pointer (some ⟨w.heap.size + 1, 0, none⟩) := hfr 5 (by kernel_rfl)
        refine .inl ⟨rfl, ?_⟩
        unfold Oper.wp
        rw [show (execOp a_.eval _).run Tryz.prog u = .ok (.value (.pointer (some ⟨w.heap.size + 1, 2, none⟩))) u from by simp [go_sem, Act.eval, f5]]
        exact ⟨_, rfl, hJ.stay 1 (by decide) (by decide) rfl rfl⟩
      · intro s_ a_ u V hs hd hfr hpo hJ
        have e1 : a_.tmps.getD 13 undef = .pointer (some ⟨w.heap.size + 1, 2, none⟩) := (hpo 1 13 (by kernel_rfl)).trans (hJ.get 1 (by decide) (by decide) (hd 1 (by kernel_rfl)) rfl)
        have hP := hJ.both
        refine .inl ⟨rfl, ?_⟩
        exact wp_load_mid 35 (.tmp 13) rfl (w.heap.size + 1) (2) e1 [.string x.S.name, .slice x.LA x.S.labels.length x.lc, .slice x.IA x.S.init.length x.ic, .slice x.MA x.S.main.length x.mc, .int .i64 x.S.restart, .int .i64 x.S.grace, .int .i64 x.S.prio] _ (act_range ((hP.block _ (lt_of_block X0.out)).trans X0.out)) Tryz.underlying35 rfl (by kernel_rfl) ⟨_, rfl, hJ.stay 2 (by decide) (by decide) (by show (s_ 1 && true) = true; rw [hd 1 (by kernel_rfl)]; rfl) rfl⟩
      · intro s_ a_ u V hs hd hfr hpo hJ
        have e0 : a_.tmps.getD 12 undef = .pointer (some ⟨g, 0, none⟩) := (hpo 0 12 (by kernel_rfl)).trans (hJ.get 0 (by decide) (by decide) (hd 0 (by kernel_rfl)) rfl)
        have e2 : a_.tmps.getD 14 undef = .agg ([.string x.S.name, .slice x.LA x.S.labels.length x.lc, .slice x.IA x.S.init.length x.ic, .slice x.MA x.S.main.length x.mc, .int .i64 x.S.restart, .int .i64 x.S.grace, .int .i64 x.S.prio] : List Value).toArray := (hpo 2 14 (by kernel_rfl)).trans (hJ.get 2 (by decide) (by decide) (hd 2 (by kernel_rfl)) rfl)
        have hP := hJ.both
        refine .inl ⟨rfl, ?_⟩
        unfold Oper.wp
        rw [show (execOp a_.eval _).run Tryz.prog u = .ok (.enter 24 #[.pointer (some ⟨g, 0, none⟩), .agg ([.string x.S.name, .slice x.LA x.S.labels.length x.lc, .slice x.IA x.S.init.length x.ic, .slice x.MA x.S.main.length x.mc, .int .i64 x.S.restart, .int .i64 x.S.grace, .int .i64 x.S.prio] : List Value).toArray]) u from by simp [go_sem, Act.eval, e0, e2]]
        refine Calls.mono (CA.out u (B0.out.trans (hP.mono B0.out.size))) ?_
        rintro e u2 ⟨rfl, hb⟩
        exact ⟨_, rfl, hJ.step 3 (by decide) (by decide) (by show (s_ 0 && (s_ 2 && true)) = true; rw [hd 0 (by kernel_rfl), hd 2 (by kernel_rfl)]; rfl) (fun _ hP => hP.trans (hb.mono hP.size)) (fun _ hP => hP.trans (hb.mono hP.size)) (fun _ _ hR => hR) rfl⟩
      · intro s_ a_ u V hs hd hfr hpo hJ
        have f4 : a_.tmps.getD 4 undef = .pointer (some ⟨w.heap.size, 0, none⟩) := hfr 4 (by kernel_rfl)
        have hP := hJ.both
        refine .inl ⟨rfl, ?_⟩
        exact wp_load_mid 29 (.tmp 4) rfl (w.heap.size) (0) f4 [.int .i64 has.c, .int .i64 has.m, .int .i64 has.p, .slice A ds.length c] _ (range_box ((hP.block _ (lt_of_block Q0.out)).trans Q0.out)) Tryz.underlying29 rfl (by kernel_rfl) ⟨_, rfl, hJ.stay 4 (by decide) (by decide) rfl rfl⟩
      · intro s_ a_ u V hs hd hfr hpo hJ
        have f5 : a_.tmps.getD 5 undef = .pointer (some ⟨w.heap.size + 1, 0, none⟩) := hfr 5 (by kernel_rfl)
        refine .inl ⟨rfl, ?_⟩
        unfold Oper.wp
        rw [show (execOp a_.eval _).run Tryz.prog u = .ok (.value (.pointer (some ⟨w.heap.size + 1, 2, none⟩))) u from by simp [go_sem, Act.eval, f5]]
        exact ⟨_, rfl, hJ.stay 5 (by decide) (by decide) rfl rfl⟩
      · intro s_ a_ u V hs hd hfr hpo hJ
        have e5 : a_.tmps.getD 17 undef = .pointer (some ⟨w.heap.size + 1, 2, none⟩) := (hpo 5 17 (by kernel_rfl)).trans (hJ.get 5 (by decide) (by decide) (hd 5 (by kernel_rfl)) rfl)
        have hP := hJ.both
        refine .inl ⟨rfl, ?_⟩
        exact wp_load_mid 35 (.tmp 17) rfl (w.heap.size + 1) (2) e5 [.string x.S.name, .slice x.LA x.S.labels.length x.lc, .slice x.IA x.S.init.length x.ic, .slice x.MA x.S.main.length x.mc, .int .i64 x.S.restart, .int .i64 x.S.grace, .int .i64 x.S.prio] _ (act_range ((hP.block _ (lt_of_block X0.out)).trans X0.out)) Tryz.underlying35 rfl (by kernel_rfl) ⟨_, rfl, hJ.stay 6 (by decide) (by decide) (by show (s_ 5 && true) = true; rw [hd 5 (by kernel_rfl)]; rfl) rfl⟩
      · intro s_ a_ u V hs hd hfr hpo hJ
        have e4 : a_.tmps.getD 16 undef = .agg ([.int .i64 has.c, .int .i64 has.m, .int .i64 has.p, .slice A ds.length c] : List Value).toArray := (hpo 4 16 (by kernel_rfl)).trans (hJ.get 4 (by decide) (by decide) (hd 4 (by kernel_rfl)) rfl)
        have e6 : a_.tmps.getD 18 undef = .agg ([.string x.S.name, .slice x.LA x.S.labels.length x.lc, .slice x.IA x.S.init.length x.ic, .slice x.MA x.S.main.length x.mc, .int .i64 x.S.restart, .int .i64 x.S.grace, .int .i64 x.S.prio] : List Value).toArray := (hpo 6 18 (by kernel_rfl)).trans (hJ.get 6 (by decide) (by decide) (hd 6 (by kernel_rfl)) rfl)
        have hP := hJ.both
        refine .inl ⟨rfl, ?_⟩
        unfold Oper.wp
        rw [show (execOp a_.eval _).run Tryz.prog u = .ok (.enter 35 #[.agg ([.int .i64 has.c, .int .i64 has.m, .int .i64 has.p, .slice A ds.length c] : List Value).toArray, .agg ([.string x.S.name, .slice x.LA x.S.labels.length x.lc, .slice x.IA x.S.init.length x.ic, .slice x.MA x.S.main.length x.mc, .int .i64 x.S.restart, .int .i64 x.S.grace, .int .i64 x.S.prio] : List Value).toArray]) u from by simp [go_sem, Act.eval, e4, e6]]
        refine Calls.mono (CR.out u (B0.out.trans (hP.mono B0.out.size))) ?_
        rintro e u2 ⟨rfl, hb⟩
        exact ⟨_, rfl, hJ.step 7 (by decide) (by decide) (by show (s_ 4 && (s_ 6 && true)) = true; rw [hd 4 (by kernel_rfl), hd 6 (by kernel_rfl)]; rfl) (fun _ hP => hP.trans (hb.mono hP.size)) (fun _ hP => hP.trans (hb.mono hP.size)) (fun _ _ hR => hR) rfl⟩
      · intro s_ a_ u V hs hd hfr hpo hJ
        have e3 : a_.tmps.getD 15 undef = .int .i64 F := (hpo 3 15 (by kernel_rfl)).trans (hJ.get 3 (by decide) (by decide) (hd 3 (by kernel_rfl)) rfl)
        refine .inl ⟨rfl, ?_⟩
        unfold Oper.wp
        rw [show (execOp a_.eval _).run Tryz.prog u = .ok (.value (.int .i64 F)) u from by simp [go_sem, Act.eval, e3]]
        exact ⟨_, rfl, hJ.stay 8 (by decide) (by decide) (by show (s_ 3 && true) = true; rw [hd 3 (by kernel_rfl)]; rfl) rfl⟩
      · intro s_ a_ u V hs hd hfr hpo hJ
        have e7 : a_.tmps.getD 19 undef = .int .i64 F := (hpo 7 19 (by kernel_rfl)).trans (hJ.get 7 (by decide) (by decide) (hd 7 (by kernel_rfl)) rfl)
        refine .inl ⟨rfl, ?_⟩
        unfold Oper.wp
        rw [show (execOp a_.eval _).run Tryz.prog u = .ok (.value (.int .i64 F)) u from by simp [go_sem, Act.eval, e7]]
        exact ⟨_, rfl, hJ.stay 9 (by decide) (by decide) (by show (s_ 7 && true) = true; rw [hd 7 (by kernel_rfl)]; rfl) rfl⟩
    · intro s_ V w2 hall hJ
      have e8 : V 8 = .int .i64 F := hJ.get 8 (by decide) (by decide) (hall 8 (by decide)) rfl
      have e9 : V 9 = .int .i64 F := hJ.get 9 (by decide) (by decide) (hall 9 (by decide)) rfl
      have hb2 := hJ.both
      have b2 := B0.out.trans (hb2.mono B0.out.size)
      have K2 := Lib.hid (Kn.of_below (B := B) b2)
      have N2 := Lib.hid (show Nn B w2 g has l2 by rw [HE.out]; exact H.out.below b2)
      have D2 := Lib.hid ((HD.out.below b2).base (Nat.zero_le B2))
      have Q2 := Lib.hid ((hb2.block _ (lt_of_block Q0.out)).trans Q0.out)
      have Y2 := Lib.hid ((hb2.block _ (lt_of_block Y0.out)).trans Y0.out)
      have E2 := Lib.hid (show pods ds = l2 by rw [HE.out]; exact HLE.out)
      clear hall hJ hb2 b2 CA CR X0
      simp only [Bxs.puts, Nat.reduceAdd, put_none, Re.put_lit, List.set_cons_succ, List.set_cons_zero]
      rw [e8, e9]
      clear e8 e9
      rw [L2.out] at Q2
      have R3 := Lib.hid (range_box Q2.out)
      obtain ⟨w4, hw4⟩ : ∃ v, w2.setCells (w.heap.size + 1 + 1) 0 ([.int .i64 has.c, .int .i64 has.m, .int .i64 has.p, .slice A n2 c]) = v := ⟨_, rfl⟩
      have TH4 := Lib.hid (show w2.there (w.heap.size + 1 + 1) 0 4 from Back.th Y2.out rfl)
      have HV4 := Lib.hid hw4
      have ONE4 := Lib.hid (show ([.int .i64 has.c, .int .i64 has.m, .int .i64 has.p, .slice A n2 c] : List Value).toArray.all (·.oneCell') = true by simp [Value.oneCell'])
      have Y4 := Lib.hid (show w4.heap[w.heap.size + 1 + 1]? = some (.cells ([.int .i64 has.c, .int .i64 has.m, .int .i64 has.p, .slice A n2 c] : List Value).toArray 29 (0, 0)) by rw [← hw4]; exact Back.st Y2.out rfl)
      have K4 := Lib.hid (show Kn B w w4 by rw [← hw4]; exact K2.out.set (by omega) _ _)
      have N4 := Lib.hid (show Nn B w4 g has l2 by rw [← hw4]; exact N2.out.set Y2.out (by decide) (by decide) (by decide) _ _)
      have D4 := Lib.hid (show Nl w4 0 A c ds by rw [← hw4]; exact nl_set D2.out Y2.out (by decide) (by decide) _ _)
      clear hw4
      go_wp2_with (first | (refine wpList_load_mid rfl 29 _ rfl _ _ rfl _ _ R3.out Tryz.underlying29 rfl (by kernel_rfl) ?_) | (refine wpList_store_at rfl 29 _ _ rfl _ _ _ rfl rfl TH4.out (by kernel_rfl) ONE4.out HV4.out ?_))
      refine bodyPost_ret (v := .tuple #[.agg ([.int .i64 has.c, .int .i64 has.m, .int .i64 has.p, .slice A n2 c] : List Value).toArray, .bool true]) (res_does _ _ _ ([.int .i64 has.c, .int .i64 has.m, .int .i64 has.p, .slice A n2 c]) _ rfl rfl Y4.out rfl) rfl ?_
      exact ⟨A, c, ds, by rw [L2.out], E2.out, D4.out, N4.out, K4.out⟩
end Nn
end Go.Proofs.YtbichomjpmmjmaaGreatDoor

/-
  maps.Keys and slices.Sorted of the program's node: Pods, the UIDs, rising. Conditions: the node is one (Nn), there are not too many pods.
-/
set_option linter.unusedVariables false
set_option linter.unusedSimpArgs false
namespace Go.Proofs.YtbichomjpmmjmaaGreatDoor
open Go.ChangeShapes Go.WideShapes Go.ChangeAt Go.RowKit Go.Lib Go.Maps Go.Shelf
open Go.WideElems (Fit rd rg)
namespace Nn
open Re Nd
open Pt (I64)
theorem keys_any (mb : Nat) (w : World) : Calls Tryz.prog 51 #[.map (some mb)] w fun e w' => e = .returned (.func (.func 81) #[] #[.pointer (some ⟨w.heap.size, 0, none⟩)]) ∧ w' = w.alloc (.cells #[.map (some mb)] 64) :=
  (callsIn_wide (n := 5)).1 (AnyZI.keys_in Tryz.keysL Fence.wide 5 trivial rfl (some mb) w)
theorem sorts (m : Nat) : AnyZI.SortsIn Tryz.prog Tryz.sortedL_ren Fence.wide m :=
  ⟨fun blk off cap ss W hH hblk hsz => callsIn_wide.2 (AnyM.slices_Sort_int Tryz.sortL blk off cap ss W hH hblk hsz),
   fun p cap W => callsIn_wide.2 (AnyM.slices_Sort_int_none Tryz.sortL p cap W)⟩
/-- whatever is laid up -/
def anyR (v : Value) : Option (DataW Unit × List MemPlace) := some (.nil, [])
theorem key_of {z : Int} (h : I64 z) : keyOf Tryz.prog 3 (.int .i64 z) = some (.int .i64 z) := keyOf_int_mk Tryz.underlying3 (by unfold I64 at h; simp [Lit.wf, IntKind.min, IntKind.max, IntKind.signed, IntKind.bits]; omega)
theorem owns_of {w : World} {mb : Nat} {l : List (Int × Value)} (h : Mp.MapAt w mb l) (hl : ∀ p ∈ l, I64 p.1) (hn : l.length ≤ 1000) : ∃ D : DataW Unit, w.ownsMap Tryz.prog 3 anyR mb 1000 D ∧ (intKeys D).Perm (l.map Prod.fst) ∧ Maps.size D ≤ 1000 := by
  obtain ⟨es, clock, hb, hst, hp⟩ := h
  have hsz : es.size = l.length := by have := hp.length_eq; simpa using this
  have hrd : ∀ x ∈ es.toList, ∃ p ∈ l, x.key = .int .i64 p.1 ∧ rd Tryz.prog 3 anyR x = some (.int .i64 p.1, .nil) := fun x hx => by
    have := hp.subset (List.mem_map.2 ⟨x, hx, rfl⟩)
    obtain ⟨p, hp, hpe⟩ := List.mem_map.1 this
    have hk : x.key = .int .i64 p.1 := (congrArg Prod.fst hpe).symm
    refine ⟨p, hp, hk, ?_⟩
    unfold rd
    rw [hk, key_of (hl p hp)]
    rfl
  have hmx : (1000 : Nat) ≤ maxLen := by unfold maxLen; omega
  have hpm : ((es.toList.map (rg Tryz.prog 3 anyR)).foldr DataW.insert []).Perm (es.toList.map (rg Tryz.prog 3 anyR)) := sorted_perm _
  refine ⟨_, ⟨es, clock, hb, ⟨by omega, hst, fun x hx => by obtain ⟨p, _, _, h2⟩ := hrd x hx; exact ⟨_, h2⟩⟩, by omega, rfl⟩, ?_, ?_⟩
  · show (((es.toList.map (rg Tryz.prog 3 anyR)).foldr DataW.insert []).map fun p => _root_.Go.intOf p.1).Perm _
    refine (hpm.map _).trans ?_
    rw [List.map_map]
    have e1 : es.toList.map ((fun p : Lit × DataW Unit => _root_.Go.intOf p.1) ∘ rg Tryz.prog 3 anyR) = (es.toList.map Mp.ev).map (fun q => Mp.ki q.1) := by
      rw [List.map_map]
      apply List.map_congr_left
      intro x hx
      obtain ⟨p, _, h1, h2⟩ := hrd x hx
      simp only [Function.comp, rg, h2, Mp.ev, h1, Mp.ki, Option.getD_some]
      rfl
    have e2 : (l.map Mp.kv).map (fun q => Mp.ki q.1) = l.map Prod.fst := by rw [List.map_map]; rfl
    rw [e1, ← e2]
    exact hp.map _
  · show ((es.toList.map (rg Tryz.prog 3 anyR)).foldr DataW.insert []).length ≤ 1000
    rw [hpm.length_eq, List.length_map, Array.length_toList, hsz]
    exact hn
set_option maxHeartbeats 1000000 in
theorem sorted_any {w : World} {mb g : Nat} {l : List (Int × Value)} (h : Mp.MapAt w mb l) (hl : ∀ p ∈ l, I64 p.1) (hn : l.length ≤ 1000) (hs : (l.map Prod.fst).Pairwise (· < ·)) (hg : w.heap[g]? = some (.cells #[.map (some mb)] 64 (0, 0))) :
    Calls Tryz.prog 50 #[.func (.func 81) #[] #[.pointer (some ⟨g, 0, none⟩)]] w fun e w' => ∃ A c, e = .returned (.slice A l.length c) ∧ w'.ownsRow w.heap.size 3 1 (.slice A l.length c) l.length ((l.map Prod.fst).map encZ) ∧ Below w.heap.size w w' := by
  obtain ⟨D0, hown, hperm, hmax⟩ := owns_of h hl hn
  have hmx : (1000 : Nat) ≤ maxLen := by unfold maxLen; omega
  have hseq : SeqGives Fence.wide 2 Tryz.prog 81 #[.pointer (some ⟨g, 0, none⟩)] encZ (fun ss => ss.Perm (intKeys D0)) (Maps.size D0) w :=
    AnyZI.keys_gives (ρ := Tryz.keysL_ren) { Tryz.keysL with } Fence.wide _ trivial rfl (by omega) g mb 1000 D0 _ (Pt.lt_of_block hg) (Pt.box_cell hg 0 rfl) hown
  have cS := AnyZI.sorted_in Tryz.sortedL Fence.wide 5 trivial trivial trivial trivial rfl (by omega) (sorts _) (enters_of Tryz.func80 (by kernel_rfl) rfl) 81 #[.pointer (some ⟨g, 0, none⟩)] trivial (enters_of Tryz.func81 (by kernel_rfl) rfl) _ _ (Nat.le_trans hmax hmx) (by omega) _ hseq
  change CallsIn _ _ Tryz.prog 50 _ _ _ at cS
  refine ((callsIn_wide (n := 5)).1 cS).mono ?_
  rintro e w' ⟨v, ss, rfl, hS, hrow, hnil, hb⟩
  have hlen : ss.length = l.length := by rw [(hS.trans hperm).length_eq, List.length_map]
  have hsort : ss.mergeSort (fun x y => decide (x ≤ y)) = l.map Prod.fst := by
    refine List.Perm.eq_of_pairwise (le := fun a b => a ≤ b) (fun a b _ _ h1 h2 => by omega) ?_ (hs.imp (fun {a b} h => by omega)) ((List.mergeSort_perm _ _).trans (hS.trans hperm))
    have := List.pairwise_mergeSort (le := fun x y : Int => decide (x ≤ y)) (fun a b c h1 h2 => by simp at *; omega) (fun a b => by simp; omega) ss
    exact this.imp (fun {a b} h => by simpa using h)
  rw [hsort, hlen] at hrow
  obtain ⟨A, c, rfl⟩ := Pt.own_form hrow
  exact ⟨A, c, rfl, hrow, hb⟩
theorem kvs_keys (l : Pods) : (kvs l).map Prod.fst = l.map Pod.uid := by rw [kvs, List.map_map]; rfl
set_option maxRecDepth 100000 in
set_option maxHeartbeats 1000000 in
theorem pods_any {B : Nat} {g : Nat} {has : Rx} {l : Pods} (w : World) (h : Nn B w g has l) (hn : l.length ≤ 1000) : Calls Tryz.prog 26 #[.pointer (some ⟨g, 0, none⟩)] w fun e w' => ∃ A c, e = .returned (.slice A l.length c) ∧ w'.ownsRow w.heap.size 3 1 (.slice A l.length c) l.length ((l.map Pod.uid).map (Value.int .i64)) ∧ Below w.heap.size w w' := by
  obtain ⟨m, p, T, h⟩ := h
  have c6 := h.asked
  obtain ⟨w1, hw1⟩ : ∃ v, w.alloc (.cells #[.map (some m)] 64) = v := ⟨_, rfl⟩
  have hb1 : Below w.heap.size w w1 := by rw [← hw1]; exact (Below.refl _ _).alloc (Nat.le_refl _) _
  have B1 := Lib.hid hb1
  have h1 := h.below hb1
  have hl : ∀ q ∈ kvs l, I64 q.1 := fun q hq => by
    obtain ⟨x, hx, rfl⟩ := List.mem_map.1 hq
    have := (h.ok.one x hx).1
    exact ⟨by show (-9223372036854775808 : Int) ≤ x.uid; omega, this.2⟩
  have cS := sorted_any (g := w.heap.size) h1.map hl (by rw [kvs, List.length_map]; exact hn) (by rw [kvs_keys]; exact List.pairwise_map.2 h.ok.up) (by rw [← hw1]; exact heap_alloc_new w _)
  rw [kvs_keys, show (kvs l).length = l.length by rw [kvs, List.length_map]] at cS
  have CS := Lib.hid cS
  have CK0 := keys_any m w
  rw [hw1] at CK0
  have CK := Lib.hid CK0
  obtain ⟨n, hln⟩ : ∃ n, l.length = n := ⟨_, rfl⟩
  rw [hln] at CS ⊢
  clear cS hl h1 hb1 h hn hln CK0 hw1
  go_enter Tryz.func26, Tryz.ntmps26
  go_wp2_with (first
    | (go_at_call 51; refine CK.out.mono ?_; rintro e w2 ⟨rfl, hw2⟩; obtain rfl := hw2.symm; clear hw2)
    | (go_at_call 50; refine CS.out.mono ?_; rintro e w3 ⟨A, c, rfl, hrow, hb3⟩; have HR := Lib.hid hrow; have HB := Lib.hid (B1.out.trans (hb3.mono B1.out.size)); have HS1 := Lib.hid B1.out.size; clear hrow hb3))
  go_ret
  exact ⟨A, c, rfl, Pt.owns_base HR.out HS1.out, HB.out⟩
end Nn
end Go.Proofs.YtbichomjpmmjmaaGreatDoor

/-
  The ports of an owner, rising: a table ranged over, what is the owner's gathered. What was there is left as it was. Condition: the table is one (Tb).
-/
set_option linter.unusedVariables false
set_option linter.unusedSimpArgs false
namespace Go.Proofs.YtbichomjpmmjmaaGreatDoor
open Go.ChangeShapes Go.WideShapes Go.ChangeAt Go.RowKit Go.Lib
open Lists
namespace Pt
attribute [local go_sem] Oper.semAt_some
end Pt
end Go.Proofs.YtbichomjpmmjmaaGreatDoor

/-
  The document's answers for tables of ports: who owns a port, ports taken, ports freed, on lists. All that was there is left as it was. Conditions: the list lies in a row, the ports in memory, there are not too many.
-/
set_option linter.unusedVariables false
set_option linter.unusedSimpArgs false
namespace Go.Proofs.YtbichomjpmmjmaaGreatDoor
open Go.ChangeShapes Go.WideShapes Go.ChangeAt Go.RowKit Go.Lib
open Lists
namespace Pt
end Pt
end Go.Proofs.YtbichomjpmmjmaaGreatDoor

/-
  A list of acts of tables in memory; the document's Take of ports out of range, and of any. No condition.
-/
set_option linter.unusedVariables false
set_option linter.unusedSimpArgs false
namespace Go.Proofs.YtbichomjpmmjmaaGreatDoor
open Go.ChangeShapes Go.WideShapes Go.ChangeAt Go.RowKit Go.Lib
open Lists
namespace Pt
end Pt
end Go.Proofs.YtbichomjpmmjmaaGreatDoor

/-
  The law's helpers: two lists of the same numbers, a list spoilt, and whether all ports are told, as far as one likes. Conditions: the lists lie in rows, there are not too many.
-/
set_option linter.unusedVariables false
set_option linter.unusedSimpArgs false
namespace Go.Proofs.YtbichomjpmmjmaaGreatDoor
open Go.ChangeShapes Go.WideShapes Go.ChangeAt Go.RowKit Go.Lib
open Lists
namespace Pt
attribute [local go_sem] Oper.semAt_some
set_option maxRecDepth 100000 in
theorem sameInts_any {B1 B2 : Nat} {A1 A2 : Option Addr} {c1 c2 : Nat} (l : List Int) (n : Nat) (hn : l.length = n) (hl : n ≤ 100000) (w : World) (h1 : w.ownsRow B1 3 1 (.slice A1 n c1) n (l.map (Value.int .i64))) (h2 : w.ownsRow B2 3 1 (.slice A2 n c2) n (l.map (Value.int .i64))) :
    Calls Tryz.prog 27 #[.slice A1 n c1, .slice A2 n c2] w fun e w' => e = .returned (.bool true) ∧ Below w.heap.size w w' := by
  have H1 := Lib.hid h1
  have H2 := Lib.hid h2
  have HN := Lib.hid hn
  have hn' : (n : Int) ≤ 100000 := by omega
  clear h1 h2 hn
  go_enter Tryz.func27, Tryz.ntmps27
  go_wp2
  go_loopw [5, 6] (fun s i wr => ∃ k : Nat, k ≤ n ∧ s = .bool true ∧ i = .int .i64 k ∧ Hid (Below w.heap.size w wr)) (fun _ i _ => n - (RowKit.intOf i).toNat)
  case atStart => exact ⟨0, Nat.zero_le _, by simp, rfl, Below.refl _ _⟩
  case round =>
    obtain ⟨k, hk, rfl, rfl, HW⟩ := hrel
    by_cases hkn : k < n
    · obtain ⟨x, hx⟩ : ∃ x, l[k]? = some x := ⟨_, List.getElem?_eq_getElem (by have := HN.out; omega)⟩
      obtain ⟨r1, rfl, hr1, k1⟩ := ints_at (owns_below H1.out HW.out) hx HN.out
      obtain ⟨r2, rfl, hr2, k2⟩ := ints_at (owns_below H2.out HW.out) hx HN.out
      have hkn' : (k : Int) < (n : Int) := by omega
      clear hx
      go_wp2_with fail
      go_quiet (fail)
      go_wp2
      go_roundw
      case rel => exact ⟨k + 1, by omega, by simp, by simp, HW.out.trans ((Kit.below_drewN _ _ _).mono HW.out.size)⟩
      case measure => simp [RowKit.intOf]; omega
    · have hkn' : ¬ (k : Int) < (n : Int) := by omega
      go_wp2
      go_ret
      exact ⟨rfl, HW.out⟩
end Pt
end Go.Proofs.YtbichomjpmmjmaaGreatDoor

/-
  The program's node and the document's tell the same pods. Conditions: both hold the same pods, not too many.
-/
set_option linter.unusedVariables false
set_option linter.unusedSimpArgs false
namespace Go.Proofs.YtbichomjpmmjmaaGreatDoor
open Go.ChangeShapes Go.WideShapes Go.ChangeAt Go.RowKit Go.Lib
open NumMath
namespace Nn
open Re Nd
set_option maxRecDepth 100000 in
set_option maxHeartbeats 4000000 in
theorem same_any {B : Nat} {g : Nat} {has : Rx} {l : Pods} {B2 : Nat} {A : Option Addr} {c : Nat} (ds : List Pd) (w : World) (h : Nn B w g has l) (hD : Nl w B2 A c ds) (hl : pods ds = l) (hfew : ds.length ≤ 1000) :
    Calls Tryz.prog 18 #[.pointer (some ⟨g, 0, none⟩), .agg ([.int .i64 has.c, .int .i64 has.m, .int .i64 has.p, .slice A ds.length c] : List Value).toArray] w fun e w' => e = .returned (.bool true) ∧ Below w.heap.size w w' := by
  have H := Lib.hid h
  have HD := Lib.hid hD
  obtain ⟨us, hus⟩ : ∃ us, ds.map (·.x.uid) = us := ⟨_, rfl⟩
  have HUS := Lib.hid (show l.map Pod.uid = us by rw [← hus, ← hl, List.map_map]; rfl)
  have HUL := Lib.hid (show us.length = ds.length by rw [← hus, List.length_map])
  have HLL := Lib.hid (show l.length = ds.length by rw [← hl, List.length_map])
  have HUK := Lib.hid (show ∀ (k : Nat) (d : Pd), ds[k]? = some d → us[k]? = some d.x.uid from fun k d hd => by rw [← hus, List.getElem?_map, hd]; rfl)
  obtain ⟨n, hln⟩ : ∃ n, ds.length = n := ⟨_, rfl⟩
  have HLN := Lib.hid hln
  obtain ⟨i0, hi, hz0, hz1, hz2⟩ := info_parts Pt.info_in
  have hn' : (n : Int) ≤ 1000 := by omega
  have HN1 := Lib.hid (show n ≤ 1000 by omega)
  rw [hln]
  clear h hD hl hus hln hfew
  go_enter Tryz.func18, Tryz.ntmps18
  go_wp2_with fail
  obtain ⟨w3, hw3⟩ : ∃ w3, w.alloc (.cells ([.int .i64 has.c, .int .i64 has.m, .int .i64 has.p, .slice A n c] : List Value).toArray 29) = w3 := ⟨_, rfl⟩
  have HB3 := Lib.hid (show Below w.heap.size w w3 by rw [← hw3]; exact (Below.refl _ _).alloc (Nat.le_refl _) _)
  have HX3 := Lib.hid (show w3.heap[w.heap.size]? = some (.cells ([.int .i64 has.c, .int .i64 has.m, .int .i64 has.p, .slice A n c] : List Value).toArray 29 (0, 0)) by rw [← hw3]; exact heap_alloc_new w _)
  rw [show w.alloc _ = w3 from hw3]
  clear hw3
  go_loopw [5, 6] (fun v i wr => ∃ k : Nat, k ≤ n ∧ i = .int .i64 k ∧ Hid (Below w3.heap.size w3 wr) ∧ Hid (wr.ownsRow w3.heap.size 3 1 v k ((us.take k).map (Value.int .i64)))) (fun _ i _ => n - (RowKit.intOf i).toNat)
  case atStart => exact ⟨0, Nat.zero_le _, rfl, Below.refl _ _, World.ownsRow_nil _ _ _ _⟩
  case round =>
    obtain ⟨k, hk, rfl, HW, HO⟩ := hrel
    have b3 : wr.cell? ⟨w.heap.size, 3, none⟩ = some (.slice A n c) := Pt.box_cell ((HW.out.block w.heap.size (lt_of_block HX3.out)).trans HX3.out) 3 rfl
    have HWW := Lib.hid (HB3.out.trans (HW.out.mono HB3.out.size))
    by_cases hkn : k < n
    · have hka : (k : Int) < (n : Int) := by omega
      obtain ⟨y, hy⟩ : ∃ y, ds[k]? = some y := ⟨_, List.getElem?_eq_getElem (by have := HLN.out; omega)⟩
      obtain ⟨r, rfl, hr, k0, _, _, _, _⟩ := row_at (HD.out.below HWW.out).row hy
      have HU := Lib.hid (HUK.out k y hy)
      obtain ⟨A', c', rfl⟩ := Pt.own_form HO.out
      obtain ⟨z, hz⟩ : ∃ z, y.x.uid = z := ⟨_, rfl⟩
      rw [hz] at k0 HU
      clear hy hz
      go_wp2_with (at_builtin; refine wpList_append_own _ rfl _ _ 49 rfl w3.heap.size 3 i0 (.int .i64 0) 1 8 Tryz.underlying49 hi hz0 hz1 hz2 rfl (by decide) _ _ _ rfl (HO.out.alloc _) ⟨wr.heap.size, 0, none⟩ 1 1 [.int .i64 z] rfl rfl (cell_one_new _ _ _) (by simp [Value.oneCell']) (by unfold maxLen; omega) (by omega) (by have := HW.out.size; simp; omega) ?_)
      intro v' w7 hown' hgrow _
      have HW7 := Lib.hid ((HW.out.alloc HW.out.size _).grown hgrow (by have := HW.out.size; simp; omega) (fun b hb => (HO.out.lt b hb).1))
      have HO7 := Lib.hid (show w7.ownsRow w3.heap.size 3 1 v' (k + 1) ((us.take (k + 1)).map (Value.int .i64)) by
        have e : us.take (k + 1) = us.take k ++ [z] := by
          rw [List.take_add_one, HU.out]; rfl
        rw [e, List.map_append, List.map_take]; exact hown')
      clear hown' hgrow k0 b3
      go_wp2
      go_roundw
      case rel => exact ⟨k + 1, by omega, by go_num, HW7.out, HO7.out⟩
      case measure => simp [RowKit.intOf]; omega
    · have hka : ¬ (k : Int) < (n : Int) := by omega
      have HK := Lib.hid (show k = n by omega)
      obtain ⟨A', c', rfl⟩ := Pt.own_form HO.out
      have cP := pods_any wr (H.out.below HWW.out) (by have := HLL.out; have := HN1.out; have := HLN.out; omega)
      rw [HUS.out, HLL.out, HLN.out] at cP
      have CP := Lib.hid cP
      have HROW := Lib.hid (show wr.ownsRow w3.heap.size 3 1 (.slice A' n c') n (us.map (Value.int .i64)) by
        have := HO.out
        rw [HK.out, List.take_of_length_le (by have := HUL.out; have := HLN.out; omega)] at this
        exact this)
      rw [HK.out]
      clear cP HO hka hkn hk
      go_wp2_with (first
        | (go_at_call 26; refine CP.out.mono ?_; rintro e w4 ⟨A1, c1, rfl, hrow, hb4⟩; have H1 := Lib.hid hrow; have B4 := Lib.hid (HWW.out.trans (hb4.mono HWW.out.size)); have HR4 := Lib.hid (Pt.owns_below HROW.out hb4); clear hrow hb4)
        | (go_at_call 27; refine (Pt.sameInts_any us n (by have := HUL.out; have := HLN.out; omega) (by have := HN1.out; omega) w4 H1.out HR4.out).mono ?_; rintro e w5 ⟨rfl, hb5⟩; have B5 := Lib.hid (B4.out.trans (hb5.mono B4.out.size)); clear hb5))
      go_ret
      exact ⟨rfl, B5.out⟩
end Nn
end Go.Proofs.YtbichomjpmmjmaaGreatDoor

/-
  The contract of text.Same. Condition: the texts have fewer than 4294967281 bytes; Text.Laid.
-/
namespace Go.Proofs.YtbichomjpmmjmaaGreatDoor
open Go.ChangeShapes Go.WideShapes Go.ChangeAt Go.RowKit
open TextPure
namespace Text
end Text
end Go.Proofs.YtbichomjpmmjmaaGreatDoor

/-
  The contract of the laws' own helper SameSpec: are two specs one? No condition.
-/
namespace Go.Proofs.YtbichomjpmmjmaaGreatDoor
open Go.ChangeShapes Go.WideShapes Go.ChangeAt Go.RowKit Go.Lib
open Sd Lists
namespace Book
end Book
end Go.Proofs.YtbichomjpmmjmaaGreatDoor

/-
  The contracts of slices.Equal on labels, slices.EqualFunc on containers, spec.Same: whether labels, containers, specs are the same. All that was there is left as it was. No condition.
-/
namespace Go.Proofs.YtbichomjpmmjmaaGreatDoor
open Go.ChangeShapes Go.WideShapes Go.ChangeAt Go.RowKit Go.Lib
open Sd Lists Book
namespace SpecOwn
end SpecOwn
end Go.Proofs.YtbichomjpmmjmaaGreatDoor

/-
  The contracts of spec.frozen, spec.Frozen, spec.Ports: what an update may not change; the ports of the main containers. All that was there is left as it was. Conditions: as SpecStep; specs are light (Book.Light).
-/
namespace Go.Proofs.YtbichomjpmmjmaaGreatDoor
open Go.ChangeShapes Go.WideShapes Go.ChangeAt Go.RowKit Go.Lib
open Sd Lists Book
namespace SpecOwn
end SpecOwn
end Go.Proofs.YtbichomjpmmjmaaGreatDoor

/-
  The contract of provostlaw06.works: the chapter's example holds. All that was there is left as it was. Condition: as SpecStep.
-/
namespace Go.Proofs.YtbichomjpmmjmaaGreatDoor
open Go.ChangeShapes Go.WideShapes Go.ChangeAt Go.RowKit Go.Lib
open Sd Lists SpecRef
namespace SpecOwn
theorem i64_0 : I64 0 := by unfold I64; decide
end SpecOwn
end Go.Proofs.YtbichomjpmmjmaaGreatDoor
