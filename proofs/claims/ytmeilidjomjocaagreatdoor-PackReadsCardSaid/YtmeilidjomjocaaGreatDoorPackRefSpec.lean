/-
  Boxes of any size: their cells, stores into them, what is kept. No condition. And what follows of it, part by part, each with its conditions.
-/
import Derived.Test.YtmeilidjomjocaaGreatDoorPackAll
import Derived.Test.YtmeilidjomjocaaGreatDoorPackRefRead
import Derived.Test.YtmeilidjomjocaaGreatDoorSpecCheck
import Derived.BigRegion
/- Boxes of any size: their cells, stores into them, what is kept. No condition. -/
set_option linter.unusedVariables false
set_option linter.unusedSimpArgs false
namespace Go.Proofs.YtmeilidjomjocaaGreatDoor
open Go.ChangeShapes Go.WideShapes Go.ChangeAt Go.RowKit Go.Lib
open LebMath WirePure Sd Wire SpecOwn
namespace Pk

/-! ## boxes of any size -/
theorem box_cell {w : World} {g : Nat} {A : Array Value} {t : TypeId} (h : w.heap[g]? = some (.cells A t (0, 0))) (k : Nat) {v : Value} (hv : A[k]? = some v) : w.cell? ⟨g, k, none⟩ = some v := by
  simp [World.cell?, h, hv]
theorem box_free {w : World} {g : Nat} {A : Array Value} {t : TypeId} (h : w.heap[g]? = some (.cells A t (0, 0))) (k : Nat) : w.frozen? ⟨g, k, none⟩ = false := by
  simp [World.frozen?, h]
theorem box_set {w : World} {g : Nat} {A : Array Value} {t : TypeId} (h : w.heap[g]? = some (.cells A t (0, 0))) (k : Nat) (v : Value) {B : Array Value} (hB : A.setIfInBounds k v = B) : (w.setCell ⟨g, k, none⟩ v).heap[g]? = some (.cells B t (0, 0)) := by
  rw [← hB]; exact heap_setCell_same w g k _ _ v h
theorem aside_only {g : Nat} {a w v : World} (hk : Wire.Aside g a w) (h : Only g w v) : Wire.Aside g a v :=
  ⟨h.os.trans hk.os, h.tape.trans hk.tape, h.output.trans hk.output, Nat.le_trans hk.size h.size, fun i hi => (h.block i hi.2).trans (hk.block i hi)⟩
theorem below_aside {g : Nat} {w wr v : World} (hB : Below w.heap.size w wr) (hk : Wire.Aside g wr v) (hg : w.heap.size ≤ g) : Below w.heap.size w v :=
  { os := hk.os.trans hB.os, tape := hk.tape.trans hB.tape, output := hk.output.trans hB.output, size := Nat.le_trans hB.size hk.size, block := fun i hi => (hk.block i ⟨Nat.lt_of_lt_of_le hi hB.size, by omega⟩).trans (hB.block i hi) }
theorem own_cap {w : World} {base : Nat} {t : TypeId} {size n cap : Nat} {A : Option Addr} {xs : List Value} (h : w.ownsRow base t size (.slice A n cap) n xs) : n ≤ cap := by
  rcases h.2 with ⟨e1, e2⟩ | ⟨gg, cap', cur, e1, _, _, e4, _⟩
  · injection e1 with _ e5 e6; omega
  · injection e1 with _ e5 e6; omega
theorem heap_alloc_other (w : World) (o : Obj) (k : Nat) (h : k < w.heap.size) : (w.alloc o).heap[k]? = w.heap[k]? := ((Below.refl w.heap.size w).alloc (Nat.le_refl _) o).block k h
theorem rd_zero {α : Type} {C : Codec α} {c : Int} {l : List UInt8} {x : α} {c' : Int} {l' : List UInt8} (h : C.rd c l = (x, c', l')) (h0 : c' = 0) : c = 0 := by
  by_cases hc : c = 0
  · exact hc
  · have := C.keeps c l hc
    rw [h] at this
    injection this with this _
    rw [← this]; exact h0
theorem info_intU : (Tryz.prog.info? 3).map (fun i => (i.zero, i.size, i.bytes)) = some (some (.int .i64 0), 1, 8) := by kernel_rfl

end Pk
end Go.Proofs.YtmeilidjomjocaaGreatDoor

/- The document's reading of containers (provostref07.takes) by contract. Condition: the text has at most 2^46 bytes. -/
set_option linter.unusedVariables false
set_option linter.unusedSimpArgs false
namespace Go.Proofs.YtmeilidjomjocaaGreatDoor
open Go.ChangeShapes Go.WideShapes Go.ChangeAt Go.RowKit Go.Lib
open LebMath WirePure Sd Wire SpecOwn
namespace Pk

set_option maxRecDepth 100000 in
set_option maxHeartbeats 8000000 in
theorem takes_ref (S : ByteArray) (hS : S.size ≤ 70368744177664) (k : Nat) (hk : k < 18446744073709551616) (hk1 : k ≤ 1000) (m : Int) (hm : m = k) (A : Nat) (c : Int) (l : List UInt8) (hA : At S A l) (xs : List Ctr) (c' : Int) (l' : List UInt8) (hq : (listC k hk ctrC).rd c l = (xs, c', l')) (w : World) :
    Calls Tryz.prog 43 #[.agg #[.string S, .int .i64 A, .int .i64 c], .int .i64 m] w fun e w' => ∃ (A' : Nat) (P : Option Addr) (m cap : Nat), e = .returned (.tuple #[.agg #[.string S, .int .i64 A', .int .i64 c'], .slice P m cap]) ∧ At S A' l' ∧ m ≤ cap ∧ (c' = 0 → m = xs.length ∧ CtrsUp w.heap.size w' P xs) ∧ Below w.heap.size w w' := by
  subst hm
  have HA := Lib.hid hA
  have HS := Lib.hid hS
  obtain ⟨n, hn⟩ : ∃ n, WirePure.numV k c l = n := ⟨_, rfl⟩
  obtain ⟨c1, hc1⟩ : ∃ d, numE k c l = d := ⟨_, rfl⟩
  obtain ⟨l1, hl1⟩ : ∃ d, numL k c l = d := ⟨_, rfl⟩
  have q0 : (intC k hk).rd c l = ((n : Int), c1, l1) := by rw [← hn, ← hc1, ← hl1]; rfl
  have hnk : n ≤ k := by rw [← hn]; exact numV_le k c l
  have hq' : ((if (repS ctrC.rd c1 l1 n).1 = 0 then repX ctrC.rd c1 l1 n else []), repS ctrC.rd c1 l1 n) = (xs, c', l') := by rw [← hn, ← hc1, ← hl1]; exact hq
  injection hq' with hq1 hq2
  have HQ1 := Lib.hid hq1
  have HQ2 := Lib.hid hq2
  have Q0 := Lib.hid q0
  obtain ⟨i0, hi0, hz0, hz1, hz2⟩ := info_parts info_ctrU
  obtain ⟨j0, hj0, hy0, hy1, hy2⟩ := info_parts info_intU
  clear hA hq hq1 hq2 q0 hn hc1 hl1 hS
  go_enter Tryz.func43, Tryz.ntmps43
  go_wp2_with fail
  obtain ⟨w0, hw0⟩ : ∃ v, ((w.alloc (.cells #[.string S, .int .i64 A, .int .i64 c] 31)).alloc (.cells #[.string ⟨#[]⟩, .int .i64 0, .int .i64 0] 31)) = v := ⟨_, rfl⟩
  have HBX := Lib.hid (two_boxes w _ _ w0 hw0)
  rw [hw0]
  obtain ⟨b, hb⟩ : ∃ b, w.heap.size = b := ⟨_, rfl⟩
  have HBB := Lib.hid hb
  rw [hb] at HBX ⊢
  clear hw0 hb
  have B := Lib.hid (show Below w.heap.size w w0 by rw [HBB.out]; exact HBX.out.1)
  have R := Lib.hid HBX.out.2.1
  have P := Lib.hid HBX.out.2.2
  clear HBX
  refine (num_ref S HS.out k hk (k : Int) rfl (by omega) A c l HA.out n c1 l1 Q0.out _).mono ?_
  rintro e w1 ⟨A1, rfl, h1, hb1⟩
  have H1 := Lib.hid h1
  clear h1
  have B_z := Lib.hid (B.out.trans (hb1.mono B.out.size))
  have R_z := Lib.hid ((hb1.block b (lt_of_block R.out)).trans R.out)
  have P_z := Lib.hid ((hb1.block (b + 1) (lt_of_block P.out)).trans P.out)
  clear hb1 B R P
  have P1 := P_z
  obtain ⟨⟨p1, p2, p3⟩, p4, p5, p6⟩ := r3_cells R_z.out
  have Ra := Lib.hid (r3_set0 R_z.out (.string S))
  obtain ⟨v1a, hv1a⟩ : ∃ v, w1.setCell ⟨b, 0, none⟩ (.string S) = v := ⟨_, rfl⟩
  rw [hv1a] at Ra
  obtain ⟨⟨p7, p8, p9⟩, p10, p11, p12⟩ := r3_cells Ra.out
  have Rb := Lib.hid (r3_set1 Ra.out (.int .i64 A1))
  obtain ⟨v1b, hv1b⟩ : ∃ v, v1a.setCell ⟨b, 1, none⟩ (.int .i64 A1) = v := ⟨_, rfl⟩
  rw [hv1b] at Rb
  obtain ⟨⟨p13, p14, p15⟩, p16, p17, p18⟩ := r3_cells Rb.out
  have R := Lib.hid (r3_set2 Rb.out (.int .i64 c1))
  obtain ⟨v1c, hv1c⟩ : ∃ v, v1b.setCell ⟨b, 2, none⟩ (.int .i64 c1) = v := ⟨_, rfl⟩
  rw [hv1c] at R
  have on : Only b w1 v1c := by rw [← hv1c, ← hv1b, ← hv1a]; exact (((Only.refl b w1).set 0 _).set 1 _).set 2 _
  have P := Lib.hid ((on.block (b + 1) (by omega)).trans P1.out)
  have B := Lib.hid (below_aside B_z.out (aside_only (Wire.Aside.refl b w1) on) (by have := HBB.out; omega))
  clear on R_z B_z P_z P1 Ra Rb
  obtain ⟨⟨t1, t2, t3⟩, _, _, _⟩ := r3_cells R.out
  go_wp2_with fail
  go_loopw [6, 8] (fun v i wr => ∃ j Aj : Nat, j ≤ n ∧ i = .int .i64 j ∧ Hid (∃ L : List Held, ((repS ctrC.rd c1 l1 j).1 = 0 → L.map (·.x) = repX ctrC.rd c1 l1 j) ∧ L.length = j ∧ wr.ownsRow (b + 2) 74 11 v j (flat L) ∧ Gat (b + 2) wr v L) ∧ Hid (At S Aj (repS ctrC.rd c1 l1 j).2) ∧ Hid (wr.heap[b]? = some (.cells #[.string S, .int .i64 Aj, .int .i64 (repS ctrC.rd c1 l1 j).1] 31 (0, 0))) ∧ Hid (wr.heap[b + 1]? = some (.cells #[.string ⟨#[]⟩, .int .i64 0, .int .i64 0] 31 (0, 0))) ∧ Hid (Below w.heap.size w wr)) (fun _ i _ => n - (RowKit.intOf i).toNat)
  case atStart => exact ⟨0, A1, Nat.zero_le _, rfl, ⟨[], fun _ => rfl, rfl, World.ownsRow_nil _ _ _ _, fun t ht => (by cases ht)⟩, H1.out, R.out, P.out, B.out⟩
  case round =>
    clear B R P
    obtain ⟨wo, hwo⟩ : ∃ v, v = wr := ⟨wr, rfl⟩
    subst hwo
    obtain ⟨j, Aj, hj, rfl, HG, HJ, R, P, B⟩ := hrel
    obtain ⟨LL, hLx, hLl, hO, hGa⟩ := HG.out
    obtain ⟨A0, cap, rfl⟩ := own_form hO
    have O := Lib.hid hO
    have HGA := Lib.hid hGa
    have HLX0 := Lib.hid hLx
    have HLL := Lib.hid hLl
    have hcap : j ≤ cap := own_cap hO
    clear hLx hO hGa hLl HG
    have hjk : (j : Int) ≤ 1000 := by omega
    obtain ⟨cj, hcj⟩ : ∃ d, (repS ctrC.rd c1 l1 j).1 = d := ⟨_, rfl⟩
    obtain ⟨lj, hlj⟩ : ∃ d, (repS ctrC.rd c1 l1 j).2 = d := ⟨_, rfl⟩
    have HSJ0 := Lib.hid (show repS ctrC.rd c1 l1 j = (cj, lj) by rw [← hcj, ← hlj])
    rw [hcj] at R HLX0
    rw [hlj] at HJ
    have OB := Lib.hid (fun r hr => Wire.owns_lt O.out (r := r) hr)
    clear hcj hlj
    obtain ⟨⟨t1, t2, t3⟩, _, _, _⟩ := r3_cells R.out
    by_cases hlt : j < n ∧ cj = 0
    · obtain ⟨hlt, rfl⟩ := hlt
      have hlt' : (j : Int) < (n : Int) := by omega
      have HLX := Lib.hid (HLX0.out rfl)
      clear HLX0
      obtain ⟨⟨nm, d1, m1⟩, q1⟩ : ∃ t, (textC 16 (by decide)).rd 0 lj = t := ⟨_, rfl⟩
      obtain ⟨⟨im, d2, m2⟩, q2⟩ : ∃ t, (textC 33 (by decide)).rd d1 m1 = t := ⟨_, rfl⟩
      obtain ⟨⟨a1, e1, f1⟩, q31⟩ : ∃ t, bigC.rd d2 m2 = t := ⟨_, rfl⟩
      obtain ⟨⟨a2, e2, f2⟩, q32⟩ : ∃ t, bigC.rd e1 f1 = t := ⟨_, rfl⟩
      obtain ⟨⟨a3, d3, m3⟩, q33⟩ : ∃ t, bigC.rd e2 f2 = t := ⟨_, rfl⟩
      obtain ⟨⟨a4, e4, f4⟩, q41⟩ : ∃ t, bigC.rd d3 m3 = t := ⟨_, rfl⟩
      obtain ⟨⟨a5, e5, f5⟩, q42⟩ : ∃ t, bigC.rd e4 f4 = t := ⟨_, rfl⟩
      obtain ⟨⟨a6, d4, m4⟩, q43⟩ : ∃ t, bigC.rd e5 f5 = t := ⟨_, rfl⟩
      obtain ⟨kk, hkk⟩ : ∃ n, WirePure.numV 3 d4 m4 = n := ⟨_, rfl⟩
      obtain ⟨c5, hc5⟩ : ∃ d, numE 3 d4 m4 = d := ⟨_, rfl⟩
      obtain ⟨l5, hl5⟩ : ∃ d, numL 3 d4 m4 = d := ⟨_, rfl⟩
      have q5 : (intC 3 (by decide)).rd d4 m4 = ((kk : Int), c5, l5) := by rw [← hkk, ← hc5, ← hl5]; rfl
      have hkk3 : kk ≤ 3 := by rw [← hkk]; exact numV_le 3 d4 m4
      obtain ⟨⟨d6, m6⟩, q6⟩ : ∃ t, repS portC.rd c5 l5 kk = t := ⟨_, rfl⟩
      have qp : portsC.rd d4 m4 = ((if d6 = 0 then repX portC.rd c5 l5 kk else []), d6, m6) := by
        show ((if (repS portC.rd (numE 3 d4 m4) (numL 3 d4 m4) (numV 3 d4 m4)).1 = 0 then repX portC.rd (numE 3 d4 m4) (numL 3 d4 m4) (numV 3 d4 m4) else []), repS portC.rd (numE 3 d4 m4) (numL 3 d4 m4) (numV 3 d4 m4)) = _
        rw [hkk, hc5, hl5, q6]
      obtain ⟨⟨ev, d7, m7⟩, q7⟩ : ∃ t, (intC 1000 (by decide)).rd d6 m6 = t := ⟨_, rfl⟩
      obtain ⟨⟨fl, d8, m8⟩, q8⟩ : ∃ t, (intC 10 (by decide)).rd d7 m7 = t := ⟨_, rfl⟩
      have qr1 : resC.rd d2 m2 = ((a1, a2, a3), d3, m3) := by
        show pairR bigC.rd (pairR bigC.rd bigC.rd) d2 m2 = _
        simp only [pairR, q31, q32, q33]
      have qr2 : resC.rd d3 m3 = ((a4, a5, a6), d4, m4) := by
        show pairR bigC.rd (pairR bigC.rd bigC.rd) d3 m3 = _
        simp only [pairR, q41, q42, q43]
      have q : ctrC.rd 0 lj = (⟨nm, im, a1, a2, a3, a4, a5, a6, (if d6 = 0 then repX portC.rd c5 l5 kk else []), ev, fl⟩, d8, m8) := by
        simp only [ctrC, mapC, pairC, probeC, pairR, q1, q2, qr1, qr2, qp, q7, q8]
      have HSJ := Lib.hid (show repS ctrC.rd c1 l1 (j + 1) = (d8, m8) by show (ctrC.rd _ _).2 = _; rw [HSJ0.out, q])
      have HXJ := Lib.hid (show d6 = 0 → repX ctrC.rd c1 l1 (j + 1) = repX ctrC.rd c1 l1 j ++ [⟨nm, im, a1, a2, a3, a4, a5, a6, repX portC.rd c5 l5 kk, ev, fl⟩] from fun h6 => by
        show repX ctrC.rd c1 l1 j ++ [(ctrC.rd _ _).1] = _
        rw [HSJ0.out, q]
        simp only [if_pos h6])
      have HFT := Lib.hid (ctr_fits q)
      have K1 := Lib.hid q1
      have K2 := Lib.hid q2
      have K31 := Lib.hid q31
      have K32 := Lib.hid q32
      have K33 := Lib.hid q33
      have K41 := Lib.hid q41
      have K42 := Lib.hid q42
      have K43 := Lib.hid q43
      have K5 := Lib.hid q5
      have K6 := Lib.hid q6
      have K7 := Lib.hid q7
      have K8 := Lib.hid q8
      have hkk' : (kk : Int) ≤ 3 := by omega
      clear q q1 q2 q31 q32 q33 q41 q42 q43 q5 q6 qp q7 q8 qr1 qr2 hkk hc5 hl5
      have GB := Lib.hid (show b + 2 ≤ wo.heap.size by have := lt_of_block P.out; omega)
      obtain ⟨u0, hu0⟩ : ∃ v, wo.alloc (.cells #[.string ⟨#[]⟩, .string ⟨#[]⟩, .int .i64 0, .int .i64 0, .int .i64 0, .int .i64 0, .int .i64 0, .int .i64 0, .slice none 0 0, .int .i64 0, .int .i64 0] 74) = v := ⟨_, rfl⟩
      have al : Below wo.heap.size wo u0 := by rw [← hu0]; exact (Below.refl _ _).alloc (Nat.le_refl _) _
      have L := Lib.hid (show u0.heap[wo.heap.size]? = some (.cells #[.string ⟨#[]⟩, .string ⟨#[]⟩, .int .i64 0, .int .i64 0, .int .i64 0, .int .i64 0, .int .i64 0, .int .i64 0, .slice none 0 0, .int .i64 0, .int .i64 0] 74) by rw [← hu0]; exact heap_alloc_new _ _)
      have AS := Lib.hid (Wire.Aside.of_below (g := b) al)
      have R_z := Lib.hid ((al.block b (lt_of_block R.out)).trans R.out)
      have R0 := R
      clear al R
      have R := R_z
      clear R_z
      obtain ⟨⟨t1, t2, t3⟩, _, _, _⟩ := r3_cells R.out
      go_wp2_with fail
      refine (text_ref S HS.out 16 (by decide) 16 (by decide) (by decide) Aj 0 lj HJ.out nm d1 m1 K1.out _).mono ?_
      rintro e w2 ⟨A2, rfl, h2, hb2⟩
      have H2 := Lib.hid h2
      clear h2
      have AS_z := Lib.hid (AS.out.trans2 (hb2.mono AS.out.size))
      have R_z := Lib.hid ((hb2.block b (lt_of_block R.out)).trans R.out)
      have L_l := lt_of_block L.out
      have L_o := L.out
      have L_b := hb2.block wo.heap.size L_l
      have L_z := Lib.hid (L_b.trans L_o)
      clear L_l L_b L_o
      clear hb2
      clear AS R L
      have AS := AS_z
      have R := R_z
      have L := L_z
      clear AS_z R_z L_z
      obtain ⟨u2, hu2⟩ : ∃ v, w2.alloc (.cells #[.string S, .int .i64 A2, .int .i64 d1] 31) = v := ⟨_, rfl⟩
      have al : Below w2.heap.size w2 u2 := by rw [← hu2]; exact (Below.refl _ _).alloc (Nat.le_refl _) _
      have gn : u2.heap[w2.heap.size]? = some (.cells #[.string S, .int .i64 A2, .int .i64 d1] 31) := by rw [← hu2]; exact heap_alloc_new _ _
      obtain ⟨⟨gn1u2, gn2u2, gn3u2⟩, _, _, _⟩ := r3_cells gn
      clear gn
      have AS_z := Lib.hid (AS.out.trans2 (al.mono AS.out.size))
      have R_z := Lib.hid ((al.block b (lt_of_block R.out)).trans R.out)
      have L_z := Lib.hid ((al.block wo.heap.size (lt_of_block L.out)).trans L.out)
      clear al
      clear AS R L
      have AS := AS_z
      have R := R_z
      have L := L_z
      clear AS_z R_z L_z
      obtain ⟨⟨pv21, pv22, pv23⟩, pv24, pv25, pv26⟩ := r3_cells R.out
      have Rv2a := Lib.hid (r3_set0 R.out (.string S))
      obtain ⟨v2a, hv2a⟩ : ∃ v, u2.setCell ⟨b, 0, none⟩ (.string S) = v := ⟨_, rfl⟩
      rw [hv2a] at Rv2a
      obtain ⟨⟨qv2a1, qv2a2, qv2a3⟩, qv2a4, qv2a5, qv2a6⟩ := r3_cells Rv2a.out
      have Rv2b := Lib.hid (r3_set1 Rv2a.out (.int .i64 A2))
      obtain ⟨v2b, hv2b⟩ : ∃ v, v2a.setCell ⟨b, 1, none⟩ (.int .i64 A2) = v := ⟨_, rfl⟩
      rw [hv2b] at Rv2b
      obtain ⟨⟨qv2b1, qv2b2, qv2b3⟩, qv2b4, qv2b5, qv2b6⟩ := r3_cells Rv2b.out
      have Rv2c := Lib.hid (r3_set2 Rv2b.out (.int .i64 d1))
      obtain ⟨v2c, hv2c⟩ : ∃ v, v2b.setCell ⟨b, 2, none⟩ (.int .i64 d1) = v := ⟨_, rfl⟩
      rw [hv2c] at Rv2c
      obtain ⟨⟨qv2c1, qv2c2, qv2c3⟩, qv2c4, qv2c5, qv2c6⟩ := r3_cells Rv2c.out
      have on : Only b u2 v2c := by rw [← hv2c, ← hv2b, ← hv2a]; exact (((Only.refl b u2).set 0 _).set 1 _).set 2 _
      have R_z := Rv2c
      have AS_z := Lib.hid (aside_only AS.out on)
      have L_z := Lib.hid ((on.block wo.heap.size (by have := GB.out; omega)).trans L.out)
      clear on Rv2a Rv2b Rv2c
      clear AS R L
      have AS := AS_z
      have R := R_z
      have L := L_z
      clear AS_z R_z L_z
      have lc1 := box_cell L.out 0 rfl
      have lf1 := box_free L.out 0
      have L_z := Lib.hid (box_set L.out 0 (.string nm) (B := #[.string nm, .string ⟨#[]⟩, .int .i64 0, .int .i64 0, .int .i64 0, .int .i64 0, .int .i64 0, .int .i64 0, .slice none 0 0, .int .i64 0, .int .i64 0]) rfl)
      obtain ⟨v2d, hv2d⟩ : ∃ v, v2c.setCell ⟨wo.heap.size, 0, none⟩ (.string nm) = v := ⟨_, rfl⟩
      rw [hv2d] at L_z
      have on : Only wo.heap.size v2c v2d := by rw [← hv2d]; exact (Only.refl _ _).set 0 _
      have AS_z := Lib.hid (on.aside AS.out (Nat.le_refl _))
      have R_z := Lib.hid ((on.block b (by have := GB.out; omega)).trans R.out)
      clear on
      clear AS R L
      have AS := AS_z
      have R := R_z
      have L := L_z
      clear AS_z R_z L_z
      obtain ⟨⟨t1, t2, t3⟩, _, _, _⟩ := r3_cells R.out
      go_wp2_with fail
      refine (text_ref S HS.out 33 (by decide) 33 (by decide) (by decide) A2 d1 m1 H2.out im d2 m2 K2.out _).mono ?_
      rintro e w3 ⟨A3, rfl, h3, hb3⟩
      have H3 := Lib.hid h3
      clear h3
      have AS_z := Lib.hid (AS.out.trans2 (hb3.mono AS.out.size))
      have R_z := Lib.hid ((hb3.block b (lt_of_block R.out)).trans R.out)
      have L_l := lt_of_block L.out
      have L_o := L.out
      have L_b := hb3.block wo.heap.size L_l
      have L_z := Lib.hid (L_b.trans L_o)
      clear L_l L_b L_o
      clear hb3
      clear AS R L
      have AS := AS_z
      have R := R_z
      have L := L_z
      clear AS_z R_z L_z
      obtain ⟨u3, hu3⟩ : ∃ v, w3.alloc (.cells #[.string S, .int .i64 A3, .int .i64 d2] 31) = v := ⟨_, rfl⟩
      have al : Below w3.heap.size w3 u3 := by rw [← hu3]; exact (Below.refl _ _).alloc (Nat.le_refl _) _
      have gn : u3.heap[w3.heap.size]? = some (.cells #[.string S, .int .i64 A3, .int .i64 d2] 31) := by rw [← hu3]; exact heap_alloc_new _ _
      obtain ⟨⟨gn1u3, gn2u3, gn3u3⟩, _, _, _⟩ := r3_cells gn
      clear gn
      have AS_z := Lib.hid (AS.out.trans2 (al.mono AS.out.size))
      have R_z := Lib.hid ((al.block b (lt_of_block R.out)).trans R.out)
      have L_z := Lib.hid ((al.block wo.heap.size (lt_of_block L.out)).trans L.out)
      clear al
      clear AS R L
      have AS := AS_z
      have R := R_z
      have L := L_z
      clear AS_z R_z L_z
      obtain ⟨⟨pv31, pv32, pv33⟩, pv34, pv35, pv36⟩ := r3_cells R.out
      have Rv3a := Lib.hid (r3_set0 R.out (.string S))
      obtain ⟨v3a, hv3a⟩ : ∃ v, u3.setCell ⟨b, 0, none⟩ (.string S) = v := ⟨_, rfl⟩
      rw [hv3a] at Rv3a
      obtain ⟨⟨qv3a1, qv3a2, qv3a3⟩, qv3a4, qv3a5, qv3a6⟩ := r3_cells Rv3a.out
      have Rv3b := Lib.hid (r3_set1 Rv3a.out (.int .i64 A3))
      obtain ⟨v3b, hv3b⟩ : ∃ v, v3a.setCell ⟨b, 1, none⟩ (.int .i64 A3) = v := ⟨_, rfl⟩
      rw [hv3b] at Rv3b
      obtain ⟨⟨qv3b1, qv3b2, qv3b3⟩, qv3b4, qv3b5, qv3b6⟩ := r3_cells Rv3b.out
      have Rv3c := Lib.hid (r3_set2 Rv3b.out (.int .i64 d2))
      obtain ⟨v3c, hv3c⟩ : ∃ v, v3b.setCell ⟨b, 2, none⟩ (.int .i64 d2) = v := ⟨_, rfl⟩
      rw [hv3c] at Rv3c
      obtain ⟨⟨qv3c1, qv3c2, qv3c3⟩, qv3c4, qv3c5, qv3c6⟩ := r3_cells Rv3c.out
      have on : Only b u3 v3c := by rw [← hv3c, ← hv3b, ← hv3a]; exact (((Only.refl b u3).set 0 _).set 1 _).set 2 _
      have R_z := Rv3c
      have AS_z := Lib.hid (aside_only AS.out on)
      have L_z := Lib.hid ((on.block wo.heap.size (by have := GB.out; omega)).trans L.out)
      clear on Rv3a Rv3b Rv3c
      clear AS R L
      have AS := AS_z
      have R := R_z
      have L := L_z
      clear AS_z R_z L_z
      have lc2 := box_cell L.out 1 rfl
      have lf2 := box_free L.out 1
      have L_z := Lib.hid (box_set L.out 1 (.string im) (B := #[.string nm, .string im, .int .i64 0, .int .i64 0, .int .i64 0, .int .i64 0, .int .i64 0, .int .i64 0, .slice none 0 0, .int .i64 0, .int .i64 0]) rfl)
      obtain ⟨v3d, hv3d⟩ : ∃ v, v3c.setCell ⟨wo.heap.size, 1, none⟩ (.string im) = v := ⟨_, rfl⟩
      rw [hv3d] at L_z
      have on : Only wo.heap.size v3c v3d := by rw [← hv3d]; exact (Only.refl _ _).set 1 _
      have AS_z := Lib.hid (on.aside AS.out (Nat.le_refl _))
      have R_z := Lib.hid ((on.block b (by have := GB.out; omega)).trans R.out)
      clear on
      clear AS R L
      have AS := AS_z
      have R := R_z
      have L := L_z
      clear AS_z R_z L_z
      obtain ⟨⟨t1, t2, t3⟩, _, _, _⟩ := r3_cells R.out
      go_wp2_with fail
      refine (three_ref S HS.out A3 d2 m2 H3.out a1 a2 a3 e1 e2 d3 f1 f2 m3 K31.out K32.out K33.out _).mono ?_
      rintro e w4 ⟨A4, rfl, h4, hb4⟩
      have H4 := Lib.hid h4
      clear h4
      have AS_z := Lib.hid (AS.out.trans2 (hb4.mono AS.out.size))
      have R_z := Lib.hid ((hb4.block b (lt_of_block R.out)).trans R.out)
      have L_l := lt_of_block L.out
      have L_o := L.out
      have L_b := hb4.block wo.heap.size L_l
      have L_z := Lib.hid (L_b.trans L_o)
      clear L_l L_b L_o
      clear hb4
      clear AS R L
      have AS := AS_z
      have R := R_z
      have L := L_z
      clear AS_z R_z L_z
      obtain ⟨y4, hy4⟩ : ∃ v, (w4.alloc (.cells #[.string S, .int .i64 A4, .int .i64 d3] 31)).alloc (.cells #[.int .i64 a1, .int .i64 a2, .int .i64 a3] 69) = v := ⟨_, rfl⟩
      have HT := Lib.hid (show wo.heap.size < w4.heap.size + 1 from by have := lt_of_block L.out; omega)
      have HBX := Lib.hid (two_boxes w4 _ _ y4 hy4)
      have al : Below w4.heap.size w4 y4 := HBX.out.1
      obtain ⟨⟨g41, g42, g43⟩, _, _, _⟩ := r3_cells HBX.out.2.1
      have T := Lib.hid HBX.out.2.2
      obtain ⟨⟨zt41, zt42, zt43⟩, _, _, _⟩ := r3_cells T.out
      have AS_z := Lib.hid (AS.out.trans2 (al.mono AS.out.size))
      have R_z := Lib.hid ((al.block b (lt_of_block R.out)).trans R.out)
      have L_z := Lib.hid ((al.block wo.heap.size (lt_of_block L.out)).trans L.out)
      clear al HBX
      clear AS R L
      have AS := AS_z
      have R := R_z
      have L := L_z
      clear AS_z R_z L_z
      obtain ⟨⟨pv41, pv42, pv43⟩, pv44, pv45, pv46⟩ := r3_cells R.out
      have Rv4a := Lib.hid (r3_set0 R.out (.string S))
      obtain ⟨v4a, hv4a⟩ : ∃ v, y4.setCell ⟨b, 0, none⟩ (.string S) = v := ⟨_, rfl⟩
      rw [hv4a] at Rv4a
      obtain ⟨⟨qv4a1, qv4a2, qv4a3⟩, qv4a4, qv4a5, qv4a6⟩ := r3_cells Rv4a.out
      have Rv4b := Lib.hid (r3_set1 Rv4a.out (.int .i64 A4))
      obtain ⟨v4b, hv4b⟩ : ∃ v, v4a.setCell ⟨b, 1, none⟩ (.int .i64 A4) = v := ⟨_, rfl⟩
      rw [hv4b] at Rv4b
      obtain ⟨⟨qv4b1, qv4b2, qv4b3⟩, qv4b4, qv4b5, qv4b6⟩ := r3_cells Rv4b.out
      have Rv4c := Lib.hid (r3_set2 Rv4b.out (.int .i64 d3))
      obtain ⟨v4c, hv4c⟩ : ∃ v, v4b.setCell ⟨b, 2, none⟩ (.int .i64 d3) = v := ⟨_, rfl⟩
      rw [hv4c] at Rv4c
      obtain ⟨⟨qv4c1, qv4c2, qv4c3⟩, qv4c4, qv4c5, qv4c6⟩ := r3_cells Rv4c.out
      have on : Only b y4 v4c := by rw [← hv4c, ← hv4b, ← hv4a]; exact (((Only.refl b y4).set 0 _).set 1 _).set 2 _
      have R_z := Rv4c
      have AS_z := Lib.hid (aside_only AS.out on)
      have L_z := Lib.hid ((on.block wo.heap.size (by have := GB.out; omega)).trans L.out)
      have T_z := Lib.hid ((on.block (w4.heap.size + 1) (by have := HT.out; have := GB.out; omega)).trans T.out)
      clear T
      have T := T_z
      clear T_z
      clear on Rv4a Rv4b Rv4c
      clear AS R L
      have AS := AS_z
      have R := R_z
      have L := L_z
      clear AS_z R_z L_z
      obtain ⟨⟨zz41, zz42, zz43⟩, _, _, _⟩ := r3_cells T.out
      have lc3 := box_cell L.out 2 rfl
      have lf3 := box_free L.out 2
      have L_z := Lib.hid (box_set L.out 2 (.int .i64 a1) (B := #[.string nm, .string im, .int .i64 a1, .int .i64 0, .int .i64 0, .int .i64 0, .int .i64 0, .int .i64 0, .slice none 0 0, .int .i64 0, .int .i64 0]) rfl)
      obtain ⟨v4d, hv4d⟩ : ∃ v, v4c.setCell ⟨wo.heap.size, 2, none⟩ (.int .i64 a1) = v := ⟨_, rfl⟩
      rw [hv4d] at L_z
      have on : Only wo.heap.size v4c v4d := by rw [← hv4d]; exact (Only.refl _ _).set 2 _
      have AS_z := Lib.hid (on.aside AS.out (Nat.le_refl _))
      have R_z := Lib.hid ((on.block b (by have := GB.out; omega)).trans R.out)
      have T_z := Lib.hid ((on.block (w4.heap.size + 1) (by have := HT.out; have := GB.out; omega)).trans T.out)
      clear T
      have T := T_z
      clear T_z
      clear on
      clear AS R L
      have AS := AS_z
      have R := R_z
      have L := L_z
      clear AS_z R_z L_z
      obtain ⟨⟨zd41, zd42, zd43⟩, _, _, _⟩ := r3_cells T.out
      have lc4 := box_cell L.out 3 rfl
      have lf4 := box_free L.out 3
      have L_z := Lib.hid (box_set L.out 3 (.int .i64 a2) (B := #[.string nm, .string im, .int .i64 a1, .int .i64 a2, .int .i64 0, .int .i64 0, .int .i64 0, .int .i64 0, .slice none 0 0, .int .i64 0, .int .i64 0]) rfl)
      obtain ⟨v4e, hv4e⟩ : ∃ v, v4d.setCell ⟨wo.heap.size, 3, none⟩ (.int .i64 a2) = v := ⟨_, rfl⟩
      rw [hv4e] at L_z
      have on : Only wo.heap.size v4d v4e := by rw [← hv4e]; exact (Only.refl _ _).set 3 _
      have AS_z := Lib.hid (on.aside AS.out (Nat.le_refl _))
      have R_z := Lib.hid ((on.block b (by have := GB.out; omega)).trans R.out)
      have T_z := Lib.hid ((on.block (w4.heap.size + 1) (by have := HT.out; have := GB.out; omega)).trans T.out)
      clear T
      have T := T_z
      clear T_z
      clear on
      clear AS R L
      have AS := AS_z
      have R := R_z
      have L := L_z
      clear AS_z R_z L_z
      obtain ⟨⟨ze41, ze42, ze43⟩, _, _, _⟩ := r3_cells T.out
      have lc5 := box_cell L.out 4 rfl
      have lf5 := box_free L.out 4
      have L_z := Lib.hid (box_set L.out 4 (.int .i64 a3) (B := #[.string nm, .string im, .int .i64 a1, .int .i64 a2, .int .i64 a3, .int .i64 0, .int .i64 0, .int .i64 0, .slice none 0 0, .int .i64 0, .int .i64 0]) rfl)
      obtain ⟨v4f, hv4f⟩ : ∃ v, v4e.setCell ⟨wo.heap.size, 4, none⟩ (.int .i64 a3) = v := ⟨_, rfl⟩
      rw [hv4f] at L_z
      have on : Only wo.heap.size v4e v4f := by rw [← hv4f]; exact (Only.refl _ _).set 4 _
      have AS_z := Lib.hid (on.aside AS.out (Nat.le_refl _))
      have R_z := Lib.hid ((on.block b (by have := GB.out; omega)).trans R.out)
      have T_z := Lib.hid ((on.block (w4.heap.size + 1) (by have := HT.out; have := GB.out; omega)).trans T.out)
      clear T
      have T := T_z
      clear T_z
      clear on
      clear AS R L
      have AS := AS_z
      have R := R_z
      have L := L_z
      clear AS_z R_z L_z
      clear T HT
      obtain ⟨⟨t1, t2, t3⟩, _, _, _⟩ := r3_cells R.out
      go_wp2_with fail
      refine (three_ref S HS.out A4 d3 m3 H4.out a4 a5 a6 e4 e5 d4 f4 f5 m4 K41.out K42.out K43.out _).mono ?_
      rintro e w5 ⟨A5, rfl, h5, hb5⟩
      have H5 := Lib.hid h5
      clear h5
      have AS_z := Lib.hid (AS.out.trans2 (hb5.mono AS.out.size))
      have R_z := Lib.hid ((hb5.block b (lt_of_block R.out)).trans R.out)
      have L_l := lt_of_block L.out
      have L_o := L.out
      have L_b := hb5.block wo.heap.size L_l
      have L_z := Lib.hid (L_b.trans L_o)
      clear L_l L_b L_o
      clear hb5
      clear AS R L
      have AS := AS_z
      have R := R_z
      have L := L_z
      clear AS_z R_z L_z
      obtain ⟨y5, hy5⟩ : ∃ v, (w5.alloc (.cells #[.string S, .int .i64 A5, .int .i64 d4] 31)).alloc (.cells #[.int .i64 a4, .int .i64 a5, .int .i64 a6] 69) = v := ⟨_, rfl⟩
      have HT := Lib.hid (show wo.heap.size < w5.heap.size + 1 from by have := lt_of_block L.out; omega)
      have HBX := Lib.hid (two_boxes w5 _ _ y5 hy5)
      have al : Below w5.heap.size w5 y5 := HBX.out.1
      obtain ⟨⟨g51, g52, g53⟩, _, _, _⟩ := r3_cells HBX.out.2.1
      have T := Lib.hid HBX.out.2.2
      obtain ⟨⟨zt51, zt52, zt53⟩, _, _, _⟩ := r3_cells T.out
      have AS_z := Lib.hid (AS.out.trans2 (al.mono AS.out.size))
      have R_z := Lib.hid ((al.block b (lt_of_block R.out)).trans R.out)
      have L_z := Lib.hid ((al.block wo.heap.size (lt_of_block L.out)).trans L.out)
      clear al HBX
      clear AS R L
      have AS := AS_z
      have R := R_z
      have L := L_z
      clear AS_z R_z L_z
      obtain ⟨⟨pv51, pv52, pv53⟩, pv54, pv55, pv56⟩ := r3_cells R.out
      have Rv5a := Lib.hid (r3_set0 R.out (.string S))
      obtain ⟨v5a, hv5a⟩ : ∃ v, y5.setCell ⟨b, 0, none⟩ (.string S) = v := ⟨_, rfl⟩
      rw [hv5a] at Rv5a
      obtain ⟨⟨qv5a1, qv5a2, qv5a3⟩, qv5a4, qv5a5, qv5a6⟩ := r3_cells Rv5a.out
      have Rv5b := Lib.hid (r3_set1 Rv5a.out (.int .i64 A5))
      obtain ⟨v5b, hv5b⟩ : ∃ v, v5a.setCell ⟨b, 1, none⟩ (.int .i64 A5) = v := ⟨_, rfl⟩
      rw [hv5b] at Rv5b
      obtain ⟨⟨qv5b1, qv5b2, qv5b3⟩, qv5b4, qv5b5, qv5b6⟩ := r3_cells Rv5b.out
      have Rv5c := Lib.hid (r3_set2 Rv5b.out (.int .i64 d4))
      obtain ⟨v5c, hv5c⟩ : ∃ v, v5b.setCell ⟨b, 2, none⟩ (.int .i64 d4) = v := ⟨_, rfl⟩
      rw [hv5c] at Rv5c
      obtain ⟨⟨qv5c1, qv5c2, qv5c3⟩, qv5c4, qv5c5, qv5c6⟩ := r3_cells Rv5c.out
      have on : Only b y5 v5c := by rw [← hv5c, ← hv5b, ← hv5a]; exact (((Only.refl b y5).set 0 _).set 1 _).set 2 _
      have R_z := Rv5c
      have AS_z := Lib.hid (aside_only AS.out on)
      have L_z := Lib.hid ((on.block wo.heap.size (by have := GB.out; omega)).trans L.out)
      have T_z := Lib.hid ((on.block (w5.heap.size + 1) (by have := HT.out; have := GB.out; omega)).trans T.out)
      clear T
      have T := T_z
      clear T_z
      clear on Rv5a Rv5b Rv5c
      clear AS R L
      have AS := AS_z
      have R := R_z
      have L := L_z
      clear AS_z R_z L_z
      obtain ⟨⟨zz51, zz52, zz53⟩, _, _, _⟩ := r3_cells T.out
      have lc6 := box_cell L.out 5 rfl
      have lf6 := box_free L.out 5
      have L_z := Lib.hid (box_set L.out 5 (.int .i64 a4) (B := #[.string nm, .string im, .int .i64 a1, .int .i64 a2, .int .i64 a3, .int .i64 a4, .int .i64 0, .int .i64 0, .slice none 0 0, .int .i64 0, .int .i64 0]) rfl)
      obtain ⟨v5d, hv5d⟩ : ∃ v, v5c.setCell ⟨wo.heap.size, 5, none⟩ (.int .i64 a4) = v := ⟨_, rfl⟩
      rw [hv5d] at L_z
      have on : Only wo.heap.size v5c v5d := by rw [← hv5d]; exact (Only.refl _ _).set 5 _
      have AS_z := Lib.hid (on.aside AS.out (Nat.le_refl _))
      have R_z := Lib.hid ((on.block b (by have := GB.out; omega)).trans R.out)
      have T_z := Lib.hid ((on.block (w5.heap.size + 1) (by have := HT.out; have := GB.out; omega)).trans T.out)
      clear T
      have T := T_z
      clear T_z
      clear on
      clear AS R L
      have AS := AS_z
      have R := R_z
      have L := L_z
      clear AS_z R_z L_z
      obtain ⟨⟨zd51, zd52, zd53⟩, _, _, _⟩ := r3_cells T.out
      have lc7 := box_cell L.out 6 rfl
      have lf7 := box_free L.out 6
      have L_z := Lib.hid (box_set L.out 6 (.int .i64 a5) (B := #[.string nm, .string im, .int .i64 a1, .int .i64 a2, .int .i64 a3, .int .i64 a4, .int .i64 a5, .int .i64 0, .slice none 0 0, .int .i64 0, .int .i64 0]) rfl)
      obtain ⟨v5e, hv5e⟩ : ∃ v, v5d.setCell ⟨wo.heap.size, 6, none⟩ (.int .i64 a5) = v := ⟨_, rfl⟩
      rw [hv5e] at L_z
      have on : Only wo.heap.size v5d v5e := by rw [← hv5e]; exact (Only.refl _ _).set 6 _
      have AS_z := Lib.hid (on.aside AS.out (Nat.le_refl _))
      have R_z := Lib.hid ((on.block b (by have := GB.out; omega)).trans R.out)
      have T_z := Lib.hid ((on.block (w5.heap.size + 1) (by have := HT.out; have := GB.out; omega)).trans T.out)
      clear T
      have T := T_z
      clear T_z
      clear on
      clear AS R L
      have AS := AS_z
      have R := R_z
      have L := L_z
      clear AS_z R_z L_z
      obtain ⟨⟨ze51, ze52, ze53⟩, _, _, _⟩ := r3_cells T.out
      have lc8 := box_cell L.out 7 rfl
      have lf8 := box_free L.out 7
      have L_z := Lib.hid (box_set L.out 7 (.int .i64 a6) (B := #[.string nm, .string im, .int .i64 a1, .int .i64 a2, .int .i64 a3, .int .i64 a4, .int .i64 a5, .int .i64 a6, .slice none 0 0, .int .i64 0, .int .i64 0]) rfl)
      obtain ⟨v5f, hv5f⟩ : ∃ v, v5e.setCell ⟨wo.heap.size, 7, none⟩ (.int .i64 a6) = v := ⟨_, rfl⟩
      rw [hv5f] at L_z
      have on : Only wo.heap.size v5e v5f := by rw [← hv5f]; exact (Only.refl _ _).set 7 _
      have AS_z := Lib.hid (on.aside AS.out (Nat.le_refl _))
      have R_z := Lib.hid ((on.block b (by have := GB.out; omega)).trans R.out)
      have T_z := Lib.hid ((on.block (w5.heap.size + 1) (by have := HT.out; have := GB.out; omega)).trans T.out)
      clear T
      have T := T_z
      clear T_z
      clear on
      clear AS R L
      have AS := AS_z
      have R := R_z
      have L := L_z
      clear AS_z R_z L_z
      clear T HT
      obtain ⟨⟨t1, t2, t3⟩, _, _, _⟩ := r3_cells R.out
      go_wp2_with fail
      refine (num_ref S HS.out 3 (by decide) 3 (by decide) (by decide) A5 d4 m4 H5.out kk c5 l5 K5.out _).mono ?_
      rintro e w6 ⟨A6, rfl, h6, hb6⟩
      have H6 := Lib.hid h6
      clear h6
      have AS_z := Lib.hid (AS.out.trans2 (hb6.mono AS.out.size))
      have R_z := Lib.hid ((hb6.block b (lt_of_block R.out)).trans R.out)
      have L_l := lt_of_block L.out
      have L_o := L.out
      have L_b := hb6.block wo.heap.size L_l
      have L_z := Lib.hid (L_b.trans L_o)
      clear L_l L_b L_o
      clear hb6
      clear AS R L
      have AS := AS_z
      have R := R_z
      have L := L_z
      clear AS_z R_z L_z
      obtain ⟨u6, hu6⟩ : ∃ v, w6.alloc (.cells #[.string S, .int .i64 A6, .int .i64 c5] 31) = v := ⟨_, rfl⟩
      have al : Below w6.heap.size w6 u6 := by rw [← hu6]; exact (Below.refl _ _).alloc (Nat.le_refl _) _
      have gn : u6.heap[w6.heap.size]? = some (.cells #[.string S, .int .i64 A6, .int .i64 c5] 31) := by rw [← hu6]; exact heap_alloc_new _ _
      obtain ⟨⟨gn1u6, gn2u6, gn3u6⟩, _, _, _⟩ := r3_cells gn
      clear gn
      have AS_z := Lib.hid (AS.out.trans2 (al.mono AS.out.size))
      have R_z := Lib.hid ((al.block b (lt_of_block R.out)).trans R.out)
      have L_z := Lib.hid ((al.block wo.heap.size (lt_of_block L.out)).trans L.out)
      clear al
      clear AS R L
      have AS := AS_z
      have R := R_z
      have L := L_z
      clear AS_z R_z L_z
      obtain ⟨⟨pv61, pv62, pv63⟩, pv64, pv65, pv66⟩ := r3_cells R.out
      have Rv6a := Lib.hid (r3_set0 R.out (.string S))
      obtain ⟨v6a, hv6a⟩ : ∃ v, u6.setCell ⟨b, 0, none⟩ (.string S) = v := ⟨_, rfl⟩
      rw [hv6a] at Rv6a
      obtain ⟨⟨qv6a1, qv6a2, qv6a3⟩, qv6a4, qv6a5, qv6a6⟩ := r3_cells Rv6a.out
      have Rv6b := Lib.hid (r3_set1 Rv6a.out (.int .i64 A6))
      obtain ⟨v6b, hv6b⟩ : ∃ v, v6a.setCell ⟨b, 1, none⟩ (.int .i64 A6) = v := ⟨_, rfl⟩
      rw [hv6b] at Rv6b
      obtain ⟨⟨qv6b1, qv6b2, qv6b3⟩, qv6b4, qv6b5, qv6b6⟩ := r3_cells Rv6b.out
      have Rv6c := Lib.hid (r3_set2 Rv6b.out (.int .i64 c5))
      obtain ⟨v6c, hv6c⟩ : ∃ v, v6b.setCell ⟨b, 2, none⟩ (.int .i64 c5) = v := ⟨_, rfl⟩
      rw [hv6c] at Rv6c
      obtain ⟨⟨qv6c1, qv6c2, qv6c3⟩, qv6c4, qv6c5, qv6c6⟩ := r3_cells Rv6c.out
      have on : Only b u6 v6c := by rw [← hv6c, ← hv6b, ← hv6a]; exact (((Only.refl b u6).set 0 _).set 1 _).set 2 _
      have R_z := Rv6c
      have AS_z := Lib.hid (aside_only AS.out on)
      have L_z := Lib.hid ((on.block wo.heap.size (by have := GB.out; omega)).trans L.out)
      clear on Rv6a Rv6b Rv6c
      clear AS R L
      have AS := AS_z
      have R := R_z
      have L := L_z
      clear AS_z R_z L_z
      obtain ⟨⟨t1, t2, t3⟩, _, _, _⟩ := r3_cells R.out
      go_wp2_with fail
      go_loopw [20] (fun i wi => ∃ p Ap : Nat, ∃ (pv : Option Addr) (pc : Nat), p ≤ kk ∧ i = .int .i64 p ∧ Hid (wi.ownsRow (wo.heap.size + 1) 3 1 (.slice pv p pc) p (flatI (repX portC.rd c5 l5 p))) ∧ Hid (At S Ap (repS portC.rd c5 l5 p).2) ∧ Hid (wi.heap[b]? = some (.cells #[.string S, .int .i64 Ap, .int .i64 (repS portC.rd c5 l5 p).1] 31 (0, 0))) ∧ Hid (wi.heap[wo.heap.size]? = some (.cells #[.string nm, .string im, .int .i64 a1, .int .i64 a2, .int .i64 a3, .int .i64 a4, .int .i64 a5, .int .i64 a6, .slice pv p pc, .int .i64 0, .int .i64 0] 74 (0, 0))) ∧ Hid (Wire.Aside b wo wi)) (fun i _ => kk - (RowKit.intOf i).toNat)
      case atStart => exact ⟨0, A6, none, 0, Nat.zero_le _, rfl, World.ownsRow_nil _ _ _ _, H6.out, R.out, L.out, AS.out⟩
      case round =>
        clear R L AS
        obtain ⟨p, Ap, pv, pc, hp, rfl, PR, HP, R, L, AS⟩ := hrel
        have hpk : (p : Int) ≤ 3 := by omega
        obtain ⟨cp, hcp⟩ : ∃ d, (repS portC.rd c5 l5 p).1 = d := ⟨_, rfl⟩
        obtain ⟨lp, hlp⟩ : ∃ d, (repS portC.rd c5 l5 p).2 = d := ⟨_, rfl⟩
        have HSP0 := Lib.hid (show repS portC.rd c5 l5 p = (cp, lp) by rw [← hcp, ← hlp])
        rw [hcp] at R
        rw [hlp] at HP
        have hpc : p ≤ pc := own_cap PR.out
        clear hcp hlp
        obtain ⟨⟨t1, t2, t3⟩, _, _, _⟩ := r3_cells R.out
        by_cases hgo : p < kk ∧ cp = 0
        · obtain ⟨hpl, rfl⟩ := hgo
          have hpl' : (p : Int) < (kk : Int) := by omega
          obtain ⟨⟨x, c6, l6⟩, q⟩ : ∃ t, (intC 65535 (by decide)).rd 0 lp = t := ⟨_, rfl⟩
          have qp : portC.rd 0 lp = (x, c6, l6) := q
          have HSP := Lib.hid (show repS portC.rd c5 l5 (p + 1) = (c6, l6) by show (portC.rd _ _).2 = _; rw [HSP0.out, qp])
          have HXP := Lib.hid (show flatI (repX portC.rd c5 l5 (p + 1)) = flatI (repX portC.rd c5 l5 p) ++ [.int .i64 x] by
            show flatI (repX portC.rd c5 l5 p ++ [(portC.rd _ _).1]) = _
            rw [HSP0.out, qp, flatI_snoc])
          have HXL := Lib.hid (show (flatI (repX portC.rd c5 l5 p)).length = p * 1 by rw [flatI_length, repX_len])
          have QP := Lib.hid q
          clear q qp
          go_wp2_with fail
          refine (num_ref S HS.out 65535 (by decide) 65535 (by decide) (by decide) Ap 0 lp HP.out x c6 l6 QP.out _).mono ?_
          rintro e w7 ⟨A7, rfl, h7, hb7⟩
          have H7 := Lib.hid h7
          clear h7
          have AS_z := Lib.hid (AS.out.trans2 (hb7.mono AS.out.size))
          have R_z := Lib.hid ((hb7.block b (lt_of_block R.out)).trans R.out)
          have L_l := lt_of_block L.out
          have L_o := L.out
          have L_b := hb7.block wo.heap.size L_l
          have L_z := Lib.hid (L_b.trans L_o)
          clear L_l L_b L_o
          have PR_z := Lib.hid (Wire.owns_of PR.out (w' := w7) (fun r hr => hb7.block r (Wire.owns_lt PR.out hr).2))
          clear hb7
          clear AS R L PR
          have AS := AS_z
          have R := R_z
          have L := L_z
          have PR := PR_z
          clear AS_z R_z L_z PR_z
          obtain ⟨u7, hu7⟩ : ∃ v, w7.alloc (.cells #[.string S, .int .i64 A7, .int .i64 c6] 31) = v := ⟨_, rfl⟩
          have al : Below w7.heap.size w7 u7 := by rw [← hu7]; exact (Below.refl _ _).alloc (Nat.le_refl _) _
          have gn : u7.heap[w7.heap.size]? = some (.cells #[.string S, .int .i64 A7, .int .i64 c6] 31) := by rw [← hu7]; exact heap_alloc_new _ _
          obtain ⟨⟨gn1u7, gn2u7, gn3u7⟩, _, _, _⟩ := r3_cells gn
          clear gn
          have AS_z := Lib.hid (AS.out.trans2 (al.mono AS.out.size))
          have R_z := Lib.hid ((al.block b (lt_of_block R.out)).trans R.out)
          have L_z := Lib.hid ((al.block wo.heap.size (lt_of_block L.out)).trans L.out)
          have PR_z := Lib.hid (Wire.owns_of PR.out (w' := u7) (fun r hr => al.block r (Wire.owns_lt PR.out hr).2))
          clear al
          clear AS R L PR
          have AS := AS_z
          have R := R_z
          have L := L_z
          have PR := PR_z
          clear AS_z R_z L_z PR_z
          obtain ⟨⟨pv71, pv72, pv73⟩, pv74, pv75, pv76⟩ := r3_cells R.out
          have Rv7a := Lib.hid (r3_set0 R.out (.string S))
          obtain ⟨v7a, hv7a⟩ : ∃ v, u7.setCell ⟨b, 0, none⟩ (.string S) = v := ⟨_, rfl⟩
          rw [hv7a] at Rv7a
          obtain ⟨⟨qv7a1, qv7a2, qv7a3⟩, qv7a4, qv7a5, qv7a6⟩ := r3_cells Rv7a.out
          have Rv7b := Lib.hid (r3_set1 Rv7a.out (.int .i64 A7))
          obtain ⟨v7b, hv7b⟩ : ∃ v, v7a.setCell ⟨b, 1, none⟩ (.int .i64 A7) = v := ⟨_, rfl⟩
          rw [hv7b] at Rv7b
          obtain ⟨⟨qv7b1, qv7b2, qv7b3⟩, qv7b4, qv7b5, qv7b6⟩ := r3_cells Rv7b.out
          have Rv7c := Lib.hid (r3_set2 Rv7b.out (.int .i64 c6))
          obtain ⟨v7c, hv7c⟩ : ∃ v, v7b.setCell ⟨b, 2, none⟩ (.int .i64 c6) = v := ⟨_, rfl⟩
          rw [hv7c] at Rv7c
          obtain ⟨⟨qv7c1, qv7c2, qv7c3⟩, qv7c4, qv7c5, qv7c6⟩ := r3_cells Rv7c.out
          have on : Only b u7 v7c := by rw [← hv7c, ← hv7b, ← hv7a]; exact (((Only.refl b u7).set 0 _).set 1 _).set 2 _
          have R_z := Rv7c
          have AS_z := Lib.hid (aside_only AS.out on)
          have L_z := Lib.hid ((on.block wo.heap.size (by have := GB.out; omega)).trans L.out)
          have PR_z := Lib.hid (Wire.owns_of PR.out (w' := v7c) (fun r hr => on.block r (by have := (Wire.owns_lt PR.out hr).1; have := GB.out; omega)))
          clear on Rv7a Rv7b Rv7c
          clear AS R L PR
          have AS := AS_z
          have R := R_z
          have L := L_z
          have PR := PR_z
          clear AS_z R_z L_z PR_z
          obtain ⟨⟨t1, t2, t3⟩, _, _, _⟩ := r3_cells R.out
          have lcp := box_cell L.out 8 rfl
          have HOWN := Lib.hid (PR.out.alloc (.cells #[.int .i64 x] 3))
          have HLT := Lib.hid (lt_of_block L.out)
          go_wp2_with (at_builtin; refine wpList_append_own _ rfl _ _ 70 rfl (wo.heap.size + 1) 3 j0 _ 1 8 Tryz.underlying70 hj0 hy0 hy1 hy2 rfl (by decide) _ p (flatI (repX portC.rd c5 l5 p)) rfl HOWN.out ⟨v7c.heap.size, 0, none⟩ 1 1 [.int .i64 x] rfl rfl ?c1 ?c2 ?c3 ?c4 ?c5 ?_)
          case c1 => exact (World.ownsRow_lit (base := 0) (size := 1) (e := 3) v7c ([.int .i64 x] : List Value).toArray 1 (Nat.zero_le _) (by decide) rfl).cells rfl
          case c2 =>
            intro u hu
            simp only [List.mem_cons, List.not_mem_nil, or_false] at hu
            rcases hu with rfl <;> rfl
          case c3 => unfold maxLen; omega
          case c4 => omega
          case c5 => have := HLT.out; simp; omega
          intro pv' w8 hown' hgrow _
          obtain ⟨qv, qc, rfl⟩ := own_form hown'
          have PR8 := Lib.hid (show w8.ownsRow (wo.heap.size + 1) 3 1 (.slice qv (p + 1) qc) (p + 1) (flatI (repX portC.rd c5 l5 (p + 1))) by rw [HXP.out]; exact hown')
          have hbw : Below (wo.heap.size + 1) v7c w8 := ((Below.refl _ v7c).alloc HLT.out _).grown hgrow (by have := HLT.out; simp; omega) (fun r hr => (HOWN.out.lt r hr).1)
          have R_z := Lib.hid ((hbw.block b (by have := GB.out; omega)).trans R.out)
          have L_z := Lib.hid ((hbw.block wo.heap.size (by omega)).trans L.out)
          have AS_z := Lib.hid (AS.out.trans2 (hbw.mono (by omega)))
          clear hown' hgrow hbw HOWN AS R L PR
          have R := R_z
          have L := L_z
          have AS := AS_z
          have PR := PR8
          clear R_z L_z AS_z PR8
          have lc1 := box_cell L.out 8 rfl
          have lf1 := box_free L.out 8
          have L_z := Lib.hid (box_set L.out 8 (.slice qv (p + 1) qc) (B := #[.string nm, .string im, .int .i64 a1, .int .i64 a2, .int .i64 a3, .int .i64 a4, .int .i64 a5, .int .i64 a6, .slice qv (p + 1) qc, .int .i64 0, .int .i64 0]) rfl)
          obtain ⟨v8, hv8⟩ : ∃ v, w8.setCell ⟨wo.heap.size, 8, none⟩ (.slice qv (p + 1) qc) = v := ⟨_, rfl⟩
          rw [hv8] at L_z
          have on : Only wo.heap.size w8 v8 := by rw [← hv8]; exact (Only.refl _ _).set 8 _
          have AS_z := Lib.hid (on.aside AS.out (Nat.le_refl _))
          have R_z := Lib.hid ((on.block b (by have := GB.out; omega)).trans R.out)
          have PR_z := Lib.hid (Wire.owns_of PR.out (w' := v8) (fun r hr => on.block r (by have := (Wire.owns_lt PR.out hr).1; have := GB.out; omega)))
          clear on
          clear AS R L PR
          have AS := AS_z
          have R := R_z
          have L := L_z
          have PR := PR_z
          clear AS_z R_z L_z PR_z
          have R9 := Lib.hid (show v8.heap[b]? = some (.cells #[.string S, .int .i64 A7, .int .i64 (repS portC.rd c5 l5 (p + 1)).1] 31 (0, 0)) by rw [HSP.out]; exact R.out)
          have H9 := Lib.hid (show At S A7 (repS portC.rd c5 l5 (p + 1)).2 by rw [HSP.out]; exact H7.out)
          go_wp2
          go_roundw
          case rel => exact ⟨p + 1, A7, qv, qc, by omega, by go_num, PR.out, H9.out, R9.out, L.out, AS.out⟩
          case measure => simp [RowKit.intOf]; omega
        · have HE := Lib.hid (show (cp, lp) = (d6, m6) by
            have hst : (repS portC.rd c5 l5 p) = (repS portC.rd c5 l5 kk) := by
              by_cases hc0 : cp = 0
              · rw [show p = kk from Nat.le_antisymm hp (Nat.le_of_not_lt fun h => hgo ⟨h, hc0⟩)]
              · have hst := repS_stay portC (c := c5) (l := l5) (k := p) (by rw [HSP0.out]; exact hc0) (kk - p)
                rw [show p + (kk - p) = kk by omega] at hst
                exact hst.symm
            rw [← HSP0.out, hst, K6.out])
          have HPX := Lib.hid (show d6 = 0 → repX portC.rd c5 l5 p = repX portC.rd c5 l5 kk from fun h0 => by
            have hE := HE.out
            injection hE with hE1 hE2
            rw [show p = kk from Nat.le_antisymm hp (Nat.le_of_not_lt fun h => hgo ⟨h, hE1.trans h0⟩)])
          have hE := HE.out
          injection hE with hE1 hE2
          subst hE1 hE2
          have hway : ¬ (p : Int) < (kk : Int) ∨ ((p : Int) < (kk : Int) ∧ (cp == 0) = false) := by
            by_cases h : p < kk
            · exact .inr ⟨by omega, by simpa using fun h0 => hgo ⟨h, h0⟩⟩
            · exact .inl (by omega)
          obtain ⟨ps, hps⟩ : ∃ d, repX portC.rd c5 l5 p = d := ⟨_, rfl⟩
          have HPS := Lib.hid hps
          have HPL := Lib.hid (show ps.length = p by rw [← hps, repX_len])
          have HPF := Lib.hid (show ∀ z ∈ ps, (Lit.int IntKind.i64 z).wf = true by rw [← hps]; exact port_fits c5 l5 p)
          rw [hps] at PR HPX
          clear hps hgo HE
          have HFX := Lib.hid (show Ctr.Fits ⟨nm, im, a1, a2, a3, a4, a5, a6, ps, ev, fl⟩ from ⟨HFT.out.rc, HFT.out.rm, HFT.out.rp, HFT.out.lc, HFT.out.lm, HFT.out.lp, HFT.out.ev, HFT.out.fl, by have := HPL.out; show ps.length ≤ _; omega⟩)
          rcases hway with hpl' | ⟨hpl', hcz'⟩
          all_goals
            go_wp2_with fail
            refine (num_ref S HS.out 1000 (by decide) 1000 (by decide) (by decide) Ap cp lp HP.out ev d7 m7 K7.out _).mono ?_
            rintro e w7 ⟨A7, rfl, h7, hb7⟩
            have H7 := Lib.hid h7
            clear h7
            have AS_z := Lib.hid (AS.out.trans2 (hb7.mono AS.out.size))
            have R_z := Lib.hid ((hb7.block b (lt_of_block R.out)).trans R.out)
            have L_l := lt_of_block L.out
            have L_o := L.out
            have L_b := hb7.block wo.heap.size L_l
            have L_z := Lib.hid (L_b.trans L_o)
            clear L_l L_b L_o
            have PR_z := Lib.hid (Wire.owns_of PR.out (w' := w7) (fun r hr => hb7.block r (Wire.owns_lt PR.out hr).2))
            clear hb7
            clear AS R L PR
            have AS := AS_z
            have R := R_z
            have L := L_z
            have PR := PR_z
            clear AS_z R_z L_z PR_z
            obtain ⟨u7, hu7⟩ : ∃ v, w7.alloc (.cells #[.string S, .int .i64 A7, .int .i64 d7] 31) = v := ⟨_, rfl⟩
            have al : Below w7.heap.size w7 u7 := by rw [← hu7]; exact (Below.refl _ _).alloc (Nat.le_refl _) _
            have gn : u7.heap[w7.heap.size]? = some (.cells #[.string S, .int .i64 A7, .int .i64 d7] 31) := by rw [← hu7]; exact heap_alloc_new _ _
            obtain ⟨⟨gn1u7, gn2u7, gn3u7⟩, _, _, _⟩ := r3_cells gn
            clear gn
            have AS_z := Lib.hid (AS.out.trans2 (al.mono AS.out.size))
            have R_z := Lib.hid ((al.block b (lt_of_block R.out)).trans R.out)
            have L_z := Lib.hid ((al.block wo.heap.size (lt_of_block L.out)).trans L.out)
            have PR_z := Lib.hid (Wire.owns_of PR.out (w' := u7) (fun r hr => al.block r (Wire.owns_lt PR.out hr).2))
            clear al
            clear AS R L PR
            have AS := AS_z
            have R := R_z
            have L := L_z
            have PR := PR_z
            clear AS_z R_z L_z PR_z
            obtain ⟨⟨pv71, pv72, pv73⟩, pv74, pv75, pv76⟩ := r3_cells R.out
            have Rv7a := Lib.hid (r3_set0 R.out (.string S))
            obtain ⟨v7a, hv7a⟩ : ∃ v, u7.setCell ⟨b, 0, none⟩ (.string S) = v := ⟨_, rfl⟩
            rw [hv7a] at Rv7a
            obtain ⟨⟨qv7a1, qv7a2, qv7a3⟩, qv7a4, qv7a5, qv7a6⟩ := r3_cells Rv7a.out
            have Rv7b := Lib.hid (r3_set1 Rv7a.out (.int .i64 A7))
            obtain ⟨v7b, hv7b⟩ : ∃ v, v7a.setCell ⟨b, 1, none⟩ (.int .i64 A7) = v := ⟨_, rfl⟩
            rw [hv7b] at Rv7b
            obtain ⟨⟨qv7b1, qv7b2, qv7b3⟩, qv7b4, qv7b5, qv7b6⟩ := r3_cells Rv7b.out
            have Rv7c := Lib.hid (r3_set2 Rv7b.out (.int .i64 d7))
            obtain ⟨v7c, hv7c⟩ : ∃ v, v7b.setCell ⟨b, 2, none⟩ (.int .i64 d7) = v := ⟨_, rfl⟩
            rw [hv7c] at Rv7c
            obtain ⟨⟨qv7c1, qv7c2, qv7c3⟩, qv7c4, qv7c5, qv7c6⟩ := r3_cells Rv7c.out
            have on : Only b u7 v7c := by rw [← hv7c, ← hv7b, ← hv7a]; exact (((Only.refl b u7).set 0 _).set 1 _).set 2 _
            have R_z := Rv7c
            have AS_z := Lib.hid (aside_only AS.out on)
            have L_z := Lib.hid ((on.block wo.heap.size (by have := GB.out; omega)).trans L.out)
            have PR_z := Lib.hid (Wire.owns_of PR.out (w' := v7c) (fun r hr => on.block r (by have := (Wire.owns_lt PR.out hr).1; have := GB.out; omega)))
            clear on Rv7a Rv7b Rv7c
            clear AS R L PR
            have AS := AS_z
            have R := R_z
            have L := L_z
            have PR := PR_z
            clear AS_z R_z L_z PR_z
            have lc1 := box_cell L.out 9 rfl
            have lf1 := box_free L.out 9
            have L_z := Lib.hid (box_set L.out 9 (.int .i64 ev) (B := #[.string nm, .string im, .int .i64 a1, .int .i64 a2, .int .i64 a3, .int .i64 a4, .int .i64 a5, .int .i64 a6, .slice pv p pc, .int .i64 ev, .int .i64 0]) rfl)
            obtain ⟨v7d, hv7d⟩ : ∃ v, v7c.setCell ⟨wo.heap.size, 9, none⟩ (.int .i64 ev) = v := ⟨_, rfl⟩
            rw [hv7d] at L_z
            have on : Only wo.heap.size v7c v7d := by rw [← hv7d]; exact (Only.refl _ _).set 9 _
            have AS_z := Lib.hid (on.aside AS.out (Nat.le_refl _))
            have R_z := Lib.hid ((on.block b (by have := GB.out; omega)).trans R.out)
            have PR_z := Lib.hid (Wire.owns_of PR.out (w' := v7d) (fun r hr => on.block r (by have := (Wire.owns_lt PR.out hr).1; have := GB.out; omega)))
            clear on
            clear AS R L PR
            have AS := AS_z
            have R := R_z
            have L := L_z
            have PR := PR_z
            clear AS_z R_z L_z PR_z
            obtain ⟨⟨t1, t2, t3⟩, _, _, _⟩ := r3_cells R.out
            go_wp2_with fail
            refine (num_ref S HS.out 10 (by decide) 10 (by decide) (by decide) A7 d7 m7 H7.out fl d8 m8 K8.out _).mono ?_
            rintro e w8 ⟨A8, rfl, h8, hb8⟩
            have H8 := Lib.hid h8
            clear h8
            have AS_z := Lib.hid (AS.out.trans2 (hb8.mono AS.out.size))
            have R_z := Lib.hid ((hb8.block b (lt_of_block R.out)).trans R.out)
            have L_l := lt_of_block L.out
            have L_o := L.out
            have L_b := hb8.block wo.heap.size L_l
            have L_z := Lib.hid (L_b.trans L_o)
            clear L_l L_b L_o
            have PR_z := Lib.hid (Wire.owns_of PR.out (w' := w8) (fun r hr => hb8.block r (Wire.owns_lt PR.out hr).2))
            clear hb8
            clear AS R L PR
            have AS := AS_z
            have R := R_z
            have L := L_z
            have PR := PR_z
            clear AS_z R_z L_z PR_z
            obtain ⟨u8, hu8⟩ : ∃ v, w8.alloc (.cells #[.string S, .int .i64 A8, .int .i64 d8] 31) = v := ⟨_, rfl⟩
            have al : Below w8.heap.size w8 u8 := by rw [← hu8]; exact (Below.refl _ _).alloc (Nat.le_refl _) _
            have gn : u8.heap[w8.heap.size]? = some (.cells #[.string S, .int .i64 A8, .int .i64 d8] 31) := by rw [← hu8]; exact heap_alloc_new _ _
            obtain ⟨⟨gn1u8, gn2u8, gn3u8⟩, _, _, _⟩ := r3_cells gn
            clear gn
            have AS_z := Lib.hid (AS.out.trans2 (al.mono AS.out.size))
            have R_z := Lib.hid ((al.block b (lt_of_block R.out)).trans R.out)
            have L_z := Lib.hid ((al.block wo.heap.size (lt_of_block L.out)).trans L.out)
            have PR_z := Lib.hid (Wire.owns_of PR.out (w' := u8) (fun r hr => al.block r (Wire.owns_lt PR.out hr).2))
            clear al
            clear AS R L PR
            have AS := AS_z
            have R := R_z
            have L := L_z
            have PR := PR_z
            clear AS_z R_z L_z PR_z
            obtain ⟨⟨pv81, pv82, pv83⟩, pv84, pv85, pv86⟩ := r3_cells R.out
            have Rv8a := Lib.hid (r3_set0 R.out (.string S))
            obtain ⟨v8a, hv8a⟩ : ∃ v, u8.setCell ⟨b, 0, none⟩ (.string S) = v := ⟨_, rfl⟩
            rw [hv8a] at Rv8a
            obtain ⟨⟨qv8a1, qv8a2, qv8a3⟩, qv8a4, qv8a5, qv8a6⟩ := r3_cells Rv8a.out
            have Rv8b := Lib.hid (r3_set1 Rv8a.out (.int .i64 A8))
            obtain ⟨v8b, hv8b⟩ : ∃ v, v8a.setCell ⟨b, 1, none⟩ (.int .i64 A8) = v := ⟨_, rfl⟩
            rw [hv8b] at Rv8b
            obtain ⟨⟨qv8b1, qv8b2, qv8b3⟩, qv8b4, qv8b5, qv8b6⟩ := r3_cells Rv8b.out
            have Rv8c := Lib.hid (r3_set2 Rv8b.out (.int .i64 d8))
            obtain ⟨v8c, hv8c⟩ : ∃ v, v8b.setCell ⟨b, 2, none⟩ (.int .i64 d8) = v := ⟨_, rfl⟩
            rw [hv8c] at Rv8c
            obtain ⟨⟨qv8c1, qv8c2, qv8c3⟩, qv8c4, qv8c5, qv8c6⟩ := r3_cells Rv8c.out
            have on : Only b u8 v8c := by rw [← hv8c, ← hv8b, ← hv8a]; exact (((Only.refl b u8).set 0 _).set 1 _).set 2 _
            have R_z := Rv8c
            have AS_z := Lib.hid (aside_only AS.out on)
            have L_z := Lib.hid ((on.block wo.heap.size (by have := GB.out; omega)).trans L.out)
            have PR_z := Lib.hid (Wire.owns_of PR.out (w' := v8c) (fun r hr => on.block r (by have := (Wire.owns_lt PR.out hr).1; have := GB.out; omega)))
            clear on Rv8a Rv8b Rv8c
            clear AS R L PR
            have AS := AS_z
            have R := R_z
            have L := L_z
            have PR := PR_z
            clear AS_z R_z L_z PR_z
            have lc2 := box_cell L.out 10 rfl
            have lf2 := box_free L.out 10
            have L_z := Lib.hid (box_set L.out 10 (.int .i64 fl) (B := #[.string nm, .string im, .int .i64 a1, .int .i64 a2, .int .i64 a3, .int .i64 a4, .int .i64 a5, .int .i64 a6, .slice pv p pc, .int .i64 ev, .int .i64 fl]) rfl)
            obtain ⟨v8d, hv8d⟩ : ∃ v, v8c.setCell ⟨wo.heap.size, 10, none⟩ (.int .i64 fl) = v := ⟨_, rfl⟩
            rw [hv8d] at L_z
            have on : Only wo.heap.size v8c v8d := by rw [← hv8d]; exact (Only.refl _ _).set 10 _
            have AS_z := Lib.hid (on.aside AS.out (Nat.le_refl _))
            have R_z := Lib.hid ((on.block b (by have := GB.out; omega)).trans R.out)
            have PR_z := Lib.hid (Wire.owns_of PR.out (w' := v8d) (fun r hr => on.block r (by have := (Wire.owns_lt PR.out hr).1; have := GB.out; omega)))
            clear on
            clear AS R L PR
            have AS := AS_z
            have R := R_z
            have L := L_z
            have PR := PR_z
            clear AS_z R_z L_z PR_z
            obtain ⟨⟨t1, t2, t3⟩, _, _, _⟩ := r3_cells R.out
            have lk0 := box_cell L.out 0 rfl
            have lk1 := box_cell L.out 1 rfl
            have lk2 := box_cell L.out 2 rfl
            have lk3 := box_cell L.out 3 rfl
            have lk4 := box_cell L.out 4 rfl
            have lk5 := box_cell L.out 5 rfl
            have lk6 := box_cell L.out 6 rfl
            have lk7 := box_cell L.out 7 rfl
            have lk8 := box_cell L.out 8 rfl
            have lk9 := box_cell L.out 9 rfl
            have lk10 := box_cell L.out 10 rfl
            have HO8 := Lib.hid (Wire.owns_of O.out (w' := v8d) (fun r hr => AS.out.block r (by have := OB.out r hr; exact ⟨this.2, by omega⟩)))
            have HG8 := Lib.hid (show Gat (b + 2) v8d (.slice A0 j cap) (LL ++ [⟨⟨nm, im, a1, a2, a3, a4, a5, a6, ps, ev, fl⟩, pv, pc⟩]) from fun t ht => by
              rcases List.mem_append.1 ht with ht | ht
              · exact (HGA.out.aside AS.out (by omega)) t ht
              · rw [List.mem_singleton.1 ht]
                have hpr := PR.out
                rw [← HPL.out] at hpr
                obtain ⟨hn1, hn2⟩ := nums_own hpr HPF.out
                have hn3 : From (b + 2) pv := fun a ha => by have := hn2 a ha; have := GB.out; omega
                refine ⟨HFX.out, hn1, hn3, ?_, fun _ y hy hr => ?_⟩
                · show ps.length ≤ pc
                  rw [HPL.out]; exact hpc
                · have h3 := (OB.out y.block hr).2
                  have h4 := hn2 y hy
                  omega)
            have HLT := Lib.hid (show b + 2 ≤ v8d.heap.size from by have := GB.out; have := AS.out.size; omega)
            have HOWN := Lib.hid (HO8.out.alloc (.cells #[.string nm, .string im, .int .i64 a1, .int .i64 a2, .int .i64 a3, .int .i64 a4, .int .i64 a5, .int .i64 a6, .slice pv p pc, .int .i64 ev, .int .i64 fl] 74))
            have HCE := Lib.hid (show Held.cells ⟨⟨nm, im, a1, a2, a3, a4, a5, a6, ps, ev, fl⟩, pv, pc⟩ = [.string nm, .string im, .int .i64 a1, .int .i64 a2, .int .i64 a3, .int .i64 a4, .int .i64 a5, .int .i64 a6, .slice pv p pc, .int .i64 ev, .int .i64 fl] by rw [← HPL.out]; rfl)
            go_wp2_with (at_builtin; refine wpList_append_own_at _ rfl _ _ 26 rfl (b + 2) 74 i0 _ 11 120 Tryz.underlying26 hi0 hz0 hz1 hz2 rfl (by decide) _ j (flat LL) rfl HOWN.out ⟨v8d.heap.size, 0, none⟩ 1 1 [.string nm, .string im, .int .i64 a1, .int .i64 a2, .int .i64 a3, .int .i64 a4, .int .i64 a5, .int .i64 a6, .slice pv p pc, .int .i64 ev, .int .i64 fl] rfl rfl ?c1 ?c2 ?c3 ?c4 ?c5 ?_)
            case c1 => exact (World.ownsRow_lit (base := 0) (size := 11) (e := 74) v8d ([.string nm, .string im, .int .i64 a1, .int .i64 a2, .int .i64 a3, .int .i64 a4, .int .i64 a5, .int .i64 a6, .slice pv p pc, .int .i64 ev, .int .i64 fl] : List Value).toArray 1 (Nat.zero_le _) (by decide) rfl).cells rfl
            case c2 =>
              intro u hu
              simp only [List.mem_cons, List.not_mem_nil, or_false] at hu
              rcases hu with rfl | rfl | rfl | rfl | rfl | rfl | rfl | rfl | rfl | rfl | rfl <;> rfl
            case c3 => unfold maxLen; omega
            case c4 => omega
            case c5 => have := HLT.out; simp; omega
            intro v' w9 hown' hgrow _ hat
            have HO9 := Lib.hid (show w9.ownsRow (b + 2) 74 11 v' (j + 1) (flat (LL ++ [⟨⟨nm, im, a1, a2, a3, a4, a5, a6, ps, ev, fl⟩, pv, pc⟩])) by rw [flat_snoc, HCE.out]; exact hown')
            have hbw : Below (b + 2) v8d w9 := ((Below.refl _ v8d).alloc HLT.out _).grown hgrow (by have := HLT.out; simp; omega) (fun r hr => (HOWN.out.lt r hr).1)
            have HG9 := Lib.hid (HG8.out.grown hgrow hat)
            have R9 := Lib.hid (show w9.heap[b]? = some (.cells #[.string S, .int .i64 A8, .int .i64 (repS ctrC.rd c1 l1 (j + 1)).1] 31 (0, 0)) by rw [HSJ.out]; exact (hbw.block b (by omega)).trans R.out)
            have P9 := Lib.hid ((hbw.block (b + 1) (by omega)).trans ((AS.out.block (b + 1) ⟨lt_of_block P.out, by omega⟩).trans P.out))
            have B9 := Lib.hid (show Below w.heap.size w w9 from (below_aside B.out AS.out (by have := HBB.out; omega)).trans (hbw.mono (by have := HBB.out; omega)))
            have H9 := Lib.hid (show At S A8 (repS ctrC.rd c1 l1 (j + 1)).2 by rw [HSJ.out]; exact H8.out)
            have HX9 := Lib.hid (show (repS ctrC.rd c1 l1 (j + 1)).1 = 0 → (LL ++ [(⟨⟨nm, im, a1, a2, a3, a4, a5, a6, ps, ev, fl⟩, pv, pc⟩ : Held)]).map (·.x) = repX ctrC.rd c1 l1 (j + 1) from fun h0 => by
              rw [HSJ.out] at h0
              have h7 := rd_zero K8.out h0
              have h6 := rd_zero K7.out h7
              rw [HXJ.out h6, List.map_append, HLX.out, HPX.out h6]; rfl)
            have HL9 := Lib.hid (show (LL ++ [(⟨⟨nm, im, a1, a2, a3, a4, a5, a6, ps, ev, fl⟩, pv, pc⟩ : Held)]).length = j + 1 by rw [List.length_append, HLL.out]; rfl)
            clear hown' hgrow hbw HOWN hat
            go_wp2
            go_roundw
            case rel => exact ⟨j + 1, A8, by omega, by go_num, ⟨_, HX9.out, HL9.out, HO9.out, HG9.out⟩, H9.out, R9.out, P9.out, B9.out⟩
            case measure => simp [RowKit.intOf]; omega
    · have HE := Lib.hid (show (cj, lj) = (c', l') by
        have hst : (repS ctrC.rd c1 l1 j) = (repS ctrC.rd c1 l1 n) := by
          by_cases hc0 : cj = 0
          · rw [show j = n from Nat.le_antisymm hj (Nat.le_of_not_lt fun h => hlt ⟨h, hc0⟩)]
          · have hst := repS_stay ctrC (c := c1) (l := l1) (k := j) (by rw [HSJ0.out]; exact hc0) (n - j)
            rw [show j + (n - j) = n by omega] at hst
            exact hst.symm
        rw [← HSJ0.out, hst, HQ2.out])
      have HUP := Lib.hid (show CtrsUp (b + 2) wo A0 (LL.map (·.x)) from HGA.out.up O.out)
      have HXS := Lib.hid (show cj = 0 → LL.map (·.x) = xs from fun h0 => by
        have hE := HE.out
        injection hE with hE1 hE2
        rw [HLX0.out h0, ← HQ1.out, show j = n from Nat.le_antisymm hj (Nat.le_of_not_lt fun h => hlt ⟨h, h0⟩), if_pos (by rw [HQ2.out]; exact hE1.symm.trans h0)])
      have hway : ¬ (j : Int) < (n : Int) ∨ ((j : Int) < (n : Int) ∧ (cj == 0) = false) := by
        by_cases h : j < n
        · exact .inr ⟨by omega, by simpa using fun h0 => hlt ⟨h, h0⟩⟩
        · exact .inl (by omega)
      clear hlt
      obtain ⟨⟨t1a, t1b, t1c⟩, _, _, _⟩ := r3_cells R.out
      obtain ⟨⟨o1, o2, o3⟩, o4, o5, o6⟩ := r3_cells P.out
      have P0 := Lib.hid (r3_set0 P.out (.string S))
      obtain ⟨z0, hz0⟩ : ∃ v, wo.setCell ⟨b + 1, 0, none⟩ (.string S) = v := ⟨_, rfl⟩
      rw [hz0] at P0
      obtain ⟨⟨z01, z02, z03⟩, z04, z05, z06⟩ := r3_cells P0.out
      have P1 := Lib.hid (r3_set1 P0.out (.int .i64 Aj))
      obtain ⟨z1, hz1⟩ : ∃ v, z0.setCell ⟨b + 1, 1, none⟩ (.int .i64 Aj) = v := ⟨_, rfl⟩
      rw [hz1] at P1
      obtain ⟨⟨z11, z12, z13⟩, z14, z15, z16⟩ := r3_cells P1.out
      have P2 := Lib.hid (r3_set2 P1.out (.int .i64 cj))
      obtain ⟨z2, hz2⟩ : ∃ v, z1.setCell ⟨b + 1, 2, none⟩ (.int .i64 cj) = v := ⟨_, rfl⟩
      rw [hz2] at P2
      obtain ⟨⟨z21, z22, z23⟩, z24, z25, z26⟩ := r3_cells P2.out
      have on : Only (b + 1) wo z2 := by rw [← hz2, ← hz1, ← hz0]; exact (((Only.refl _ _).set 0 _).set 1 _).set 2 _
      have B_z := Lib.hid (show Below w.heap.size w z2 by rw [← hz2, ← hz1, ← hz0]; exact ((B.out.setCell (p := ⟨b + 1, 0, none⟩) (by show w.heap.size ≤ b + 1; have := HBB.out; omega) _).setCell (p := ⟨b + 1, 1, none⟩) (by show w.heap.size ≤ b + 1; have := HBB.out; omega) _).setCell (p := ⟨b + 1, 2, none⟩) (by show w.heap.size ≤ b + 1; have := HBB.out; omega) _)
      clear B
      have B := B_z
      clear B_z
      have HUZ := Lib.hid (on.up HUP.out (by omega))
      clear on
      rcases hway with hlt' | ⟨hlt', hcz'⟩
      all_goals
        go_wp2_with fail
        refine bodyPost_ret (v := .tuple #[.agg #[.string S, .int .i64 Aj, .int .i64 cj], .slice A0 j cap]) ?hres rfl ?_
        case hres => simp [results, Tryz.results43, go_sem, z21, z22, z23]
        have hE := HE.out
        injection hE with hE1 hE2
        refine ⟨Aj, A0, j, cap, by rw [hE1], by rw [← hE2]; exact HJ.out, hcap, fun h0 => ?_, B.out⟩
        have hs : xs.length = j := by rw [← HXS.out (hE1.trans h0), List.length_map, HLL.out]
        refine ⟨hs.symm, ?_⟩
        rw [← HXS.out (hE1.trans h0)]
        exact HUZ.out.less (by have := HBB.out; omega)
end Pk
end Go.Proofs.YtmeilidjomjocaaGreatDoor

/- The document's reading of a spec (provostref07.Take, Of) by contract. Condition: the text has at most 2^46 bytes. -/
set_option linter.unusedVariables false
set_option linter.unusedSimpArgs false
namespace Go.Proofs.YtmeilidjomjocaaGreatDoor
open Go.ChangeShapes Go.WideShapes Go.ChangeAt Go.RowKit Go.Lib
open LebMath WirePure Sd Wire SpecOwn SpecRef
namespace Pk

/-- labels that are there unless something went wrong -/
def LbIf (c : Int) (n : Nat) (B : Nat) (w : World) (P : Option Addr) (l : List Lbl) : Prop := From B P ∧ (c = 0 → n = l.length ∧ Lbls w P l)
theorem LbIf.below {c : Int} {n B : Nat} {w v : World} {P : Option Addr} {l : List Lbl} (h : LbIf c n B w P l) (hb : Below w.heap.size w v) : LbIf c n B v P l := ⟨h.1, fun h0 => ⟨(h.2 h0).1, (h.2 h0).2.below hb⟩⟩
theorem LbIf.only {c : Int} {n B b : Nat} {w v : World} {P : Option Addr} {l : List Lbl} (h : LbIf c n B w P l) (on : Only b w v) (hb : b < B) : LbIf c n B v P l :=
  ⟨h.1, fun h0 => ⟨(h.2 h0).1, on.lbls (h.2 h0).2 (fun a ha => by have := h.1 a ha; omega)⟩⟩
/-- containers that are there unless something went wrong -/
def CtIf (c : Int) (n : Nat) (B : Nat) (w : World) (P : Option Addr) (l : List Ctr) : Prop := c = 0 → n = l.length ∧ CtrsUp B w P l
theorem CtIf.below {c : Int} {n B : Nat} {w v : World} {P : Option Addr} {l : List Ctr} (h : CtIf c n B w P l) (hb : Below w.heap.size w v) : CtIf c n B v P l := fun h0 => ⟨(h h0).1, (h h0).2.below hb⟩
theorem CtIf.only {c : Int} {n B b : Nat} {w v : World} {P : Option Addr} {l : List Ctr} (h : CtIf c n B w P l) (on : Only b w v) (hb : b < B) : CtIf c n B v P l := fun h0 => ⟨(h h0).1, on.up (h h0).2 hb⟩

set_option maxRecDepth 100000 in
set_option maxHeartbeats 8000000 in
theorem take_ref (S : ByteArray) (hS : S.size ≤ 70368744177664) (A : Nat) (c : Int) (l : List UInt8) (hA : At S A l) (Y : Spc) (c' : Int) (l' : List UInt8) (hq : specC.rd c l = (Y, c', l')) (w : World) :
    Calls Tryz.prog 13 #[.agg #[.string S, .int .i64 A, .int .i64 c]] w fun e w' => ∃ (A' : Nat) (LA IA MA : Option Addr) (n2 lc n3 ic n4 mc : Nat), e = .returned (.tuple #[.agg #[.string S, .int .i64 A', .int .i64 c'], .agg #[.string Y.name, .slice LA n2 lc, .slice IA n3 ic, .slice MA n4 mc, .int .i64 Y.restart, .int .i64 Y.grace, .int .i64 Y.prio]]) ∧ At S A' l' ∧ (c' = 0 → n2 = Y.labels.length ∧ n3 = Y.init.length ∧ n4 = Y.main.length ∧ SpcUp w.heap.size Y w' LA IA MA) ∧ Below w.heap.size w w' := by
  have hnum := spec_nums hq
  have HA := Lib.hid hA
  have HS := Lib.hid hS
  obtain ⟨⟨y1, c1, l1⟩, q1⟩ : ∃ t, (textC 16 (by decide)).rd c l = t := ⟨_, rfl⟩
  obtain ⟨⟨y2, c2, l2⟩, q2⟩ : ∃ t, labelsC.rd c1 l1 = t := ⟨_, rfl⟩
  obtain ⟨⟨y3, c3, l3⟩, q3⟩ : ∃ t, initC.rd c2 l2 = t := ⟨_, rfl⟩
  obtain ⟨⟨y4, c4, l4⟩, q4⟩ : ∃ t, mainC.rd c3 l3 = t := ⟨_, rfl⟩
  obtain ⟨⟨y5, c5, l5⟩, q5⟩ : ∃ t, (intC 3 (by decide)).rd c4 l4 = t := ⟨_, rfl⟩
  obtain ⟨⟨y6, c6, l6⟩, q6⟩ : ∃ t, (intC 1000 (by decide)).rd c5 l5 = t := ⟨_, rfl⟩
  obtain ⟨⟨y7, c7, l7⟩, q7⟩ : ∃ t, (intC 10 (by decide)).rd c6 l6 = t := ⟨_, rfl⟩
  have hr : specC.rd c l = (⟨y1, y2, y3, y4, y5, y6, y7⟩, c7, l7) := by
    simp only [specC, mapC, pairC, pairR, q1, q2, q3, q4, q5, q6, q7]
  rw [hr] at hq
  injection hq with hq1 hq2
  injection hq2 with hq2 hq3
  subst hq1 hq2 hq3
  have HNUM := Lib.hid hnum
  have Q1 := Lib.hid q1
  have Q2 := Lib.hid q2
  have Q3 := Lib.hid q3
  have Q4 := Lib.hid q4
  have Q5 := Lib.hid q5
  have Q6 := Lib.hid q6
  have Q7 := Lib.hid q7
  have HZ6 := Lib.hid (fun h0 : c7 = 0 => rd_zero q7 h0)
  have HZ5 := Lib.hid (fun h0 : c6 = 0 => rd_zero q6 h0)
  have HZ4 := Lib.hid (fun h0 : c5 = 0 => rd_zero q5 h0)
  have HZ3 := Lib.hid (fun h0 : c4 = 0 => rd_zero q4 h0)
  have HZ2 := Lib.hid (fun h0 : c3 = 0 => rd_zero q3 h0)
  clear hr hnum hA hS q1 q2 q3 q4 q5 q6 q7
  go_enter Tryz.func13, Tryz.ntmps13
  go_wp2_with fail
  obtain ⟨w0, hw0⟩ : ∃ v, (((w.alloc (.cells #[.string S, .int .i64 A, .int .i64 c] 31)).alloc (.cells #[.string ⟨#[]⟩, .int .i64 0, .int .i64 0] 31)).alloc (.cells #[.string ⟨#[]⟩, .slice none 0 0, .slice none 0 0, .slice none 0 0, .int .i64 0, .int .i64 0, .int .i64 0] 28)).alloc (.cells #[.string ⟨#[]⟩, .slice none 0 0, .slice none 0 0, .slice none 0 0, .int .i64 0, .int .i64 0, .int .i64 0] 28) = v := ⟨_, rfl⟩
  have HBX := Lib.hid (four_boxes w _ _ _ _ w0 hw0)
  rw [hw0]
  obtain ⟨b, hb⟩ : ∃ b, w.heap.size = b := ⟨_, rfl⟩
  have HBB := Lib.hid hb
  rw [hb] at HBX ⊢
  clear hw0 hb
  have B := Lib.hid (show Below w.heap.size w w0 by rw [HBB.out]; exact HBX.out.1)
  have R := Lib.hid HBX.out.2.1
  have P := Lib.hid HBX.out.2.2.1
  have T := Lib.hid HBX.out.2.2.2.1
  have X := Lib.hid HBX.out.2.2.2.2
  clear HBX
  refine (text_ref S HS.out 16 (by decide) 16 (by decide) (by decide) A c l HA.out y1 c1 l1 Q1.out _).mono ?_
  rintro e w1 ⟨A1, rfl, h1, hb1⟩
  have H1 := Lib.hid h1
  clear h1
  have B_z := Lib.hid (B.out.trans (hb1.mono B.out.size))
  have R_z := Lib.hid ((hb1.block (b) (lt_of_block R.out)).trans R.out)
  have P_z := Lib.hid ((hb1.block (b + 1) (lt_of_block P.out)).trans P.out)
  have T_z := Lib.hid ((hb1.block (b + 1 + 1) (lt_of_block T.out)).trans T.out)
  have X_z := Lib.hid ((hb1.block (b + 1 + 1 + 1) (lt_of_block X.out)).trans X.out)
  clear hb1
  clear B R P T X
  have B := B_z
  have R := R_z
  have P := P_z
  have T := T_z
  have X := X_z
  clear B_z R_z P_z T_z X_z
  obtain ⟨u1, hu1⟩ : ∃ v, w1.alloc (.cells #[.string S, .int .i64 A1, .int .i64 c1] 31) = v := ⟨_, rfl⟩
  have al : Below w1.heap.size w1 u1 := by rw [← hu1]; exact (Below.refl _ _).alloc (Nat.le_refl _) _
  have Q := Lib.hid (show u1.heap[w1.heap.size]? = some (.cells #[.string S, .int .i64 A1, .int .i64 c1] 31) by rw [← hu1]; exact heap_alloc_new _ _)
  have B_z := Lib.hid (B.out.trans (al.mono B.out.size))
  have R_z := Lib.hid ((al.block (b) (lt_of_block R.out)).trans R.out)
  have P_z := Lib.hid ((al.block (b + 1) (lt_of_block P.out)).trans P.out)
  have T_z := Lib.hid ((al.block (b + 1 + 1) (lt_of_block T.out)).trans T.out)
  have X_z := Lib.hid ((al.block (b + 1 + 1 + 1) (lt_of_block X.out)).trans X.out)
  clear al
  clear B R P T X
  have B := B_z
  have R := R_z
  have P := P_z
  have T := T_z
  have X := X_z
  clear B_z R_z P_z T_z X_z
  have gq1_0 := box_cell Q.out 0 rfl
  have gq1_1 := box_cell Q.out 1 rfl
  have gq1_2 := box_cell Q.out 2 rfl
  clear Q
  have v1_c0 := box_cell R.out 0 rfl
  have v1_f0 := box_free R.out 0
  have v1_Z0 := Lib.hid (box_set R.out 0 (.string S) (B := #[.string S, .int .i64 A, .int .i64 c]) rfl)
  obtain ⟨v1_0, hv1_0⟩ : ∃ v, u1.setCell ⟨b, 0, none⟩ (.string S) = v := ⟨_, rfl⟩
  rw [hv1_0] at v1_Z0
  have v1_o0 : Only (b) u1 v1_0 := by rw [← hv1_0]; exact (Only.refl (b) u1).set 0 _
  have v1_c1 := box_cell v1_Z0.out 1 rfl
  have v1_f1 := box_free v1_Z0.out 1
  have v1_Z1 := Lib.hid (box_set v1_Z0.out 1 (.int .i64 A1) (B := #[.string S, .int .i64 A1, .int .i64 c]) rfl)
  obtain ⟨v1_1, hv1_1⟩ : ∃ v, v1_0.setCell ⟨b, 1, none⟩ (.int .i64 A1) = v := ⟨_, rfl⟩
  rw [hv1_1] at v1_Z1
  have v1_o1 : Only (b) u1 v1_1 := by rw [← hv1_1]; exact v1_o0.set 1 _
  have v1_c2 := box_cell v1_Z1.out 2 rfl
  have v1_f2 := box_free v1_Z1.out 2
  have v1_Z2 := Lib.hid (box_set v1_Z1.out 2 (.int .i64 c1) (B := #[.string S, .int .i64 A1, .int .i64 c1]) rfl)
  obtain ⟨v1_2, hv1_2⟩ : ∃ v, v1_1.setCell ⟨b, 2, none⟩ (.int .i64 c1) = v := ⟨_, rfl⟩
  rw [hv1_2] at v1_Z2
  have v1_o2 : Only (b) u1 v1_2 := by rw [← hv1_2]; exact v1_o1.set 2 _
  have R_z := v1_Z2
  have B_z := Lib.hid (v1_o2.below B.out (by have := HBB.out; omega))
  have P_z := Lib.hid ((v1_o2.block (b + 1) (by have := HBB.out; omega)).trans P.out)
  have T_z := Lib.hid ((v1_o2.block (b + 1 + 1) (by have := HBB.out; omega)).trans T.out)
  have X_z := Lib.hid ((v1_o2.block (b + 1 + 1 + 1) (by have := HBB.out; omega)).trans X.out)
  clear v1_o0 v1_Z0 v1_o1 v1_Z1 v1_o2 v1_Z2
  clear B R P T X
  have B := B_z
  have R := R_z
  have P := P_z
  have T := T_z
  have X := X_z
  clear B_z R_z P_z T_z X_z
  have x1_c0 := box_cell X.out 0 rfl
  have x1_f0 := box_free X.out 0
  have x1_Z0 := Lib.hid (box_set X.out 0 (.string y1) (B := #[.string y1, .slice none 0 0, .slice none 0 0, .slice none 0 0, .int .i64 0, .int .i64 0, .int .i64 0]) rfl)
  obtain ⟨x1_0, hx1_0⟩ : ∃ v, v1_2.setCell ⟨b + 1 + 1 + 1, 0, none⟩ (.string y1) = v := ⟨_, rfl⟩
  rw [hx1_0] at x1_Z0
  have x1_o0 : Only (b + 1 + 1 + 1) v1_2 x1_0 := by rw [← hx1_0]; exact (Only.refl (b + 1 + 1 + 1) v1_2).set 0 _
  have X_z := x1_Z0
  have B_z := Lib.hid (x1_o0.below B.out (by have := HBB.out; omega))
  have R_z := Lib.hid ((x1_o0.block (b) (by have := HBB.out; omega)).trans R.out)
  have P_z := Lib.hid ((x1_o0.block (b + 1) (by have := HBB.out; omega)).trans P.out)
  have T_z := Lib.hid ((x1_o0.block (b + 1 + 1) (by have := HBB.out; omega)).trans T.out)
  clear x1_o0 x1_Z0
  clear B R P T X
  have B := B_z
  have R := R_z
  have P := P_z
  have T := T_z
  have X := X_z
  clear B_z R_z P_z T_z X_z
  have rr1_0 := box_cell R.out 0 rfl
  have rr1_1 := box_cell R.out 1 rfl
  have rr1_2 := box_cell R.out 2 rfl
  go_wp2_with fail
  refine (takeLabels_ref S HS.out A1 c1 l1 H1.out y2 c2 l2 Q2.out _).mono ?_
  rintro e w2 ⟨A2, LA, n2, lc, rfl, h2, hn2, hf2, ho2, hb2⟩
  have H2 := Lib.hid h2
  clear h2
  have BL2 := Lib.hid (show b + 4 ≤ x1_0.heap.size from by have := lt_of_block X.out; omega)
  have B_z := Lib.hid (B.out.trans (hb2.mono B.out.size))
  have R_z := Lib.hid ((hb2.block (b) (lt_of_block R.out)).trans R.out)
  have P_z := Lib.hid ((hb2.block (b + 1) (lt_of_block P.out)).trans P.out)
  have T_z := Lib.hid ((hb2.block (b + 1 + 1) (lt_of_block T.out)).trans T.out)
  have X_z := Lib.hid ((hb2.block (b + 1 + 1 + 1) (lt_of_block X.out)).trans X.out)
  clear hb2
  clear B R P T X
  have B := B_z
  have R := R_z
  have P := P_z
  have T := T_z
  have X := X_z
  clear B_z R_z P_z T_z X_z
  have LB := Lib.hid (show LbIf c2 n2 (b + 4) w2 LA y2 from ⟨fun a ha => by have := hf2 a ha; have := BL2.out; omega, ho2⟩)
  clear hf2 ho2 BL2
  obtain ⟨u2, hu2⟩ : ∃ v, w2.alloc (.cells #[.string S, .int .i64 A2, .int .i64 c2] 31) = v := ⟨_, rfl⟩
  have al : Below w2.heap.size w2 u2 := by rw [← hu2]; exact (Below.refl _ _).alloc (Nat.le_refl _) _
  have Q := Lib.hid (show u2.heap[w2.heap.size]? = some (.cells #[.string S, .int .i64 A2, .int .i64 c2] 31) by rw [← hu2]; exact heap_alloc_new _ _)
  have B_z := Lib.hid (B.out.trans (al.mono B.out.size))
  have R_z := Lib.hid ((al.block (b) (lt_of_block R.out)).trans R.out)
  have P_z := Lib.hid ((al.block (b + 1) (lt_of_block P.out)).trans P.out)
  have T_z := Lib.hid ((al.block (b + 1 + 1) (lt_of_block T.out)).trans T.out)
  have X_z := Lib.hid ((al.block (b + 1 + 1 + 1) (lt_of_block X.out)).trans X.out)
  have LB_z := Lib.hid (LB.out.below al)
  clear al
  clear B R P T X LB
  have B := B_z
  have R := R_z
  have P := P_z
  have T := T_z
  have X := X_z
  have LB := LB_z
  clear B_z R_z P_z T_z X_z LB_z
  have gq2_0 := box_cell Q.out 0 rfl
  have gq2_1 := box_cell Q.out 1 rfl
  have gq2_2 := box_cell Q.out 2 rfl
  clear Q
  have v2_c0 := box_cell R.out 0 rfl
  have v2_f0 := box_free R.out 0
  have v2_Z0 := Lib.hid (box_set R.out 0 (.string S) (B := #[.string S, .int .i64 A1, .int .i64 c1]) rfl)
  obtain ⟨v2_0, hv2_0⟩ : ∃ v, u2.setCell ⟨b, 0, none⟩ (.string S) = v := ⟨_, rfl⟩
  rw [hv2_0] at v2_Z0
  have v2_o0 : Only (b) u2 v2_0 := by rw [← hv2_0]; exact (Only.refl (b) u2).set 0 _
  have v2_c1 := box_cell v2_Z0.out 1 rfl
  have v2_f1 := box_free v2_Z0.out 1
  have v2_Z1 := Lib.hid (box_set v2_Z0.out 1 (.int .i64 A2) (B := #[.string S, .int .i64 A2, .int .i64 c1]) rfl)
  obtain ⟨v2_1, hv2_1⟩ : ∃ v, v2_0.setCell ⟨b, 1, none⟩ (.int .i64 A2) = v := ⟨_, rfl⟩
  rw [hv2_1] at v2_Z1
  have v2_o1 : Only (b) u2 v2_1 := by rw [← hv2_1]; exact v2_o0.set 1 _
  have v2_c2 := box_cell v2_Z1.out 2 rfl
  have v2_f2 := box_free v2_Z1.out 2
  have v2_Z2 := Lib.hid (box_set v2_Z1.out 2 (.int .i64 c2) (B := #[.string S, .int .i64 A2, .int .i64 c2]) rfl)
  obtain ⟨v2_2, hv2_2⟩ : ∃ v, v2_1.setCell ⟨b, 2, none⟩ (.int .i64 c2) = v := ⟨_, rfl⟩
  rw [hv2_2] at v2_Z2
  have v2_o2 : Only (b) u2 v2_2 := by rw [← hv2_2]; exact v2_o1.set 2 _
  have R_z := v2_Z2
  have B_z := Lib.hid (v2_o2.below B.out (by have := HBB.out; omega))
  have P_z := Lib.hid ((v2_o2.block (b + 1) (by have := HBB.out; omega)).trans P.out)
  have T_z := Lib.hid ((v2_o2.block (b + 1 + 1) (by have := HBB.out; omega)).trans T.out)
  have X_z := Lib.hid ((v2_o2.block (b + 1 + 1 + 1) (by have := HBB.out; omega)).trans X.out)
  have LB_z := Lib.hid (LB.out.only v2_o2 (by omega))
  clear v2_o0 v2_Z0 v2_o1 v2_Z1 v2_o2 v2_Z2
  clear B R P T X LB
  have B := B_z
  have R := R_z
  have P := P_z
  have T := T_z
  have X := X_z
  have LB := LB_z
  clear B_z R_z P_z T_z X_z LB_z
  have x2_c0 := box_cell X.out 1 rfl
  have x2_f0 := box_free X.out 1
  have x2_Z0 := Lib.hid (box_set X.out 1 (.slice LA n2 lc) (B := #[.string y1, .slice LA n2 lc, .slice none 0 0, .slice none 0 0, .int .i64 0, .int .i64 0, .int .i64 0]) rfl)
  obtain ⟨x2_0, hx2_0⟩ : ∃ v, v2_2.setCell ⟨b + 1 + 1 + 1, 1, none⟩ (.slice LA n2 lc) = v := ⟨_, rfl⟩
  rw [hx2_0] at x2_Z0
  have x2_o0 : Only (b + 1 + 1 + 1) v2_2 x2_0 := by rw [← hx2_0]; exact (Only.refl (b + 1 + 1 + 1) v2_2).set 1 _
  have X_z := x2_Z0
  have B_z := Lib.hid (x2_o0.below B.out (by have := HBB.out; omega))
  have R_z := Lib.hid ((x2_o0.block (b) (by have := HBB.out; omega)).trans R.out)
  have P_z := Lib.hid ((x2_o0.block (b + 1) (by have := HBB.out; omega)).trans P.out)
  have T_z := Lib.hid ((x2_o0.block (b + 1 + 1) (by have := HBB.out; omega)).trans T.out)
  have LB_z := Lib.hid (LB.out.only x2_o0 (by omega))
  clear x2_o0 x2_Z0
  clear B R P T X LB
  have B := B_z
  have R := R_z
  have P := P_z
  have T := T_z
  have X := X_z
  have LB := LB_z
  clear B_z R_z P_z T_z X_z LB_z
  have rr2_0 := box_cell R.out 0 rfl
  have rr2_1 := box_cell R.out 1 rfl
  have rr2_2 := box_cell R.out 2 rfl
  have BL3 := Lib.hid (show b + 4 ≤ x2_0.heap.size from by have := lt_of_block X.out; omega)
  go_wp2_with fail
  refine (takes_ref S HS.out 3 (by decide) (by decide) 3 (by decide) A2 c2 l2 H2.out y3 c3 l3 Q3.out _).mono ?_
  rintro e w3 ⟨A3, IA, n3, ic, rfl, h3, hn3, ho3, hb3⟩
  have H3 := Lib.hid h3
  clear h3
  have B_z := Lib.hid (B.out.trans (hb3.mono B.out.size))
  have R_z := Lib.hid ((hb3.block (b) (lt_of_block R.out)).trans R.out)
  have P_z := Lib.hid ((hb3.block (b + 1) (lt_of_block P.out)).trans P.out)
  have T_z := Lib.hid ((hb3.block (b + 1 + 1) (lt_of_block T.out)).trans T.out)
  have X_z := Lib.hid ((hb3.block (b + 1 + 1 + 1) (lt_of_block X.out)).trans X.out)
  have LB_z := Lib.hid (LB.out.below hb3)
  clear hb3
  clear B R P T X LB
  have B := B_z
  have R := R_z
  have P := P_z
  have T := T_z
  have X := X_z
  have LB := LB_z
  clear B_z R_z P_z T_z X_z LB_z
  have IU := Lib.hid (show CtIf c3 n3 (b + 4) w3 IA y3 from fun h0 => ⟨(ho3 h0).1, (ho3 h0).2.less BL3.out⟩)
  clear ho3 BL3
  obtain ⟨u3, hu3⟩ : ∃ v, w3.alloc (.cells #[.string S, .int .i64 A3, .int .i64 c3] 31) = v := ⟨_, rfl⟩
  have al : Below w3.heap.size w3 u3 := by rw [← hu3]; exact (Below.refl _ _).alloc (Nat.le_refl _) _
  have Q := Lib.hid (show u3.heap[w3.heap.size]? = some (.cells #[.string S, .int .i64 A3, .int .i64 c3] 31) by rw [← hu3]; exact heap_alloc_new _ _)
  have B_z := Lib.hid (B.out.trans (al.mono B.out.size))
  have R_z := Lib.hid ((al.block (b) (lt_of_block R.out)).trans R.out)
  have P_z := Lib.hid ((al.block (b + 1) (lt_of_block P.out)).trans P.out)
  have T_z := Lib.hid ((al.block (b + 1 + 1) (lt_of_block T.out)).trans T.out)
  have X_z := Lib.hid ((al.block (b + 1 + 1 + 1) (lt_of_block X.out)).trans X.out)
  have LB_z := Lib.hid (LB.out.below al)
  have IU_z := Lib.hid (IU.out.below al)
  clear al
  clear B R P T X LB IU
  have B := B_z
  have R := R_z
  have P := P_z
  have T := T_z
  have X := X_z
  have LB := LB_z
  have IU := IU_z
  clear B_z R_z P_z T_z X_z LB_z IU_z
  have gq3_0 := box_cell Q.out 0 rfl
  have gq3_1 := box_cell Q.out 1 rfl
  have gq3_2 := box_cell Q.out 2 rfl
  clear Q
  have v3_c0 := box_cell R.out 0 rfl
  have v3_f0 := box_free R.out 0
  have v3_Z0 := Lib.hid (box_set R.out 0 (.string S) (B := #[.string S, .int .i64 A2, .int .i64 c2]) rfl)
  obtain ⟨v3_0, hv3_0⟩ : ∃ v, u3.setCell ⟨b, 0, none⟩ (.string S) = v := ⟨_, rfl⟩
  rw [hv3_0] at v3_Z0
  have v3_o0 : Only (b) u3 v3_0 := by rw [← hv3_0]; exact (Only.refl (b) u3).set 0 _
  have v3_c1 := box_cell v3_Z0.out 1 rfl
  have v3_f1 := box_free v3_Z0.out 1
  have v3_Z1 := Lib.hid (box_set v3_Z0.out 1 (.int .i64 A3) (B := #[.string S, .int .i64 A3, .int .i64 c2]) rfl)
  obtain ⟨v3_1, hv3_1⟩ : ∃ v, v3_0.setCell ⟨b, 1, none⟩ (.int .i64 A3) = v := ⟨_, rfl⟩
  rw [hv3_1] at v3_Z1
  have v3_o1 : Only (b) u3 v3_1 := by rw [← hv3_1]; exact v3_o0.set 1 _
  have v3_c2 := box_cell v3_Z1.out 2 rfl
  have v3_f2 := box_free v3_Z1.out 2
  have v3_Z2 := Lib.hid (box_set v3_Z1.out 2 (.int .i64 c3) (B := #[.string S, .int .i64 A3, .int .i64 c3]) rfl)
  obtain ⟨v3_2, hv3_2⟩ : ∃ v, v3_1.setCell ⟨b, 2, none⟩ (.int .i64 c3) = v := ⟨_, rfl⟩
  rw [hv3_2] at v3_Z2
  have v3_o2 : Only (b) u3 v3_2 := by rw [← hv3_2]; exact v3_o1.set 2 _
  have R_z := v3_Z2
  have B_z := Lib.hid (v3_o2.below B.out (by have := HBB.out; omega))
  have P_z := Lib.hid ((v3_o2.block (b + 1) (by have := HBB.out; omega)).trans P.out)
  have T_z := Lib.hid ((v3_o2.block (b + 1 + 1) (by have := HBB.out; omega)).trans T.out)
  have X_z := Lib.hid ((v3_o2.block (b + 1 + 1 + 1) (by have := HBB.out; omega)).trans X.out)
  have LB_z := Lib.hid (LB.out.only v3_o2 (by omega))
  have IU_z := Lib.hid (IU.out.only v3_o2 (by omega))
  clear v3_o0 v3_Z0 v3_o1 v3_Z1 v3_o2 v3_Z2
  clear B R P T X LB IU
  have B := B_z
  have R := R_z
  have P := P_z
  have T := T_z
  have X := X_z
  have LB := LB_z
  have IU := IU_z
  clear B_z R_z P_z T_z X_z LB_z IU_z
  have x3_c0 := box_cell X.out 2 rfl
  have x3_f0 := box_free X.out 2
  have x3_Z0 := Lib.hid (box_set X.out 2 (.slice IA n3 ic) (B := #[.string y1, .slice LA n2 lc, .slice IA n3 ic, .slice none 0 0, .int .i64 0, .int .i64 0, .int .i64 0]) rfl)
  obtain ⟨x3_0, hx3_0⟩ : ∃ v, v3_2.setCell ⟨b + 1 + 1 + 1, 2, none⟩ (.slice IA n3 ic) = v := ⟨_, rfl⟩
  rw [hx3_0] at x3_Z0
  have x3_o0 : Only (b + 1 + 1 + 1) v3_2 x3_0 := by rw [← hx3_0]; exact (Only.refl (b + 1 + 1 + 1) v3_2).set 2 _
  have X_z := x3_Z0
  have B_z := Lib.hid (x3_o0.below B.out (by have := HBB.out; omega))
  have R_z := Lib.hid ((x3_o0.block (b) (by have := HBB.out; omega)).trans R.out)
  have P_z := Lib.hid ((x3_o0.block (b + 1) (by have := HBB.out; omega)).trans P.out)
  have T_z := Lib.hid ((x3_o0.block (b + 1 + 1) (by have := HBB.out; omega)).trans T.out)
  have LB_z := Lib.hid (LB.out.only x3_o0 (by omega))
  have IU_z := Lib.hid (IU.out.only x3_o0 (by omega))
  clear x3_o0 x3_Z0
  clear B R P T X LB IU
  have B := B_z
  have R := R_z
  have P := P_z
  have T := T_z
  have X := X_z
  have LB := LB_z
  have IU := IU_z
  clear B_z R_z P_z T_z X_z LB_z IU_z
  have rr3_0 := box_cell R.out 0 rfl
  have rr3_1 := box_cell R.out 1 rfl
  have rr3_2 := box_cell R.out 2 rfl
  have BL4 := Lib.hid (show b + 4 ≤ x3_0.heap.size from by have := lt_of_block X.out; omega)
  go_wp2_with fail
  refine (takes_ref S HS.out 4 (by decide) (by decide) 4 (by decide) A3 c3 l3 H3.out y4 c4 l4 Q4.out _).mono ?_
  rintro e w4 ⟨A4, MA, n4, mc, rfl, h4, hn4, ho4, hb4⟩
  have H4 := Lib.hid h4
  clear h4
  have B_z := Lib.hid (B.out.trans (hb4.mono B.out.size))
  have R_z := Lib.hid ((hb4.block (b) (lt_of_block R.out)).trans R.out)
  have P_z := Lib.hid ((hb4.block (b + 1) (lt_of_block P.out)).trans P.out)
  have T_z := Lib.hid ((hb4.block (b + 1 + 1) (lt_of_block T.out)).trans T.out)
  have X_z := Lib.hid ((hb4.block (b + 1 + 1 + 1) (lt_of_block X.out)).trans X.out)
  have LB_z := Lib.hid (LB.out.below hb4)
  have IU_z := Lib.hid (IU.out.below hb4)
  clear hb4
  clear B R P T X LB IU
  have B := B_z
  have R := R_z
  have P := P_z
  have T := T_z
  have X := X_z
  have LB := LB_z
  have IU := IU_z
  clear B_z R_z P_z T_z X_z LB_z IU_z
  have MU := Lib.hid (show CtIf c4 n4 (b + 4) w4 MA y4 from fun h0 => ⟨(ho4 h0).1, (ho4 h0).2.less BL4.out⟩)
  clear ho4 BL4
  obtain ⟨u4, hu4⟩ : ∃ v, w4.alloc (.cells #[.string S, .int .i64 A4, .int .i64 c4] 31) = v := ⟨_, rfl⟩
  have al : Below w4.heap.size w4 u4 := by rw [← hu4]; exact (Below.refl _ _).alloc (Nat.le_refl _) _
  have Q := Lib.hid (show u4.heap[w4.heap.size]? = some (.cells #[.string S, .int .i64 A4, .int .i64 c4] 31) by rw [← hu4]; exact heap_alloc_new _ _)
  have B_z := Lib.hid (B.out.trans (al.mono B.out.size))
  have R_z := Lib.hid ((al.block (b) (lt_of_block R.out)).trans R.out)
  have P_z := Lib.hid ((al.block (b + 1) (lt_of_block P.out)).trans P.out)
  have T_z := Lib.hid ((al.block (b + 1 + 1) (lt_of_block T.out)).trans T.out)
  have X_z := Lib.hid ((al.block (b + 1 + 1 + 1) (lt_of_block X.out)).trans X.out)
  have LB_z := Lib.hid (LB.out.below al)
  have IU_z := Lib.hid (IU.out.below al)
  have MU_z := Lib.hid (MU.out.below al)
  clear al
  clear B R P T X LB IU MU
  have B := B_z
  have R := R_z
  have P := P_z
  have T := T_z
  have X := X_z
  have LB := LB_z
  have IU := IU_z
  have MU := MU_z
  clear B_z R_z P_z T_z X_z LB_z IU_z MU_z
  have gq4_0 := box_cell Q.out 0 rfl
  have gq4_1 := box_cell Q.out 1 rfl
  have gq4_2 := box_cell Q.out 2 rfl
  clear Q
  have v4_c0 := box_cell R.out 0 rfl
  have v4_f0 := box_free R.out 0
  have v4_Z0 := Lib.hid (box_set R.out 0 (.string S) (B := #[.string S, .int .i64 A3, .int .i64 c3]) rfl)
  obtain ⟨v4_0, hv4_0⟩ : ∃ v, u4.setCell ⟨b, 0, none⟩ (.string S) = v := ⟨_, rfl⟩
  rw [hv4_0] at v4_Z0
  have v4_o0 : Only (b) u4 v4_0 := by rw [← hv4_0]; exact (Only.refl (b) u4).set 0 _
  have v4_c1 := box_cell v4_Z0.out 1 rfl
  have v4_f1 := box_free v4_Z0.out 1
  have v4_Z1 := Lib.hid (box_set v4_Z0.out 1 (.int .i64 A4) (B := #[.string S, .int .i64 A4, .int .i64 c3]) rfl)
  obtain ⟨v4_1, hv4_1⟩ : ∃ v, v4_0.setCell ⟨b, 1, none⟩ (.int .i64 A4) = v := ⟨_, rfl⟩
  rw [hv4_1] at v4_Z1
  have v4_o1 : Only (b) u4 v4_1 := by rw [← hv4_1]; exact v4_o0.set 1 _
  have v4_c2 := box_cell v4_Z1.out 2 rfl
  have v4_f2 := box_free v4_Z1.out 2
  have v4_Z2 := Lib.hid (box_set v4_Z1.out 2 (.int .i64 c4) (B := #[.string S, .int .i64 A4, .int .i64 c4]) rfl)
  obtain ⟨v4_2, hv4_2⟩ : ∃ v, v4_1.setCell ⟨b, 2, none⟩ (.int .i64 c4) = v := ⟨_, rfl⟩
  rw [hv4_2] at v4_Z2
  have v4_o2 : Only (b) u4 v4_2 := by rw [← hv4_2]; exact v4_o1.set 2 _
  have R_z := v4_Z2
  have B_z := Lib.hid (v4_o2.below B.out (by have := HBB.out; omega))
  have P_z := Lib.hid ((v4_o2.block (b + 1) (by have := HBB.out; omega)).trans P.out)
  have T_z := Lib.hid ((v4_o2.block (b + 1 + 1) (by have := HBB.out; omega)).trans T.out)
  have X_z := Lib.hid ((v4_o2.block (b + 1 + 1 + 1) (by have := HBB.out; omega)).trans X.out)
  have LB_z := Lib.hid (LB.out.only v4_o2 (by omega))
  have IU_z := Lib.hid (IU.out.only v4_o2 (by omega))
  have MU_z := Lib.hid (MU.out.only v4_o2 (by omega))
  clear v4_o0 v4_Z0 v4_o1 v4_Z1 v4_o2 v4_Z2
  clear B R P T X LB IU MU
  have B := B_z
  have R := R_z
  have P := P_z
  have T := T_z
  have X := X_z
  have LB := LB_z
  have IU := IU_z
  have MU := MU_z
  clear B_z R_z P_z T_z X_z LB_z IU_z MU_z
  have x4_c0 := box_cell X.out 3 rfl
  have x4_f0 := box_free X.out 3
  have x4_Z0 := Lib.hid (box_set X.out 3 (.slice MA n4 mc) (B := #[.string y1, .slice LA n2 lc, .slice IA n3 ic, .slice MA n4 mc, .int .i64 0, .int .i64 0, .int .i64 0]) rfl)
  obtain ⟨x4_0, hx4_0⟩ : ∃ v, v4_2.setCell ⟨b + 1 + 1 + 1, 3, none⟩ (.slice MA n4 mc) = v := ⟨_, rfl⟩
  rw [hx4_0] at x4_Z0
  have x4_o0 : Only (b + 1 + 1 + 1) v4_2 x4_0 := by rw [← hx4_0]; exact (Only.refl (b + 1 + 1 + 1) v4_2).set 3 _
  have X_z := x4_Z0
  have B_z := Lib.hid (x4_o0.below B.out (by have := HBB.out; omega))
  have R_z := Lib.hid ((x4_o0.block (b) (by have := HBB.out; omega)).trans R.out)
  have P_z := Lib.hid ((x4_o0.block (b + 1) (by have := HBB.out; omega)).trans P.out)
  have T_z := Lib.hid ((x4_o0.block (b + 1 + 1) (by have := HBB.out; omega)).trans T.out)
  have LB_z := Lib.hid (LB.out.only x4_o0 (by omega))
  have IU_z := Lib.hid (IU.out.only x4_o0 (by omega))
  have MU_z := Lib.hid (MU.out.only x4_o0 (by omega))
  clear x4_o0 x4_Z0
  clear B R P T X LB IU MU
  have B := B_z
  have R := R_z
  have P := P_z
  have T := T_z
  have X := X_z
  have LB := LB_z
  have IU := IU_z
  have MU := MU_z
  clear B_z R_z P_z T_z X_z LB_z IU_z MU_z
  have rr4_0 := box_cell R.out 0 rfl
  have rr4_1 := box_cell R.out 1 rfl
  have rr4_2 := box_cell R.out 2 rfl
  go_wp2_with fail
  refine (num_ref S HS.out 3 (by decide) 3 (by decide) (by decide) A4 c4 l4 H4.out y5 c5 l5 Q5.out _).mono ?_
  rintro e w5 ⟨A5, rfl, h5, hb5⟩
  have H5 := Lib.hid h5
  clear h5
  have B_z := Lib.hid (B.out.trans (hb5.mono B.out.size))
  have R_z := Lib.hid ((hb5.block (b) (lt_of_block R.out)).trans R.out)
  have P_z := Lib.hid ((hb5.block (b + 1) (lt_of_block P.out)).trans P.out)
  have T_z := Lib.hid ((hb5.block (b + 1 + 1) (lt_of_block T.out)).trans T.out)
  have X_z := Lib.hid ((hb5.block (b + 1 + 1 + 1) (lt_of_block X.out)).trans X.out)
  have LB_z := Lib.hid (LB.out.below hb5)
  have IU_z := Lib.hid (IU.out.below hb5)
  have MU_z := Lib.hid (MU.out.below hb5)
  clear hb5
  clear B R P T X LB IU MU
  have B := B_z
  have R := R_z
  have P := P_z
  have T := T_z
  have X := X_z
  have LB := LB_z
  have IU := IU_z
  have MU := MU_z
  clear B_z R_z P_z T_z X_z LB_z IU_z MU_z
  obtain ⟨u5, hu5⟩ : ∃ v, w5.alloc (.cells #[.string S, .int .i64 A5, .int .i64 c5] 31) = v := ⟨_, rfl⟩
  have al : Below w5.heap.size w5 u5 := by rw [← hu5]; exact (Below.refl _ _).alloc (Nat.le_refl _) _
  have Q := Lib.hid (show u5.heap[w5.heap.size]? = some (.cells #[.string S, .int .i64 A5, .int .i64 c5] 31) by rw [← hu5]; exact heap_alloc_new _ _)
  have B_z := Lib.hid (B.out.trans (al.mono B.out.size))
  have R_z := Lib.hid ((al.block (b) (lt_of_block R.out)).trans R.out)
  have P_z := Lib.hid ((al.block (b + 1) (lt_of_block P.out)).trans P.out)
  have T_z := Lib.hid ((al.block (b + 1 + 1) (lt_of_block T.out)).trans T.out)
  have X_z := Lib.hid ((al.block (b + 1 + 1 + 1) (lt_of_block X.out)).trans X.out)
  have LB_z := Lib.hid (LB.out.below al)
  have IU_z := Lib.hid (IU.out.below al)
  have MU_z := Lib.hid (MU.out.below al)
  clear al
  clear B R P T X LB IU MU
  have B := B_z
  have R := R_z
  have P := P_z
  have T := T_z
  have X := X_z
  have LB := LB_z
  have IU := IU_z
  have MU := MU_z
  clear B_z R_z P_z T_z X_z LB_z IU_z MU_z
  have gq5_0 := box_cell Q.out 0 rfl
  have gq5_1 := box_cell Q.out 1 rfl
  have gq5_2 := box_cell Q.out 2 rfl
  clear Q
  have v5_c0 := box_cell R.out 0 rfl
  have v5_f0 := box_free R.out 0
  have v5_Z0 := Lib.hid (box_set R.out 0 (.string S) (B := #[.string S, .int .i64 A4, .int .i64 c4]) rfl)
  obtain ⟨v5_0, hv5_0⟩ : ∃ v, u5.setCell ⟨b, 0, none⟩ (.string S) = v := ⟨_, rfl⟩
  rw [hv5_0] at v5_Z0
  have v5_o0 : Only (b) u5 v5_0 := by rw [← hv5_0]; exact (Only.refl (b) u5).set 0 _
  have v5_c1 := box_cell v5_Z0.out 1 rfl
  have v5_f1 := box_free v5_Z0.out 1
  have v5_Z1 := Lib.hid (box_set v5_Z0.out 1 (.int .i64 A5) (B := #[.string S, .int .i64 A5, .int .i64 c4]) rfl)
  obtain ⟨v5_1, hv5_1⟩ : ∃ v, v5_0.setCell ⟨b, 1, none⟩ (.int .i64 A5) = v := ⟨_, rfl⟩
  rw [hv5_1] at v5_Z1
  have v5_o1 : Only (b) u5 v5_1 := by rw [← hv5_1]; exact v5_o0.set 1 _
  have v5_c2 := box_cell v5_Z1.out 2 rfl
  have v5_f2 := box_free v5_Z1.out 2
  have v5_Z2 := Lib.hid (box_set v5_Z1.out 2 (.int .i64 c5) (B := #[.string S, .int .i64 A5, .int .i64 c5]) rfl)
  obtain ⟨v5_2, hv5_2⟩ : ∃ v, v5_1.setCell ⟨b, 2, none⟩ (.int .i64 c5) = v := ⟨_, rfl⟩
  rw [hv5_2] at v5_Z2
  have v5_o2 : Only (b) u5 v5_2 := by rw [← hv5_2]; exact v5_o1.set 2 _
  have R_z := v5_Z2
  have B_z := Lib.hid (v5_o2.below B.out (by have := HBB.out; omega))
  have P_z := Lib.hid ((v5_o2.block (b + 1) (by have := HBB.out; omega)).trans P.out)
  have T_z := Lib.hid ((v5_o2.block (b + 1 + 1) (by have := HBB.out; omega)).trans T.out)
  have X_z := Lib.hid ((v5_o2.block (b + 1 + 1 + 1) (by have := HBB.out; omega)).trans X.out)
  have LB_z := Lib.hid (LB.out.only v5_o2 (by omega))
  have IU_z := Lib.hid (IU.out.only v5_o2 (by omega))
  have MU_z := Lib.hid (MU.out.only v5_o2 (by omega))
  clear v5_o0 v5_Z0 v5_o1 v5_Z1 v5_o2 v5_Z2
  clear B R P T X LB IU MU
  have B := B_z
  have R := R_z
  have P := P_z
  have T := T_z
  have X := X_z
  have LB := LB_z
  have IU := IU_z
  have MU := MU_z
  clear B_z R_z P_z T_z X_z LB_z IU_z MU_z
  have x5_c0 := box_cell X.out 4 rfl
  have x5_f0 := box_free X.out 4
  have x5_Z0 := Lib.hid (box_set X.out 4 (.int .i64 y5) (B := #[.string y1, .slice LA n2 lc, .slice IA n3 ic, .slice MA n4 mc, .int .i64 y5, .int .i64 0, .int .i64 0]) rfl)
  obtain ⟨x5_0, hx5_0⟩ : ∃ v, v5_2.setCell ⟨b + 1 + 1 + 1, 4, none⟩ (.int .i64 y5) = v := ⟨_, rfl⟩
  rw [hx5_0] at x5_Z0
  have x5_o0 : Only (b + 1 + 1 + 1) v5_2 x5_0 := by rw [← hx5_0]; exact (Only.refl (b + 1 + 1 + 1) v5_2).set 4 _
  have X_z := x5_Z0
  have B_z := Lib.hid (x5_o0.below B.out (by have := HBB.out; omega))
  have R_z := Lib.hid ((x5_o0.block (b) (by have := HBB.out; omega)).trans R.out)
  have P_z := Lib.hid ((x5_o0.block (b + 1) (by have := HBB.out; omega)).trans P.out)
  have T_z := Lib.hid ((x5_o0.block (b + 1 + 1) (by have := HBB.out; omega)).trans T.out)
  have LB_z := Lib.hid (LB.out.only x5_o0 (by omega))
  have IU_z := Lib.hid (IU.out.only x5_o0 (by omega))
  have MU_z := Lib.hid (MU.out.only x5_o0 (by omega))
  clear x5_o0 x5_Z0
  clear B R P T X LB IU MU
  have B := B_z
  have R := R_z
  have P := P_z
  have T := T_z
  have X := X_z
  have LB := LB_z
  have IU := IU_z
  have MU := MU_z
  clear B_z R_z P_z T_z X_z LB_z IU_z MU_z
  have rr5_0 := box_cell R.out 0 rfl
  have rr5_1 := box_cell R.out 1 rfl
  have rr5_2 := box_cell R.out 2 rfl
  go_wp2_with fail
  refine (num_ref S HS.out 1000 (by decide) 1000 (by decide) (by decide) A5 c5 l5 H5.out y6 c6 l6 Q6.out _).mono ?_
  rintro e w6 ⟨A6, rfl, h6, hb6⟩
  have H6 := Lib.hid h6
  clear h6
  have B_z := Lib.hid (B.out.trans (hb6.mono B.out.size))
  have R_z := Lib.hid ((hb6.block (b) (lt_of_block R.out)).trans R.out)
  have P_z := Lib.hid ((hb6.block (b + 1) (lt_of_block P.out)).trans P.out)
  have T_z := Lib.hid ((hb6.block (b + 1 + 1) (lt_of_block T.out)).trans T.out)
  have X_z := Lib.hid ((hb6.block (b + 1 + 1 + 1) (lt_of_block X.out)).trans X.out)
  have LB_z := Lib.hid (LB.out.below hb6)
  have IU_z := Lib.hid (IU.out.below hb6)
  have MU_z := Lib.hid (MU.out.below hb6)
  clear hb6
  clear B R P T X LB IU MU
  have B := B_z
  have R := R_z
  have P := P_z
  have T := T_z
  have X := X_z
  have LB := LB_z
  have IU := IU_z
  have MU := MU_z
  clear B_z R_z P_z T_z X_z LB_z IU_z MU_z
  obtain ⟨u6, hu6⟩ : ∃ v, w6.alloc (.cells #[.string S, .int .i64 A6, .int .i64 c6] 31) = v := ⟨_, rfl⟩
  have al : Below w6.heap.size w6 u6 := by rw [← hu6]; exact (Below.refl _ _).alloc (Nat.le_refl _) _
  have Q := Lib.hid (show u6.heap[w6.heap.size]? = some (.cells #[.string S, .int .i64 A6, .int .i64 c6] 31) by rw [← hu6]; exact heap_alloc_new _ _)
  have B_z := Lib.hid (B.out.trans (al.mono B.out.size))
  have R_z := Lib.hid ((al.block (b) (lt_of_block R.out)).trans R.out)
  have P_z := Lib.hid ((al.block (b + 1) (lt_of_block P.out)).trans P.out)
  have T_z := Lib.hid ((al.block (b + 1 + 1) (lt_of_block T.out)).trans T.out)
  have X_z := Lib.hid ((al.block (b + 1 + 1 + 1) (lt_of_block X.out)).trans X.out)
  have LB_z := Lib.hid (LB.out.below al)
  have IU_z := Lib.hid (IU.out.below al)
  have MU_z := Lib.hid (MU.out.below al)
  clear al
  clear B R P T X LB IU MU
  have B := B_z
  have R := R_z
  have P := P_z
  have T := T_z
  have X := X_z
  have LB := LB_z
  have IU := IU_z
  have MU := MU_z
  clear B_z R_z P_z T_z X_z LB_z IU_z MU_z
  have gq6_0 := box_cell Q.out 0 rfl
  have gq6_1 := box_cell Q.out 1 rfl
  have gq6_2 := box_cell Q.out 2 rfl
  clear Q
  have v6_c0 := box_cell R.out 0 rfl
  have v6_f0 := box_free R.out 0
  have v6_Z0 := Lib.hid (box_set R.out 0 (.string S) (B := #[.string S, .int .i64 A5, .int .i64 c5]) rfl)
  obtain ⟨v6_0, hv6_0⟩ : ∃ v, u6.setCell ⟨b, 0, none⟩ (.string S) = v := ⟨_, rfl⟩
  rw [hv6_0] at v6_Z0
  have v6_o0 : Only (b) u6 v6_0 := by rw [← hv6_0]; exact (Only.refl (b) u6).set 0 _
  have v6_c1 := box_cell v6_Z0.out 1 rfl
  have v6_f1 := box_free v6_Z0.out 1
  have v6_Z1 := Lib.hid (box_set v6_Z0.out 1 (.int .i64 A6) (B := #[.string S, .int .i64 A6, .int .i64 c5]) rfl)
  obtain ⟨v6_1, hv6_1⟩ : ∃ v, v6_0.setCell ⟨b, 1, none⟩ (.int .i64 A6) = v := ⟨_, rfl⟩
  rw [hv6_1] at v6_Z1
  have v6_o1 : Only (b) u6 v6_1 := by rw [← hv6_1]; exact v6_o0.set 1 _
  have v6_c2 := box_cell v6_Z1.out 2 rfl
  have v6_f2 := box_free v6_Z1.out 2
  have v6_Z2 := Lib.hid (box_set v6_Z1.out 2 (.int .i64 c6) (B := #[.string S, .int .i64 A6, .int .i64 c6]) rfl)
  obtain ⟨v6_2, hv6_2⟩ : ∃ v, v6_1.setCell ⟨b, 2, none⟩ (.int .i64 c6) = v := ⟨_, rfl⟩
  rw [hv6_2] at v6_Z2
  have v6_o2 : Only (b) u6 v6_2 := by rw [← hv6_2]; exact v6_o1.set 2 _
  have R_z := v6_Z2
  have B_z := Lib.hid (v6_o2.below B.out (by have := HBB.out; omega))
  have P_z := Lib.hid ((v6_o2.block (b + 1) (by have := HBB.out; omega)).trans P.out)
  have T_z := Lib.hid ((v6_o2.block (b + 1 + 1) (by have := HBB.out; omega)).trans T.out)
  have X_z := Lib.hid ((v6_o2.block (b + 1 + 1 + 1) (by have := HBB.out; omega)).trans X.out)
  have LB_z := Lib.hid (LB.out.only v6_o2 (by omega))
  have IU_z := Lib.hid (IU.out.only v6_o2 (by omega))
  have MU_z := Lib.hid (MU.out.only v6_o2 (by omega))
  clear v6_o0 v6_Z0 v6_o1 v6_Z1 v6_o2 v6_Z2
  clear B R P T X LB IU MU
  have B := B_z
  have R := R_z
  have P := P_z
  have T := T_z
  have X := X_z
  have LB := LB_z
  have IU := IU_z
  have MU := MU_z
  clear B_z R_z P_z T_z X_z LB_z IU_z MU_z
  have x6_c0 := box_cell X.out 5 rfl
  have x6_f0 := box_free X.out 5
  have x6_Z0 := Lib.hid (box_set X.out 5 (.int .i64 y6) (B := #[.string y1, .slice LA n2 lc, .slice IA n3 ic, .slice MA n4 mc, .int .i64 y5, .int .i64 y6, .int .i64 0]) rfl)
  obtain ⟨x6_0, hx6_0⟩ : ∃ v, v6_2.setCell ⟨b + 1 + 1 + 1, 5, none⟩ (.int .i64 y6) = v := ⟨_, rfl⟩
  rw [hx6_0] at x6_Z0
  have x6_o0 : Only (b + 1 + 1 + 1) v6_2 x6_0 := by rw [← hx6_0]; exact (Only.refl (b + 1 + 1 + 1) v6_2).set 5 _
  have X_z := x6_Z0
  have B_z := Lib.hid (x6_o0.below B.out (by have := HBB.out; omega))
  have R_z := Lib.hid ((x6_o0.block (b) (by have := HBB.out; omega)).trans R.out)
  have P_z := Lib.hid ((x6_o0.block (b + 1) (by have := HBB.out; omega)).trans P.out)
  have T_z := Lib.hid ((x6_o0.block (b + 1 + 1) (by have := HBB.out; omega)).trans T.out)
  have LB_z := Lib.hid (LB.out.only x6_o0 (by omega))
  have IU_z := Lib.hid (IU.out.only x6_o0 (by omega))
  have MU_z := Lib.hid (MU.out.only x6_o0 (by omega))
  clear x6_o0 x6_Z0
  clear B R P T X LB IU MU
  have B := B_z
  have R := R_z
  have P := P_z
  have T := T_z
  have X := X_z
  have LB := LB_z
  have IU := IU_z
  have MU := MU_z
  clear B_z R_z P_z T_z X_z LB_z IU_z MU_z
  have rr6_0 := box_cell R.out 0 rfl
  have rr6_1 := box_cell R.out 1 rfl
  have rr6_2 := box_cell R.out 2 rfl
  go_wp2_with fail
  refine (num_ref S HS.out 10 (by decide) 10 (by decide) (by decide) A6 c6 l6 H6.out y7 c7 l7 Q7.out _).mono ?_
  rintro e w7 ⟨A7, rfl, h7, hb7⟩
  have H7 := Lib.hid h7
  clear h7
  have B_z := Lib.hid (B.out.trans (hb7.mono B.out.size))
  have R_z := Lib.hid ((hb7.block (b) (lt_of_block R.out)).trans R.out)
  have P_z := Lib.hid ((hb7.block (b + 1) (lt_of_block P.out)).trans P.out)
  have T_z := Lib.hid ((hb7.block (b + 1 + 1) (lt_of_block T.out)).trans T.out)
  have X_z := Lib.hid ((hb7.block (b + 1 + 1 + 1) (lt_of_block X.out)).trans X.out)
  have LB_z := Lib.hid (LB.out.below hb7)
  have IU_z := Lib.hid (IU.out.below hb7)
  have MU_z := Lib.hid (MU.out.below hb7)
  clear hb7
  clear B R P T X LB IU MU
  have B := B_z
  have R := R_z
  have P := P_z
  have T := T_z
  have X := X_z
  have LB := LB_z
  have IU := IU_z
  have MU := MU_z
  clear B_z R_z P_z T_z X_z LB_z IU_z MU_z
  obtain ⟨u7, hu7⟩ : ∃ v, w7.alloc (.cells #[.string S, .int .i64 A7, .int .i64 c7] 31) = v := ⟨_, rfl⟩
  have al : Below w7.heap.size w7 u7 := by rw [← hu7]; exact (Below.refl _ _).alloc (Nat.le_refl _) _
  have Q := Lib.hid (show u7.heap[w7.heap.size]? = some (.cells #[.string S, .int .i64 A7, .int .i64 c7] 31) by rw [← hu7]; exact heap_alloc_new _ _)
  have B_z := Lib.hid (B.out.trans (al.mono B.out.size))
  have R_z := Lib.hid ((al.block (b) (lt_of_block R.out)).trans R.out)
  have P_z := Lib.hid ((al.block (b + 1) (lt_of_block P.out)).trans P.out)
  have T_z := Lib.hid ((al.block (b + 1 + 1) (lt_of_block T.out)).trans T.out)
  have X_z := Lib.hid ((al.block (b + 1 + 1 + 1) (lt_of_block X.out)).trans X.out)
  have LB_z := Lib.hid (LB.out.below al)
  have IU_z := Lib.hid (IU.out.below al)
  have MU_z := Lib.hid (MU.out.below al)
  clear al
  clear B R P T X LB IU MU
  have B := B_z
  have R := R_z
  have P := P_z
  have T := T_z
  have X := X_z
  have LB := LB_z
  have IU := IU_z
  have MU := MU_z
  clear B_z R_z P_z T_z X_z LB_z IU_z MU_z
  have gq7_0 := box_cell Q.out 0 rfl
  have gq7_1 := box_cell Q.out 1 rfl
  have gq7_2 := box_cell Q.out 2 rfl
  clear Q
  have v7_c0 := box_cell R.out 0 rfl
  have v7_f0 := box_free R.out 0
  have v7_Z0 := Lib.hid (box_set R.out 0 (.string S) (B := #[.string S, .int .i64 A6, .int .i64 c6]) rfl)
  obtain ⟨v7_0, hv7_0⟩ : ∃ v, u7.setCell ⟨b, 0, none⟩ (.string S) = v := ⟨_, rfl⟩
  rw [hv7_0] at v7_Z0
  have v7_o0 : Only (b) u7 v7_0 := by rw [← hv7_0]; exact (Only.refl (b) u7).set 0 _
  have v7_c1 := box_cell v7_Z0.out 1 rfl
  have v7_f1 := box_free v7_Z0.out 1
  have v7_Z1 := Lib.hid (box_set v7_Z0.out 1 (.int .i64 A7) (B := #[.string S, .int .i64 A7, .int .i64 c6]) rfl)
  obtain ⟨v7_1, hv7_1⟩ : ∃ v, v7_0.setCell ⟨b, 1, none⟩ (.int .i64 A7) = v := ⟨_, rfl⟩
  rw [hv7_1] at v7_Z1
  have v7_o1 : Only (b) u7 v7_1 := by rw [← hv7_1]; exact v7_o0.set 1 _
  have v7_c2 := box_cell v7_Z1.out 2 rfl
  have v7_f2 := box_free v7_Z1.out 2
  have v7_Z2 := Lib.hid (box_set v7_Z1.out 2 (.int .i64 c7) (B := #[.string S, .int .i64 A7, .int .i64 c7]) rfl)
  obtain ⟨v7_2, hv7_2⟩ : ∃ v, v7_1.setCell ⟨b, 2, none⟩ (.int .i64 c7) = v := ⟨_, rfl⟩
  rw [hv7_2] at v7_Z2
  have v7_o2 : Only (b) u7 v7_2 := by rw [← hv7_2]; exact v7_o1.set 2 _
  have R_z := v7_Z2
  have B_z := Lib.hid (v7_o2.below B.out (by have := HBB.out; omega))
  have P_z := Lib.hid ((v7_o2.block (b + 1) (by have := HBB.out; omega)).trans P.out)
  have T_z := Lib.hid ((v7_o2.block (b + 1 + 1) (by have := HBB.out; omega)).trans T.out)
  have X_z := Lib.hid ((v7_o2.block (b + 1 + 1 + 1) (by have := HBB.out; omega)).trans X.out)
  have LB_z := Lib.hid (LB.out.only v7_o2 (by omega))
  have IU_z := Lib.hid (IU.out.only v7_o2 (by omega))
  have MU_z := Lib.hid (MU.out.only v7_o2 (by omega))
  clear v7_o0 v7_Z0 v7_o1 v7_Z1 v7_o2 v7_Z2
  clear B R P T X LB IU MU
  have B := B_z
  have R := R_z
  have P := P_z
  have T := T_z
  have X := X_z
  have LB := LB_z
  have IU := IU_z
  have MU := MU_z
  clear B_z R_z P_z T_z X_z LB_z IU_z MU_z
  have x7_c0 := box_cell X.out 6 rfl
  have x7_f0 := box_free X.out 6
  have x7_Z0 := Lib.hid (box_set X.out 6 (.int .i64 y7) (B := #[.string y1, .slice LA n2 lc, .slice IA n3 ic, .slice MA n4 mc, .int .i64 y5, .int .i64 y6, .int .i64 y7]) rfl)
  obtain ⟨x7_0, hx7_0⟩ : ∃ v, v7_2.setCell ⟨b + 1 + 1 + 1, 6, none⟩ (.int .i64 y7) = v := ⟨_, rfl⟩
  rw [hx7_0] at x7_Z0
  have x7_o0 : Only (b + 1 + 1 + 1) v7_2 x7_0 := by rw [← hx7_0]; exact (Only.refl (b + 1 + 1 + 1) v7_2).set 6 _
  have X_z := x7_Z0
  have B_z := Lib.hid (x7_o0.below B.out (by have := HBB.out; omega))
  have R_z := Lib.hid ((x7_o0.block (b) (by have := HBB.out; omega)).trans R.out)
  have P_z := Lib.hid ((x7_o0.block (b + 1) (by have := HBB.out; omega)).trans P.out)
  have T_z := Lib.hid ((x7_o0.block (b + 1 + 1) (by have := HBB.out; omega)).trans T.out)
  have LB_z := Lib.hid (LB.out.only x7_o0 (by omega))
  have IU_z := Lib.hid (IU.out.only x7_o0 (by omega))
  have MU_z := Lib.hid (MU.out.only x7_o0 (by omega))
  clear x7_o0 x7_Z0
  clear B R P T X LB IU MU
  have B := B_z
  have R := R_z
  have P := P_z
  have T := T_z
  have X := X_z
  have LB := LB_z
  have IU := IU_z
  have MU := MU_z
  clear B_z R_z P_z T_z X_z LB_z IU_z MU_z
  have rr7_0 := box_cell R.out 0 rfl
  have rr7_1 := box_cell R.out 1 rfl
  have rr7_2 := box_cell R.out 2 rfl
  have xx0 := box_cell X.out 0 rfl
  have xx1 := box_cell X.out 1 rfl
  have xx2 := box_cell X.out 2 rfl
  have xx3 := box_cell X.out 3 rfl
  have xx4 := box_cell X.out 4 rfl
  have xx5 := box_cell X.out 5 rfl
  have xx6 := box_cell X.out 6 rfl
  have zc0 := box_cell P.out 0 rfl
  have zf0 := box_free P.out 0
  have zZ0 := Lib.hid (box_set P.out 0 (.string S) (B := #[.string S, .int .i64 0, .int .i64 0]) rfl)
  obtain ⟨z0, hz0⟩ : ∃ v, x7_0.setCell ⟨b + 1, 0, none⟩ (.string S) = v := ⟨_, rfl⟩
  rw [hz0] at zZ0
  have zo0 : Only (b + 1) x7_0 z0 := by rw [← hz0]; exact (Only.refl (b + 1) x7_0).set 0 _
  have zX0_0 := box_cell ((zo0.block (b + 1 + 1 + 1) (by have := HBB.out; omega)).trans X.out) 0 rfl
  have zX0_1 := box_cell ((zo0.block (b + 1 + 1 + 1) (by have := HBB.out; omega)).trans X.out) 1 rfl
  have zX0_2 := box_cell ((zo0.block (b + 1 + 1 + 1) (by have := HBB.out; omega)).trans X.out) 2 rfl
  have zX0_3 := box_cell ((zo0.block (b + 1 + 1 + 1) (by have := HBB.out; omega)).trans X.out) 3 rfl
  have zX0_4 := box_cell ((zo0.block (b + 1 + 1 + 1) (by have := HBB.out; omega)).trans X.out) 4 rfl
  have zX0_5 := box_cell ((zo0.block (b + 1 + 1 + 1) (by have := HBB.out; omega)).trans X.out) 5 rfl
  have zX0_6 := box_cell ((zo0.block (b + 1 + 1 + 1) (by have := HBB.out; omega)).trans X.out) 6 rfl
  have zc1 := box_cell zZ0.out 1 rfl
  have zf1 := box_free zZ0.out 1
  have zZ1 := Lib.hid (box_set zZ0.out 1 (.int .i64 A7) (B := #[.string S, .int .i64 A7, .int .i64 0]) rfl)
  obtain ⟨z1, hz1⟩ : ∃ v, z0.setCell ⟨b + 1, 1, none⟩ (.int .i64 A7) = v := ⟨_, rfl⟩
  rw [hz1] at zZ1
  have zo1 : Only (b + 1) x7_0 z1 := by rw [← hz1]; exact zo0.set 1 _
  have zX1_0 := box_cell ((zo1.block (b + 1 + 1 + 1) (by have := HBB.out; omega)).trans X.out) 0 rfl
  have zX1_1 := box_cell ((zo1.block (b + 1 + 1 + 1) (by have := HBB.out; omega)).trans X.out) 1 rfl
  have zX1_2 := box_cell ((zo1.block (b + 1 + 1 + 1) (by have := HBB.out; omega)).trans X.out) 2 rfl
  have zX1_3 := box_cell ((zo1.block (b + 1 + 1 + 1) (by have := HBB.out; omega)).trans X.out) 3 rfl
  have zX1_4 := box_cell ((zo1.block (b + 1 + 1 + 1) (by have := HBB.out; omega)).trans X.out) 4 rfl
  have zX1_5 := box_cell ((zo1.block (b + 1 + 1 + 1) (by have := HBB.out; omega)).trans X.out) 5 rfl
  have zX1_6 := box_cell ((zo1.block (b + 1 + 1 + 1) (by have := HBB.out; omega)).trans X.out) 6 rfl
  have zc2 := box_cell zZ1.out 2 rfl
  have zf2 := box_free zZ1.out 2
  have zZ2 := Lib.hid (box_set zZ1.out 2 (.int .i64 c7) (B := #[.string S, .int .i64 A7, .int .i64 c7]) rfl)
  obtain ⟨z2, hz2⟩ : ∃ v, z1.setCell ⟨b + 1, 2, none⟩ (.int .i64 c7) = v := ⟨_, rfl⟩
  rw [hz2] at zZ2
  have zo2 : Only (b + 1) x7_0 z2 := by rw [← hz2]; exact zo1.set 2 _
  have zX2_0 := box_cell ((zo2.block (b + 1 + 1 + 1) (by have := HBB.out; omega)).trans X.out) 0 rfl
  have zX2_1 := box_cell ((zo2.block (b + 1 + 1 + 1) (by have := HBB.out; omega)).trans X.out) 1 rfl
  have zX2_2 := box_cell ((zo2.block (b + 1 + 1 + 1) (by have := HBB.out; omega)).trans X.out) 2 rfl
  have zX2_3 := box_cell ((zo2.block (b + 1 + 1 + 1) (by have := HBB.out; omega)).trans X.out) 3 rfl
  have zX2_4 := box_cell ((zo2.block (b + 1 + 1 + 1) (by have := HBB.out; omega)).trans X.out) 4 rfl
  have zX2_5 := box_cell ((zo2.block (b + 1 + 1 + 1) (by have := HBB.out; omega)).trans X.out) 5 rfl
  have zX2_6 := box_cell ((zo2.block (b + 1 + 1 + 1) (by have := HBB.out; omega)).trans X.out) 6 rfl
  have P_z := zZ2
  have B_z := Lib.hid (zo2.below B.out (by have := HBB.out; omega))
  have R_z := Lib.hid ((zo2.block (b) (by have := HBB.out; omega)).trans R.out)
  have T_z := Lib.hid ((zo2.block (b + 1 + 1) (by have := HBB.out; omega)).trans T.out)
  have X_z := Lib.hid ((zo2.block (b + 1 + 1 + 1) (by have := HBB.out; omega)).trans X.out)
  have LB_z := Lib.hid (LB.out.only zo2 (by omega))
  have IU_z := Lib.hid (IU.out.only zo2 (by omega))
  have MU_z := Lib.hid (MU.out.only zo2 (by omega))
  clear zo0 zZ0 zo1 zZ1 zo2 zZ2
  clear B R P T X LB IU MU
  have B := B_z
  have R := R_z
  have P := P_z
  have T := T_z
  have X := X_z
  have LB := LB_z
  have IU := IU_z
  have MU := MU_z
  clear B_z R_z P_z T_z X_z LB_z IU_z MU_z
  have tc0 := box_cell T.out 0 rfl
  have tf0 := box_free T.out 0
  have tZ0 := Lib.hid (box_set T.out 0 (.string y1) (B := #[.string y1, .slice none 0 0, .slice none 0 0, .slice none 0 0, .int .i64 0, .int .i64 0, .int .i64 0]) rfl)
  obtain ⟨t0, ht0⟩ : ∃ v, z2.setCell ⟨b + 1 + 1, 0, none⟩ (.string y1) = v := ⟨_, rfl⟩
  rw [ht0] at tZ0
  have to0 : Only (b + 1 + 1) z2 t0 := by rw [← ht0]; exact (Only.refl (b + 1 + 1) z2).set 0 _
  have tX0_0 := box_cell ((to0.block (b + 1 + 1 + 1) (by have := HBB.out; omega)).trans X.out) 0 rfl
  have tX0_1 := box_cell ((to0.block (b + 1 + 1 + 1) (by have := HBB.out; omega)).trans X.out) 1 rfl
  have tX0_2 := box_cell ((to0.block (b + 1 + 1 + 1) (by have := HBB.out; omega)).trans X.out) 2 rfl
  have tX0_3 := box_cell ((to0.block (b + 1 + 1 + 1) (by have := HBB.out; omega)).trans X.out) 3 rfl
  have tX0_4 := box_cell ((to0.block (b + 1 + 1 + 1) (by have := HBB.out; omega)).trans X.out) 4 rfl
  have tX0_5 := box_cell ((to0.block (b + 1 + 1 + 1) (by have := HBB.out; omega)).trans X.out) 5 rfl
  have tX0_6 := box_cell ((to0.block (b + 1 + 1 + 1) (by have := HBB.out; omega)).trans X.out) 6 rfl
  have tc1 := box_cell tZ0.out 1 rfl
  have tf1 := box_free tZ0.out 1
  have tZ1 := Lib.hid (box_set tZ0.out 1 (.slice LA n2 lc) (B := #[.string y1, .slice LA n2 lc, .slice none 0 0, .slice none 0 0, .int .i64 0, .int .i64 0, .int .i64 0]) rfl)
  obtain ⟨t1, ht1⟩ : ∃ v, t0.setCell ⟨b + 1 + 1, 1, none⟩ (.slice LA n2 lc) = v := ⟨_, rfl⟩
  rw [ht1] at tZ1
  have to1 : Only (b + 1 + 1) z2 t1 := by rw [← ht1]; exact to0.set 1 _
  have tX1_0 := box_cell ((to1.block (b + 1 + 1 + 1) (by have := HBB.out; omega)).trans X.out) 0 rfl
  have tX1_1 := box_cell ((to1.block (b + 1 + 1 + 1) (by have := HBB.out; omega)).trans X.out) 1 rfl
  have tX1_2 := box_cell ((to1.block (b + 1 + 1 + 1) (by have := HBB.out; omega)).trans X.out) 2 rfl
  have tX1_3 := box_cell ((to1.block (b + 1 + 1 + 1) (by have := HBB.out; omega)).trans X.out) 3 rfl
  have tX1_4 := box_cell ((to1.block (b + 1 + 1 + 1) (by have := HBB.out; omega)).trans X.out) 4 rfl
  have tX1_5 := box_cell ((to1.block (b + 1 + 1 + 1) (by have := HBB.out; omega)).trans X.out) 5 rfl
  have tX1_6 := box_cell ((to1.block (b + 1 + 1 + 1) (by have := HBB.out; omega)).trans X.out) 6 rfl
  have tc2 := box_cell tZ1.out 2 rfl
  have tf2 := box_free tZ1.out 2
  have tZ2 := Lib.hid (box_set tZ1.out 2 (.slice IA n3 ic) (B := #[.string y1, .slice LA n2 lc, .slice IA n3 ic, .slice none 0 0, .int .i64 0, .int .i64 0, .int .i64 0]) rfl)
  obtain ⟨t2, ht2⟩ : ∃ v, t1.setCell ⟨b + 1 + 1, 2, none⟩ (.slice IA n3 ic) = v := ⟨_, rfl⟩
  rw [ht2] at tZ2
  have to2 : Only (b + 1 + 1) z2 t2 := by rw [← ht2]; exact to1.set 2 _
  have tX2_0 := box_cell ((to2.block (b + 1 + 1 + 1) (by have := HBB.out; omega)).trans X.out) 0 rfl
  have tX2_1 := box_cell ((to2.block (b + 1 + 1 + 1) (by have := HBB.out; omega)).trans X.out) 1 rfl
  have tX2_2 := box_cell ((to2.block (b + 1 + 1 + 1) (by have := HBB.out; omega)).trans X.out) 2 rfl
  have tX2_3 := box_cell ((to2.block (b + 1 + 1 + 1) (by have := HBB.out; omega)).trans X.out) 3 rfl
  have tX2_4 := box_cell ((to2.block (b + 1 + 1 + 1) (by have := HBB.out; omega)).trans X.out) 4 rfl
  have tX2_5 := box_cell ((to2.block (b + 1 + 1 + 1) (by have := HBB.out; omega)).trans X.out) 5 rfl
  have tX2_6 := box_cell ((to2.block (b + 1 + 1 + 1) (by have := HBB.out; omega)).trans X.out) 6 rfl
  have tc3 := box_cell tZ2.out 3 rfl
  have tf3 := box_free tZ2.out 3
  have tZ3 := Lib.hid (box_set tZ2.out 3 (.slice MA n4 mc) (B := #[.string y1, .slice LA n2 lc, .slice IA n3 ic, .slice MA n4 mc, .int .i64 0, .int .i64 0, .int .i64 0]) rfl)
  obtain ⟨t3, ht3⟩ : ∃ v, t2.setCell ⟨b + 1 + 1, 3, none⟩ (.slice MA n4 mc) = v := ⟨_, rfl⟩
  rw [ht3] at tZ3
  have to3 : Only (b + 1 + 1) z2 t3 := by rw [← ht3]; exact to2.set 3 _
  have tX3_0 := box_cell ((to3.block (b + 1 + 1 + 1) (by have := HBB.out; omega)).trans X.out) 0 rfl
  have tX3_1 := box_cell ((to3.block (b + 1 + 1 + 1) (by have := HBB.out; omega)).trans X.out) 1 rfl
  have tX3_2 := box_cell ((to3.block (b + 1 + 1 + 1) (by have := HBB.out; omega)).trans X.out) 2 rfl
  have tX3_3 := box_cell ((to3.block (b + 1 + 1 + 1) (by have := HBB.out; omega)).trans X.out) 3 rfl
  have tX3_4 := box_cell ((to3.block (b + 1 + 1 + 1) (by have := HBB.out; omega)).trans X.out) 4 rfl
  have tX3_5 := box_cell ((to3.block (b + 1 + 1 + 1) (by have := HBB.out; omega)).trans X.out) 5 rfl
  have tX3_6 := box_cell ((to3.block (b + 1 + 1 + 1) (by have := HBB.out; omega)).trans X.out) 6 rfl
  have tc4 := box_cell tZ3.out 4 rfl
  have tf4 := box_free tZ3.out 4
  have tZ4 := Lib.hid (box_set tZ3.out 4 (.int .i64 y5) (B := #[.string y1, .slice LA n2 lc, .slice IA n3 ic, .slice MA n4 mc, .int .i64 y5, .int .i64 0, .int .i64 0]) rfl)
  obtain ⟨t4, ht4⟩ : ∃ v, t3.setCell ⟨b + 1 + 1, 4, none⟩ (.int .i64 y5) = v := ⟨_, rfl⟩
  rw [ht4] at tZ4
  have to4 : Only (b + 1 + 1) z2 t4 := by rw [← ht4]; exact to3.set 4 _
  have tX4_0 := box_cell ((to4.block (b + 1 + 1 + 1) (by have := HBB.out; omega)).trans X.out) 0 rfl
  have tX4_1 := box_cell ((to4.block (b + 1 + 1 + 1) (by have := HBB.out; omega)).trans X.out) 1 rfl
  have tX4_2 := box_cell ((to4.block (b + 1 + 1 + 1) (by have := HBB.out; omega)).trans X.out) 2 rfl
  have tX4_3 := box_cell ((to4.block (b + 1 + 1 + 1) (by have := HBB.out; omega)).trans X.out) 3 rfl
  have tX4_4 := box_cell ((to4.block (b + 1 + 1 + 1) (by have := HBB.out; omega)).trans X.out) 4 rfl
  have tX4_5 := box_cell ((to4.block (b + 1 + 1 + 1) (by have := HBB.out; omega)).trans X.out) 5 rfl
  have tX4_6 := box_cell ((to4.block (b + 1 + 1 + 1) (by have := HBB.out; omega)).trans X.out) 6 rfl
  have tc5 := box_cell tZ4.out 5 rfl
  have tf5 := box_free tZ4.out 5
  have tZ5 := Lib.hid (box_set tZ4.out 5 (.int .i64 y6) (B := #[.string y1, .slice LA n2 lc, .slice IA n3 ic, .slice MA n4 mc, .int .i64 y5, .int .i64 y6, .int .i64 0]) rfl)
  obtain ⟨t5, ht5⟩ : ∃ v, t4.setCell ⟨b + 1 + 1, 5, none⟩ (.int .i64 y6) = v := ⟨_, rfl⟩
  rw [ht5] at tZ5
  have to5 : Only (b + 1 + 1) z2 t5 := by rw [← ht5]; exact to4.set 5 _
  have tX5_0 := box_cell ((to5.block (b + 1 + 1 + 1) (by have := HBB.out; omega)).trans X.out) 0 rfl
  have tX5_1 := box_cell ((to5.block (b + 1 + 1 + 1) (by have := HBB.out; omega)).trans X.out) 1 rfl
  have tX5_2 := box_cell ((to5.block (b + 1 + 1 + 1) (by have := HBB.out; omega)).trans X.out) 2 rfl
  have tX5_3 := box_cell ((to5.block (b + 1 + 1 + 1) (by have := HBB.out; omega)).trans X.out) 3 rfl
  have tX5_4 := box_cell ((to5.block (b + 1 + 1 + 1) (by have := HBB.out; omega)).trans X.out) 4 rfl
  have tX5_5 := box_cell ((to5.block (b + 1 + 1 + 1) (by have := HBB.out; omega)).trans X.out) 5 rfl
  have tX5_6 := box_cell ((to5.block (b + 1 + 1 + 1) (by have := HBB.out; omega)).trans X.out) 6 rfl
  have tc6 := box_cell tZ5.out 6 rfl
  have tf6 := box_free tZ5.out 6
  have tZ6 := Lib.hid (box_set tZ5.out 6 (.int .i64 y7) (B := #[.string y1, .slice LA n2 lc, .slice IA n3 ic, .slice MA n4 mc, .int .i64 y5, .int .i64 y6, .int .i64 y7]) rfl)
  obtain ⟨t6, ht6⟩ : ∃ v, t5.setCell ⟨b + 1 + 1, 6, none⟩ (.int .i64 y7) = v := ⟨_, rfl⟩
  rw [ht6] at tZ6
  have to6 : Only (b + 1 + 1) z2 t6 := by rw [← ht6]; exact to5.set 6 _
  have tX6_0 := box_cell ((to6.block (b + 1 + 1 + 1) (by have := HBB.out; omega)).trans X.out) 0 rfl
  have tX6_1 := box_cell ((to6.block (b + 1 + 1 + 1) (by have := HBB.out; omega)).trans X.out) 1 rfl
  have tX6_2 := box_cell ((to6.block (b + 1 + 1 + 1) (by have := HBB.out; omega)).trans X.out) 2 rfl
  have tX6_3 := box_cell ((to6.block (b + 1 + 1 + 1) (by have := HBB.out; omega)).trans X.out) 3 rfl
  have tX6_4 := box_cell ((to6.block (b + 1 + 1 + 1) (by have := HBB.out; omega)).trans X.out) 4 rfl
  have tX6_5 := box_cell ((to6.block (b + 1 + 1 + 1) (by have := HBB.out; omega)).trans X.out) 5 rfl
  have tX6_6 := box_cell ((to6.block (b + 1 + 1 + 1) (by have := HBB.out; omega)).trans X.out) 6 rfl
  have T_z := tZ6
  have B_z := Lib.hid (to6.below B.out (by have := HBB.out; omega))
  have R_z := Lib.hid ((to6.block (b) (by have := HBB.out; omega)).trans R.out)
  have P_z := Lib.hid ((to6.block (b + 1) (by have := HBB.out; omega)).trans P.out)
  have X_z := Lib.hid ((to6.block (b + 1 + 1 + 1) (by have := HBB.out; omega)).trans X.out)
  have LB_z := Lib.hid (LB.out.only to6 (by omega))
  have IU_z := Lib.hid (IU.out.only to6 (by omega))
  have MU_z := Lib.hid (MU.out.only to6 (by omega))
  clear to0 tZ0 to1 tZ1 to2 tZ2 to3 tZ3 to4 tZ4 to5 tZ5 to6 tZ6
  clear B R P T X LB IU MU
  have B := B_z
  have R := R_z
  have P := P_z
  have T := T_z
  have X := X_z
  have LB := LB_z
  have IU := IU_z
  have MU := MU_z
  clear B_z R_z P_z T_z X_z LB_z IU_z MU_z
  have yp0 := box_cell P.out 0 rfl
  have yp1 := box_cell P.out 1 rfl
  have yp2 := box_cell P.out 2 rfl
  have yt0 := box_cell T.out 0 rfl
  have yt1 := box_cell T.out 1 rfl
  have yt2 := box_cell T.out 2 rfl
  have yt3 := box_cell T.out 3 rfl
  have yt4 := box_cell T.out 4 rfl
  have yt5 := box_cell T.out 5 rfl
  have yt6 := box_cell T.out 6 rfl
  have yx0 := box_cell X.out 0 rfl
  have yx1 := box_cell X.out 1 rfl
  have yx2 := box_cell X.out 2 rfl
  have yx3 := box_cell X.out 3 rfl
  have yx4 := box_cell X.out 4 rfl
  have yx5 := box_cell X.out 5 rfl
  have yx6 := box_cell X.out 6 rfl
  go_wp2_with fail
  go_region
  go_wp2_with fail
  refine bodyPost_ret (v := .tuple #[.agg #[.string S, .int .i64 A7, .int .i64 c7], .agg #[.string y1, .slice LA n2 lc, .slice IA n3 ic, .slice MA n4 mc, .int .i64 y5, .int .i64 y6, .int .i64 y7]]) ?hres rfl ?_
  case hres => simp [results, Tryz.results13, go_sem, yp0, yp1, yp2, yt0, yt1, yt2, yt3, yt4, yt5, yt6]
  refine ⟨A7, LA, IA, MA, n2, lc, n3, ic, n4, mc, rfl, H7.out, fun h0 => ?_, B.out.drew⟩
  have h6 := HZ6.out h0
  have h5 := HZ5.out h6
  have h4 := HZ4.out h5
  have h3 := HZ3.out h4
  have h2 := HZ2.out h3
  have hbw : b + 4 ≥ w.heap.size := by have := HBB.out; omega
  exact ⟨(LB.out.2 h2).1, (IU.out h3).1, (MU.out h4).1, (LB.out.2 h2).2, fun a ha => Nat.le_trans hbw (LB.out.1 a ha), (IU.out h3).2.less hbw, (MU.out h4).2.less hbw, HNUM.out⟩
end Pk
end Go.Proofs.YtmeilidjomjocaaGreatDoor

/- The document's answer to pack.Of (provostref07.Of) by contract. Condition: the text has at most 2^46 bytes. -/
set_option linter.unusedVariables false
set_option linter.unusedSimpArgs false
namespace Go.Proofs.YtmeilidjomjocaaGreatDoor
open Go.ChangeShapes Go.WideShapes Go.ChangeAt Go.RowKit Go.Lib
open LebMath WirePure Sd Wire SpecOwn SpecRef
namespace Pk

/-- a spec that is there unless something went wrong -/
def SpIf (c : Int) (n2 n3 n4 : Nat) (B : Nat) (Y : Spc) (w : World) (LA IA MA : Option Addr) : Prop := c = 0 → n2 = Y.labels.length ∧ n3 = Y.init.length ∧ n4 = Y.main.length ∧ SpcUp B Y w LA IA MA
theorem SpIf.below {c : Int} {n2 n3 n4 B : Nat} {Y : Spc} {w v : World} {LA IA MA : Option Addr} (h : SpIf c n2 n3 n4 B Y w LA IA MA) (hb : Below w.heap.size w v) : SpIf c n2 n3 n4 B Y v LA IA MA := fun h0 => ⟨(h h0).1, (h h0).2.1, (h h0).2.2.1, (h h0).2.2.2.below hb⟩
theorem SpIf.only {c : Int} {n2 n3 n4 B b : Nat} {Y : Spc} {w v : World} {LA IA MA : Option Addr} (h : SpIf c n2 n3 n4 B Y w LA IA MA) (on : Only b w v) (hb : b < B) : SpIf c n2 n3 n4 B Y v LA IA MA := fun h0 => ⟨(h h0).1, (h h0).2.1, (h h0).2.2.1, on.spc (h h0).2.2.2 hb (Nat.le_refl _)⟩

set_option maxRecDepth 100000 in
set_option maxHeartbeats 4000000 in
theorem of_ref (S : ByteArray) (hS : S.size ≤ 70368744177664) (Y : Spc) (c1 : Int) (l1 : List UInt8) (hq : specC.rd 0 S.data.toList = (Y, c1, l1)) (w : World) :
    Calls Tryz.prog 18 #[.string S] w fun e w' => ((endE c1 l1 ≠ 0 ∧ e = .returned (.tuple #[.agg #[.string ⟨#[]⟩, .slice none 0 0, .slice none 0 0, .slice none 0 0, .int .i64 0, .int .i64 0, .int .i64 0], .int .i64 (endE c1 l1), .string ⟨#[119, 105, 114, 101]⟩])) ∨ (endE c1 l1 = 0 ∧ (checkV Y).1 ≠ 0 ∧ e = .returned (.tuple #[.agg #[.string ⟨#[]⟩, .slice none 0 0, .slice none 0 0, .slice none 0 0, .int .i64 0, .int .i64 0, .int .i64 0], .int .i64 (checkV Y).1, .string (checkV Y).2])) ∨ (endE c1 l1 = 0 ∧ (checkV Y).1 = 0 ∧ ∃ LA lc IA ic MA mc, e = .returned (.tuple #[.agg #[.string Y.name, .slice LA Y.labels.length lc, .slice IA Y.init.length ic, .slice MA Y.main.length mc, .int .i64 Y.restart, .int .i64 Y.grace, .int .i64 Y.prio], .int .i64 0, .string ⟨#[]⟩]) ∧ SpcUp w.heap.size Y w' LA IA MA)) ∧ Below w.heap.size w w' := by
  have hok := specC.okay 0 S.data.toList
  rw [hq] at hok
  have HOK := Lib.hid hok
  have HS := Lib.hid hS
  have HQ := Lib.hid hq
  have HA := Lib.hid (show At S 0 S.data.toList from ⟨Nat.zero_le _, rfl⟩)
  have hs' : (S.size : Int) ≤ 70368744177664 := by omega
  clear hok hS hq
  obtain ⟨w0, hw0⟩ : ∃ v, w.alloc (.cells #[.string ⟨#[]⟩, .slice none 0 0, .slice none 0 0, .slice none 0 0, .int .i64 0, .int .i64 0, .int .i64 0] 28) = v := ⟨_, rfl⟩
  have B := Lib.hid (show Below w.heap.size w w0 by rw [← hw0]; exact (Below.refl _ _).alloc (Nat.le_refl _) _)
  have T := Lib.hid (show w0.heap[w.heap.size]? = some (.cells #[.string ⟨#[]⟩, .slice none 0 0, .slice none 0 0, .slice none 0 0, .int .i64 0, .int .i64 0, .int .i64 0] 28) by rw [← hw0]; exact heap_alloc_new w _)
  obtain ⟨b, hb⟩ : ∃ b, w.heap.size = b := ⟨_, rfl⟩
  have HBB := Lib.hid hb
  rw [hb] at T
  clear hb
  go_enter Tryz.func18, Tryz.ntmps18
  go_wp2_with fail
  rw [HBB.out]
  first | rw [hw0] | skip
  clear hw0
  refine (take_ref S HS.out 0 0 S.data.toList HA.out Y c1 l1 HQ.out _).mono ?_
  rintro e w1 ⟨A1, LA, IA, MA, n2, lc, n3, ic, n4, mc, rfl, h1, hup, hb1⟩
  have H1 := Lib.hid h1
  have HBL := Lib.hid (show b + 1 ≤ w0.heap.size by have := lt_of_block T.out; omega)
  have B_z := Lib.hid (B.out.trans (hb1.mono B.out.size))
  have T_z := Lib.hid ((hb1.block (b) (lt_of_block T.out)).trans T.out)
  clear hb1
  clear B T
  have B := B_z
  have T := T_z
  clear B_z T_z
  have SU := Lib.hid (show SpIf c1 n2 n3 n4 (b + 1) Y w1 LA IA MA from fun h0 => ⟨(hup h0).1, (hup h0).2.1, (hup h0).2.2.1, (hup h0).2.2.2.less HBL.out⟩)
  have HTL := Lib.hid (show b < w1.heap.size from lt_of_block T.out)
  have hle := h1.1
  have hln := h1.len
  clear h1 hup HBL
  obtain ⟨u2, hu2⟩ : ∃ v, (w1.alloc (.cells #[.string S, .int .i64 A1, .int .i64 c1] 31)).alloc (.cells #[.string Y.name, .slice LA n2 lc, .slice IA n3 ic, .slice MA n4 mc, .int .i64 Y.restart, .int .i64 Y.grace, .int .i64 Y.prio] 28) = v := ⟨_, rfl⟩
  have HBX := Lib.hid (two_boxes w1 _ _ u2 hu2)
  have al : Below w1.heap.size w1 u2 := HBX.out.1
  have R := Lib.hid HBX.out.2.1
  have X := Lib.hid HBX.out.2.2
  clear HBX
  have B_z := Lib.hid (B.out.trans (al.mono B.out.size))
  have T_z := Lib.hid ((al.block (b) (lt_of_block T.out)).trans T.out)
  have SU_z := Lib.hid (SU.out.below al)
  clear al
  clear B T SU
  have B := B_z
  have T := T_z
  have SU := SU_z
  clear B_z T_z SU_z

  have hA' : (A1 : Int) ≤ 70368744177664 := by omega
  by_cases hc : c1 = 0
  · subst hc
    by_cases hl : l1 = []
    · have HEE := Lib.hid (show endE 0 l1 = 0 by rw [hl]; rfl)
      have hnl : ¬ (A1 : Int) < (S.size : Int) := by rw [hl] at hln; simp at hln; omega
      clear hle hln hl
      have r0 := box_cell R.out 0 rfl
      have r1 := box_cell R.out 1 rfl
      have r2 := box_cell R.out 2 rfl
      have x0 := box_cell X.out 0 rfl
      have x1 := box_cell X.out 1 rfl
      have x2 := box_cell X.out 2 rfl
      have x3 := box_cell X.out 3 rfl
      have x4 := box_cell X.out 4 rfl
      have x5 := box_cell X.out 5 rfl
      have x6 := box_cell X.out 6 rfl
      obtain ⟨rfl, rfl, rfl, hup⟩ := SU.out rfl
      go_wp2_with fail
      refine (check_ref Y LA lc IA ic MA mc (spec_light HOK.out) u2 hup.in).mono ?_
      rintro e w3 ⟨rfl, hb3⟩
      clear hup
      have B_z := Lib.hid (B.out.trans (hb3.mono B.out.size))
      have T_z := Lib.hid ((hb3.block (b) (lt_of_block T.out)).trans T.out)
      have R_z := Lib.hid ((hb3.block (w1.heap.size) (lt_of_block R.out)).trans R.out)
      have X_z := Lib.hid ((hb3.block (w1.heap.size + 1) (lt_of_block X.out)).trans X.out)
      have SU_z := Lib.hid (SU.out.below hb3)
      clear hb3
      clear B T R X SU
      have B := B_z
      have T := T_z
      have R := R_z
      have X := X_z
      have SU := SU_z
      clear B_z T_z R_z X_z SU_z
      by_cases hc : (checkV Y).1 = 0
      · have HC := Lib.hid hc
        rw [hc]
        clear hc
        have k0 := box_cell X.out 0 rfl
        have k1 := box_cell X.out 1 rfl
        have k2 := box_cell X.out 2 rfl
        have k3 := box_cell X.out 3 rfl
        have k4 := box_cell X.out 4 rfl
        have k5 := box_cell X.out 5 rfl
        have k6 := box_cell X.out 6 rfl
        have tc0 := box_cell T.out 0 rfl
        have tf0 := box_free T.out 0
        have tZ0 := Lib.hid (box_set T.out 0 (.string Y.name) (B := #[.string Y.name, .slice none 0 0, .slice none 0 0, .slice none 0 0, .int .i64 0, .int .i64 0, .int .i64 0]) rfl)
        obtain ⟨t0, ht0⟩ : ∃ v, w3.setCell ⟨b, 0, none⟩ (.string Y.name) = v := ⟨_, rfl⟩
        rw [ht0] at tZ0
        have to0 : Only (b) w3 t0 := by rw [← ht0]; exact (Only.refl (b) w3).set 0 _
        have tc1 := box_cell tZ0.out 1 rfl
        have tf1 := box_free tZ0.out 1
        have tZ1 := Lib.hid (box_set tZ0.out 1 (.slice LA Y.labels.length lc) (B := #[.string Y.name, .slice LA Y.labels.length lc, .slice none 0 0, .slice none 0 0, .int .i64 0, .int .i64 0, .int .i64 0]) rfl)
        obtain ⟨t1, ht1⟩ : ∃ v, t0.setCell ⟨b, 1, none⟩ (.slice LA Y.labels.length lc) = v := ⟨_, rfl⟩
        rw [ht1] at tZ1
        have to1 : Only (b) w3 t1 := by rw [← ht1]; exact to0.set 1 _
        have tc2 := box_cell tZ1.out 2 rfl
        have tf2 := box_free tZ1.out 2
        have tZ2 := Lib.hid (box_set tZ1.out 2 (.slice IA Y.init.length ic) (B := #[.string Y.name, .slice LA Y.labels.length lc, .slice IA Y.init.length ic, .slice none 0 0, .int .i64 0, .int .i64 0, .int .i64 0]) rfl)
        obtain ⟨t2, ht2⟩ : ∃ v, t1.setCell ⟨b, 2, none⟩ (.slice IA Y.init.length ic) = v := ⟨_, rfl⟩
        rw [ht2] at tZ2
        have to2 : Only (b) w3 t2 := by rw [← ht2]; exact to1.set 2 _
        have tc3 := box_cell tZ2.out 3 rfl
        have tf3 := box_free tZ2.out 3
        have tZ3 := Lib.hid (box_set tZ2.out 3 (.slice MA Y.main.length mc) (B := #[.string Y.name, .slice LA Y.labels.length lc, .slice IA Y.init.length ic, .slice MA Y.main.length mc, .int .i64 0, .int .i64 0, .int .i64 0]) rfl)
        obtain ⟨t3, ht3⟩ : ∃ v, t2.setCell ⟨b, 3, none⟩ (.slice MA Y.main.length mc) = v := ⟨_, rfl⟩
        rw [ht3] at tZ3
        have to3 : Only (b) w3 t3 := by rw [← ht3]; exact to2.set 3 _
        have tc4 := box_cell tZ3.out 4 rfl
        have tf4 := box_free tZ3.out 4
        have tZ4 := Lib.hid (box_set tZ3.out 4 (.int .i64 Y.restart) (B := #[.string Y.name, .slice LA Y.labels.length lc, .slice IA Y.init.length ic, .slice MA Y.main.length mc, .int .i64 Y.restart, .int .i64 0, .int .i64 0]) rfl)
        obtain ⟨t4, ht4⟩ : ∃ v, t3.setCell ⟨b, 4, none⟩ (.int .i64 Y.restart) = v := ⟨_, rfl⟩
        rw [ht4] at tZ4
        have to4 : Only (b) w3 t4 := by rw [← ht4]; exact to3.set 4 _
        have tc5 := box_cell tZ4.out 5 rfl
        have tf5 := box_free tZ4.out 5
        have tZ5 := Lib.hid (box_set tZ4.out 5 (.int .i64 Y.grace) (B := #[.string Y.name, .slice LA Y.labels.length lc, .slice IA Y.init.length ic, .slice MA Y.main.length mc, .int .i64 Y.restart, .int .i64 Y.grace, .int .i64 0]) rfl)
        obtain ⟨t5, ht5⟩ : ∃ v, t4.setCell ⟨b, 5, none⟩ (.int .i64 Y.grace) = v := ⟨_, rfl⟩
        rw [ht5] at tZ5
        have to5 : Only (b) w3 t5 := by rw [← ht5]; exact to4.set 5 _
        have tc6 := box_cell tZ5.out 6 rfl
        have tf6 := box_free tZ5.out 6
        have tZ6 := Lib.hid (box_set tZ5.out 6 (.int .i64 Y.prio) (B := #[.string Y.name, .slice LA Y.labels.length lc, .slice IA Y.init.length ic, .slice MA Y.main.length mc, .int .i64 Y.restart, .int .i64 Y.grace, .int .i64 Y.prio]) rfl)
        obtain ⟨t6, ht6⟩ : ∃ v, t5.setCell ⟨b, 6, none⟩ (.int .i64 Y.prio) = v := ⟨_, rfl⟩
        rw [ht6] at tZ6
        have to6 : Only (b) w3 t6 := by rw [← ht6]; exact to5.set 6 _
        have T_z := tZ6
        have B_z := Lib.hid (to6.below B.out (by have := HBB.out; have := HTL.out; omega))
        have R_z := Lib.hid ((to6.block (w1.heap.size) (by have := HBB.out; have := HTL.out; omega)).trans R.out)
        have X_z := Lib.hid ((to6.block (w1.heap.size + 1) (by have := HBB.out; have := HTL.out; omega)).trans X.out)
        have SU_z := Lib.hid (SU.out.only to6 (by have := HBB.out; omega))
        clear to0 tZ0 to1 tZ1 to2 tZ2 to3 tZ3 to4 tZ4 to5 tZ5 to6 tZ6
        clear B T R X SU
        have B := B_z
        have T := T_z
        have R := R_z
        have X := X_z
        have SU := SU_z
        clear B_z T_z R_z X_z SU_z
        have y0 := box_cell T.out 0 rfl
        have y1 := box_cell T.out 1 rfl
        have y2 := box_cell T.out 2 rfl
        have y3 := box_cell T.out 3 rfl
        have y4 := box_cell T.out 4 rfl
        have y5 := box_cell T.out 5 rfl
        have y6 := box_cell T.out 6 rfl
        go_wp2_with fail
        refine bodyPost_ret (v := .tuple #[.agg #[.string Y.name, .slice LA Y.labels.length lc, .slice IA Y.init.length ic, .slice MA Y.main.length mc, .int .i64 Y.restart, .int .i64 Y.grace, .int .i64 Y.prio], .int .i64 0, .string ⟨#[]⟩]) ?hres rfl ?_
        case hres => simp [results, Tryz.results18, go_sem, y0, y1, y2, y3, y4, y5, y6]
        rw [HEE.out]
        exact ⟨.inr (.inr ⟨rfl, HC.out, LA, lc, IA, ic, MA, mc, rfl, (SU.out rfl).2.2.2.less (by have := HBB.out; omega)⟩), B.out⟩

      · have HC := Lib.hid hc
        have hc' : ((checkV Y).1 != 0) = true := by simpa using hc
        obtain ⟨cz, hcz⟩ : ∃ d, (checkV Y).1 = d := ⟨_, rfl⟩
        rw [hcz] at hc' ⊢
        clear hc
        have tc0 := box_cell T.out 0 rfl
        have tf0 := box_free T.out 0
        have tZ0 := Lib.hid (box_set T.out 0 (.string ⟨#[]⟩) (B := #[.string ⟨#[]⟩, .slice none 0 0, .slice none 0 0, .slice none 0 0, .int .i64 0, .int .i64 0, .int .i64 0]) rfl)
        obtain ⟨t0, ht0⟩ : ∃ v, w3.setCell ⟨b, 0, none⟩ (.string ⟨#[]⟩) = v := ⟨_, rfl⟩
        rw [ht0] at tZ0
        have to0 : Only (b) w3 t0 := by rw [← ht0]; exact (Only.refl (b) w3).set 0 _
        have tc1 := box_cell tZ0.out 1 rfl
        have tf1 := box_free tZ0.out 1
        have tZ1 := Lib.hid (box_set tZ0.out 1 (.slice none 0 0) (B := #[.string ⟨#[]⟩, .slice none 0 0, .slice none 0 0, .slice none 0 0, .int .i64 0, .int .i64 0, .int .i64 0]) rfl)
        obtain ⟨t1, ht1⟩ : ∃ v, t0.setCell ⟨b, 1, none⟩ (.slice none 0 0) = v := ⟨_, rfl⟩
        rw [ht1] at tZ1
        have to1 : Only (b) w3 t1 := by rw [← ht1]; exact to0.set 1 _
        have tc2 := box_cell tZ1.out 2 rfl
        have tf2 := box_free tZ1.out 2
        have tZ2 := Lib.hid (box_set tZ1.out 2 (.slice none 0 0) (B := #[.string ⟨#[]⟩, .slice none 0 0, .slice none 0 0, .slice none 0 0, .int .i64 0, .int .i64 0, .int .i64 0]) rfl)
        obtain ⟨t2, ht2⟩ : ∃ v, t1.setCell ⟨b, 2, none⟩ (.slice none 0 0) = v := ⟨_, rfl⟩
        rw [ht2] at tZ2
        have to2 : Only (b) w3 t2 := by rw [← ht2]; exact to1.set 2 _
        have tc3 := box_cell tZ2.out 3 rfl
        have tf3 := box_free tZ2.out 3
        have tZ3 := Lib.hid (box_set tZ2.out 3 (.slice none 0 0) (B := #[.string ⟨#[]⟩, .slice none 0 0, .slice none 0 0, .slice none 0 0, .int .i64 0, .int .i64 0, .int .i64 0]) rfl)
        obtain ⟨t3, ht3⟩ : ∃ v, t2.setCell ⟨b, 3, none⟩ (.slice none 0 0) = v := ⟨_, rfl⟩
        rw [ht3] at tZ3
        have to3 : Only (b) w3 t3 := by rw [← ht3]; exact to2.set 3 _
        have tc4 := box_cell tZ3.out 4 rfl
        have tf4 := box_free tZ3.out 4
        have tZ4 := Lib.hid (box_set tZ3.out 4 (.int .i64 0) (B := #[.string ⟨#[]⟩, .slice none 0 0, .slice none 0 0, .slice none 0 0, .int .i64 0, .int .i64 0, .int .i64 0]) rfl)
        obtain ⟨t4, ht4⟩ : ∃ v, t3.setCell ⟨b, 4, none⟩ (.int .i64 0) = v := ⟨_, rfl⟩
        rw [ht4] at tZ4
        have to4 : Only (b) w3 t4 := by rw [← ht4]; exact to3.set 4 _
        have tc5 := box_cell tZ4.out 5 rfl
        have tf5 := box_free tZ4.out 5
        have tZ5 := Lib.hid (box_set tZ4.out 5 (.int .i64 0) (B := #[.string ⟨#[]⟩, .slice none 0 0, .slice none 0 0, .slice none 0 0, .int .i64 0, .int .i64 0, .int .i64 0]) rfl)
        obtain ⟨t5, ht5⟩ : ∃ v, t4.setCell ⟨b, 5, none⟩ (.int .i64 0) = v := ⟨_, rfl⟩
        rw [ht5] at tZ5
        have to5 : Only (b) w3 t5 := by rw [← ht5]; exact to4.set 5 _
        have tc6 := box_cell tZ5.out 6 rfl
        have tf6 := box_free tZ5.out 6
        have tZ6 := Lib.hid (box_set tZ5.out 6 (.int .i64 0) (B := #[.string ⟨#[]⟩, .slice none 0 0, .slice none 0 0, .slice none 0 0, .int .i64 0, .int .i64 0, .int .i64 0]) rfl)
        obtain ⟨t6, ht6⟩ : ∃ v, t5.setCell ⟨b, 6, none⟩ (.int .i64 0) = v := ⟨_, rfl⟩
        rw [ht6] at tZ6
        have to6 : Only (b) w3 t6 := by rw [← ht6]; exact to5.set 6 _
        have T_z := tZ6
        have B_z := Lib.hid (to6.below B.out (by have := HBB.out; have := HTL.out; omega))
        have R_z := Lib.hid ((to6.block (w1.heap.size) (by have := HBB.out; have := HTL.out; omega)).trans R.out)
        have X_z := Lib.hid ((to6.block (w1.heap.size + 1) (by have := HBB.out; have := HTL.out; omega)).trans X.out)
        have SU_z := Lib.hid (SU.out.only to6 (by have := HBB.out; omega))
        clear to0 tZ0 to1 tZ1 to2 tZ2 to3 tZ3 to4 tZ4 to5 tZ5 to6 tZ6
        clear B T R X SU
        have B := B_z
        have T := T_z
        have R := R_z
        have X := X_z
        have SU := SU_z
        clear B_z T_z R_z X_z SU_z
        have y0 := box_cell T.out 0 rfl
        have y1 := box_cell T.out 1 rfl
        have y2 := box_cell T.out 2 rfl
        have y3 := box_cell T.out 3 rfl
        have y4 := box_cell T.out 4 rfl
        have y5 := box_cell T.out 5 rfl
        have y6 := box_cell T.out 6 rfl
        go_wp2_with fail
        refine bodyPost_ret (v := .tuple #[.agg #[.string ⟨#[]⟩, .slice none 0 0, .slice none 0 0, .slice none 0 0, .int .i64 0, .int .i64 0, .int .i64 0], .int .i64 cz, .string (checkV Y).2]) ?hres rfl ?_
        case hres => simp [results, Tryz.results18, go_sem, y0, y1, y2, y3, y4, y5, y6]
        rw [HEE.out]
        exact ⟨.inr (.inl ⟨rfl, HC.out, by rw [hcz]⟩), B.out⟩
    · have HEE := Lib.hid (show endE 0 l1 = 3 by unfold endE; rw [if_neg hl]; rfl)
      have hnl : (A1 : Int) < (S.size : Int) := by have := List.length_pos_iff.2 hl; omega
      clear hle hln hl
      clear SU
      have HR1 := Lib.hid (show b < w1.heap.size from HTL.out)
      have r0 := box_cell R.out 0 rfl
      have r1 := box_cell R.out 1 rfl
      have r2 := box_cell R.out 2 rfl
      have sc0 := box_cell R.out 2 rfl
      have sf0 := box_free R.out 2
      have sZ0 := Lib.hid (box_set R.out 2 (.int .i64 3) (B := #[.string S, .int .i64 A1, .int .i64 3]) rfl)
      obtain ⟨s0, hs0⟩ : ∃ v, u2.setCell ⟨w1.heap.size, 2, none⟩ (.int .i64 3) = v := ⟨_, rfl⟩
      rw [hs0] at sZ0
      have so0 : Only (w1.heap.size) u2 s0 := by rw [← hs0]; exact (Only.refl (w1.heap.size) u2).set 2 _
      have R_z := sZ0
      have B_z := Lib.hid (so0.below B.out (by have := HBB.out; have := HR1.out; omega))
      have T_z := Lib.hid ((so0.block (b) (by have := HBB.out; have := HR1.out; omega)).trans T.out)
      have X_z := Lib.hid ((so0.block (w1.heap.size + 1) (by have := HBB.out; have := HR1.out; omega)).trans X.out)
      clear so0 sZ0
      clear B T R X
      have B := B_z
      have T := T_z
      have R := R_z
      have X := X_z
      clear B_z T_z R_z X_z
      have q0 := box_cell R.out 0 rfl
      have q1 := box_cell R.out 1 rfl
      have q2 := box_cell R.out 2 rfl
      have tc0 := box_cell T.out 0 rfl
      have tf0 := box_free T.out 0
      have tZ0 := Lib.hid (box_set T.out 0 (.string ⟨#[]⟩) (B := #[.string ⟨#[]⟩, .slice none 0 0, .slice none 0 0, .slice none 0 0, .int .i64 0, .int .i64 0, .int .i64 0]) rfl)
      obtain ⟨t0, ht0⟩ : ∃ v, s0.setCell ⟨b, 0, none⟩ (.string ⟨#[]⟩) = v := ⟨_, rfl⟩
      rw [ht0] at tZ0
      have to0 : Only (b) s0 t0 := by rw [← ht0]; exact (Only.refl (b) s0).set 0 _
      have tR0_0 := box_cell ((to0.block (w1.heap.size) (by have := HBB.out; have := HR1.out; omega)).trans R.out) 0 rfl
      have tR0_1 := box_cell ((to0.block (w1.heap.size) (by have := HBB.out; have := HR1.out; omega)).trans R.out) 1 rfl
      have tR0_2 := box_cell ((to0.block (w1.heap.size) (by have := HBB.out; have := HR1.out; omega)).trans R.out) 2 rfl
      have tc1 := box_cell tZ0.out 1 rfl
      have tf1 := box_free tZ0.out 1
      have tZ1 := Lib.hid (box_set tZ0.out 1 (.slice none 0 0) (B := #[.string ⟨#[]⟩, .slice none 0 0, .slice none 0 0, .slice none 0 0, .int .i64 0, .int .i64 0, .int .i64 0]) rfl)
      obtain ⟨t1, ht1⟩ : ∃ v, t0.setCell ⟨b, 1, none⟩ (.slice none 0 0) = v := ⟨_, rfl⟩
      rw [ht1] at tZ1
      have to1 : Only (b) s0 t1 := by rw [← ht1]; exact to0.set 1 _
      have tR1_0 := box_cell ((to1.block (w1.heap.size) (by have := HBB.out; have := HR1.out; omega)).trans R.out) 0 rfl
      have tR1_1 := box_cell ((to1.block (w1.heap.size) (by have := HBB.out; have := HR1.out; omega)).trans R.out) 1 rfl
      have tR1_2 := box_cell ((to1.block (w1.heap.size) (by have := HBB.out; have := HR1.out; omega)).trans R.out) 2 rfl
      have tc2 := box_cell tZ1.out 2 rfl
      have tf2 := box_free tZ1.out 2
      have tZ2 := Lib.hid (box_set tZ1.out 2 (.slice none 0 0) (B := #[.string ⟨#[]⟩, .slice none 0 0, .slice none 0 0, .slice none 0 0, .int .i64 0, .int .i64 0, .int .i64 0]) rfl)
      obtain ⟨t2, ht2⟩ : ∃ v, t1.setCell ⟨b, 2, none⟩ (.slice none 0 0) = v := ⟨_, rfl⟩
      rw [ht2] at tZ2
      have to2 : Only (b) s0 t2 := by rw [← ht2]; exact to1.set 2 _
      have tR2_0 := box_cell ((to2.block (w1.heap.size) (by have := HBB.out; have := HR1.out; omega)).trans R.out) 0 rfl
      have tR2_1 := box_cell ((to2.block (w1.heap.size) (by have := HBB.out; have := HR1.out; omega)).trans R.out) 1 rfl
      have tR2_2 := box_cell ((to2.block (w1.heap.size) (by have := HBB.out; have := HR1.out; omega)).trans R.out) 2 rfl
      have tc3 := box_cell tZ2.out 3 rfl
      have tf3 := box_free tZ2.out 3
      have tZ3 := Lib.hid (box_set tZ2.out 3 (.slice none 0 0) (B := #[.string ⟨#[]⟩, .slice none 0 0, .slice none 0 0, .slice none 0 0, .int .i64 0, .int .i64 0, .int .i64 0]) rfl)
      obtain ⟨t3, ht3⟩ : ∃ v, t2.setCell ⟨b, 3, none⟩ (.slice none 0 0) = v := ⟨_, rfl⟩
      rw [ht3] at tZ3
      have to3 : Only (b) s0 t3 := by rw [← ht3]; exact to2.set 3 _
      have tR3_0 := box_cell ((to3.block (w1.heap.size) (by have := HBB.out; have := HR1.out; omega)).trans R.out) 0 rfl
      have tR3_1 := box_cell ((to3.block (w1.heap.size) (by have := HBB.out; have := HR1.out; omega)).trans R.out) 1 rfl
      have tR3_2 := box_cell ((to3.block (w1.heap.size) (by have := HBB.out; have := HR1.out; omega)).trans R.out) 2 rfl
      have tc4 := box_cell tZ3.out 4 rfl
      have tf4 := box_free tZ3.out 4
      have tZ4 := Lib.hid (box_set tZ3.out 4 (.int .i64 0) (B := #[.string ⟨#[]⟩, .slice none 0 0, .slice none 0 0, .slice none 0 0, .int .i64 0, .int .i64 0, .int .i64 0]) rfl)
      obtain ⟨t4, ht4⟩ : ∃ v, t3.setCell ⟨b, 4, none⟩ (.int .i64 0) = v := ⟨_, rfl⟩
      rw [ht4] at tZ4
      have to4 : Only (b) s0 t4 := by rw [← ht4]; exact to3.set 4 _
      have tR4_0 := box_cell ((to4.block (w1.heap.size) (by have := HBB.out; have := HR1.out; omega)).trans R.out) 0 rfl
      have tR4_1 := box_cell ((to4.block (w1.heap.size) (by have := HBB.out; have := HR1.out; omega)).trans R.out) 1 rfl
      have tR4_2 := box_cell ((to4.block (w1.heap.size) (by have := HBB.out; have := HR1.out; omega)).trans R.out) 2 rfl
      have tc5 := box_cell tZ4.out 5 rfl
      have tf5 := box_free tZ4.out 5
      have tZ5 := Lib.hid (box_set tZ4.out 5 (.int .i64 0) (B := #[.string ⟨#[]⟩, .slice none 0 0, .slice none 0 0, .slice none 0 0, .int .i64 0, .int .i64 0, .int .i64 0]) rfl)
      obtain ⟨t5, ht5⟩ : ∃ v, t4.setCell ⟨b, 5, none⟩ (.int .i64 0) = v := ⟨_, rfl⟩
      rw [ht5] at tZ5
      have to5 : Only (b) s0 t5 := by rw [← ht5]; exact to4.set 5 _
      have tR5_0 := box_cell ((to5.block (w1.heap.size) (by have := HBB.out; have := HR1.out; omega)).trans R.out) 0 rfl
      have tR5_1 := box_cell ((to5.block (w1.heap.size) (by have := HBB.out; have := HR1.out; omega)).trans R.out) 1 rfl
      have tR5_2 := box_cell ((to5.block (w1.heap.size) (by have := HBB.out; have := HR1.out; omega)).trans R.out) 2 rfl
      have tc6 := box_cell tZ5.out 6 rfl
      have tf6 := box_free tZ5.out 6
      have tZ6 := Lib.hid (box_set tZ5.out 6 (.int .i64 0) (B := #[.string ⟨#[]⟩, .slice none 0 0, .slice none 0 0, .slice none 0 0, .int .i64 0, .int .i64 0, .int .i64 0]) rfl)
      obtain ⟨t6, ht6⟩ : ∃ v, t5.setCell ⟨b, 6, none⟩ (.int .i64 0) = v := ⟨_, rfl⟩
      rw [ht6] at tZ6
      have to6 : Only (b) s0 t6 := by rw [← ht6]; exact to5.set 6 _
      have tR6_0 := box_cell ((to6.block (w1.heap.size) (by have := HBB.out; have := HR1.out; omega)).trans R.out) 0 rfl
      have tR6_1 := box_cell ((to6.block (w1.heap.size) (by have := HBB.out; have := HR1.out; omega)).trans R.out) 1 rfl
      have tR6_2 := box_cell ((to6.block (w1.heap.size) (by have := HBB.out; have := HR1.out; omega)).trans R.out) 2 rfl
      have T_z := tZ6
      have B_z := Lib.hid (to6.below B.out (by have := HBB.out; have := HR1.out; omega))
      have R_z := Lib.hid ((to6.block (w1.heap.size) (by have := HBB.out; have := HR1.out; omega)).trans R.out)
      have X_z := Lib.hid ((to6.block (w1.heap.size + 1) (by have := HBB.out; have := HR1.out; omega)).trans X.out)
      clear to0 tZ0 to1 tZ1 to2 tZ2 to3 tZ3 to4 tZ4 to5 tZ5 to6 tZ6
      clear B T R X
      have B := B_z
      have T := T_z
      have R := R_z
      have X := X_z
      clear B_z T_z R_z X_z
      have y0 := box_cell T.out 0 rfl
      have y1 := box_cell T.out 1 rfl
      have y2 := box_cell T.out 2 rfl
      have y3 := box_cell T.out 3 rfl
      have y4 := box_cell T.out 4 rfl
      have y5 := box_cell T.out 5 rfl
      have y6 := box_cell T.out 6 rfl
      have rz0 := box_cell R.out 0 rfl
      have rz1 := box_cell R.out 1 rfl
      have rz2 := box_cell R.out 2 rfl
      go_wp2_with fail
      go_region
      go_wp2_with fail
      refine bodyPost_ret (v := .tuple #[.agg #[.string ⟨#[]⟩, .slice none 0 0, .slice none 0 0, .slice none 0 0, .int .i64 0, .int .i64 0, .int .i64 0], .int .i64 3, .string ⟨#[119, 105, 114, 101]⟩]) ?hres rfl ?_
      case hres => simp [results, Tryz.results18, go_sem, y0, y1, y2, y3, y4, y5, y6]
      rw [HEE.out]
      exact ⟨.inl ⟨(by decide), rfl⟩, B.out.drew⟩
  · have HC := Lib.hid hc
    have hc' : (c1 != 0) = true := by simpa using hc
    have HEE := Lib.hid (show endE c1 l1 = c1 by unfold endE fst; split <;> simp [hc])
    have hc2 : (c1 == 0) = false := by simpa using hc
    clear hle hln hc
    have r0 := box_cell R.out 0 rfl
    have r1 := box_cell R.out 1 rfl
    have r2 := box_cell R.out 2 rfl
    have tc0 := box_cell T.out 0 rfl
    have tf0 := box_free T.out 0
    have tZ0 := Lib.hid (box_set T.out 0 (.string ⟨#[]⟩) (B := #[.string ⟨#[]⟩, .slice none 0 0, .slice none 0 0, .slice none 0 0, .int .i64 0, .int .i64 0, .int .i64 0]) rfl)
    obtain ⟨t0, ht0⟩ : ∃ v, u2.setCell ⟨b, 0, none⟩ (.string ⟨#[]⟩) = v := ⟨_, rfl⟩
    rw [ht0] at tZ0
    have to0 : Only (b) u2 t0 := by rw [← ht0]; exact (Only.refl (b) u2).set 0 _
    have tR0_0 := box_cell ((to0.block (w1.heap.size) (by have := HBB.out; have := HTL.out; omega)).trans R.out) 0 rfl
    have tR0_1 := box_cell ((to0.block (w1.heap.size) (by have := HBB.out; have := HTL.out; omega)).trans R.out) 1 rfl
    have tR0_2 := box_cell ((to0.block (w1.heap.size) (by have := HBB.out; have := HTL.out; omega)).trans R.out) 2 rfl
    have tc1 := box_cell tZ0.out 1 rfl
    have tf1 := box_free tZ0.out 1
    have tZ1 := Lib.hid (box_set tZ0.out 1 (.slice none 0 0) (B := #[.string ⟨#[]⟩, .slice none 0 0, .slice none 0 0, .slice none 0 0, .int .i64 0, .int .i64 0, .int .i64 0]) rfl)
    obtain ⟨t1, ht1⟩ : ∃ v, t0.setCell ⟨b, 1, none⟩ (.slice none 0 0) = v := ⟨_, rfl⟩
    rw [ht1] at tZ1
    have to1 : Only (b) u2 t1 := by rw [← ht1]; exact to0.set 1 _
    have tR1_0 := box_cell ((to1.block (w1.heap.size) (by have := HBB.out; have := HTL.out; omega)).trans R.out) 0 rfl
    have tR1_1 := box_cell ((to1.block (w1.heap.size) (by have := HBB.out; have := HTL.out; omega)).trans R.out) 1 rfl
    have tR1_2 := box_cell ((to1.block (w1.heap.size) (by have := HBB.out; have := HTL.out; omega)).trans R.out) 2 rfl
    have tc2 := box_cell tZ1.out 2 rfl
    have tf2 := box_free tZ1.out 2
    have tZ2 := Lib.hid (box_set tZ1.out 2 (.slice none 0 0) (B := #[.string ⟨#[]⟩, .slice none 0 0, .slice none 0 0, .slice none 0 0, .int .i64 0, .int .i64 0, .int .i64 0]) rfl)
    obtain ⟨t2, ht2⟩ : ∃ v, t1.setCell ⟨b, 2, none⟩ (.slice none 0 0) = v := ⟨_, rfl⟩
    rw [ht2] at tZ2
    have to2 : Only (b) u2 t2 := by rw [← ht2]; exact to1.set 2 _
    have tR2_0 := box_cell ((to2.block (w1.heap.size) (by have := HBB.out; have := HTL.out; omega)).trans R.out) 0 rfl
    have tR2_1 := box_cell ((to2.block (w1.heap.size) (by have := HBB.out; have := HTL.out; omega)).trans R.out) 1 rfl
    have tR2_2 := box_cell ((to2.block (w1.heap.size) (by have := HBB.out; have := HTL.out; omega)).trans R.out) 2 rfl
    have tc3 := box_cell tZ2.out 3 rfl
    have tf3 := box_free tZ2.out 3
    have tZ3 := Lib.hid (box_set tZ2.out 3 (.slice none 0 0) (B := #[.string ⟨#[]⟩, .slice none 0 0, .slice none 0 0, .slice none 0 0, .int .i64 0, .int .i64 0, .int .i64 0]) rfl)
    obtain ⟨t3, ht3⟩ : ∃ v, t2.setCell ⟨b, 3, none⟩ (.slice none 0 0) = v := ⟨_, rfl⟩
    rw [ht3] at tZ3
    have to3 : Only (b) u2 t3 := by rw [← ht3]; exact to2.set 3 _
    have tR3_0 := box_cell ((to3.block (w1.heap.size) (by have := HBB.out; have := HTL.out; omega)).trans R.out) 0 rfl
    have tR3_1 := box_cell ((to3.block (w1.heap.size) (by have := HBB.out; have := HTL.out; omega)).trans R.out) 1 rfl
    have tR3_2 := box_cell ((to3.block (w1.heap.size) (by have := HBB.out; have := HTL.out; omega)).trans R.out) 2 rfl
    have tc4 := box_cell tZ3.out 4 rfl
    have tf4 := box_free tZ3.out 4
    have tZ4 := Lib.hid (box_set tZ3.out 4 (.int .i64 0) (B := #[.string ⟨#[]⟩, .slice none 0 0, .slice none 0 0, .slice none 0 0, .int .i64 0, .int .i64 0, .int .i64 0]) rfl)
    obtain ⟨t4, ht4⟩ : ∃ v, t3.setCell ⟨b, 4, none⟩ (.int .i64 0) = v := ⟨_, rfl⟩
    rw [ht4] at tZ4
    have to4 : Only (b) u2 t4 := by rw [← ht4]; exact to3.set 4 _
    have tR4_0 := box_cell ((to4.block (w1.heap.size) (by have := HBB.out; have := HTL.out; omega)).trans R.out) 0 rfl
    have tR4_1 := box_cell ((to4.block (w1.heap.size) (by have := HBB.out; have := HTL.out; omega)).trans R.out) 1 rfl
    have tR4_2 := box_cell ((to4.block (w1.heap.size) (by have := HBB.out; have := HTL.out; omega)).trans R.out) 2 rfl
    have tc5 := box_cell tZ4.out 5 rfl
    have tf5 := box_free tZ4.out 5
    have tZ5 := Lib.hid (box_set tZ4.out 5 (.int .i64 0) (B := #[.string ⟨#[]⟩, .slice none 0 0, .slice none 0 0, .slice none 0 0, .int .i64 0, .int .i64 0, .int .i64 0]) rfl)
    obtain ⟨t5, ht5⟩ : ∃ v, t4.setCell ⟨b, 5, none⟩ (.int .i64 0) = v := ⟨_, rfl⟩
    rw [ht5] at tZ5
    have to5 : Only (b) u2 t5 := by rw [← ht5]; exact to4.set 5 _
    have tR5_0 := box_cell ((to5.block (w1.heap.size) (by have := HBB.out; have := HTL.out; omega)).trans R.out) 0 rfl
    have tR5_1 := box_cell ((to5.block (w1.heap.size) (by have := HBB.out; have := HTL.out; omega)).trans R.out) 1 rfl
    have tR5_2 := box_cell ((to5.block (w1.heap.size) (by have := HBB.out; have := HTL.out; omega)).trans R.out) 2 rfl
    have tc6 := box_cell tZ5.out 6 rfl
    have tf6 := box_free tZ5.out 6
    have tZ6 := Lib.hid (box_set tZ5.out 6 (.int .i64 0) (B := #[.string ⟨#[]⟩, .slice none 0 0, .slice none 0 0, .slice none 0 0, .int .i64 0, .int .i64 0, .int .i64 0]) rfl)
    obtain ⟨t6, ht6⟩ : ∃ v, t5.setCell ⟨b, 6, none⟩ (.int .i64 0) = v := ⟨_, rfl⟩
    rw [ht6] at tZ6
    have to6 : Only (b) u2 t6 := by rw [← ht6]; exact to5.set 6 _
    have tR6_0 := box_cell ((to6.block (w1.heap.size) (by have := HBB.out; have := HTL.out; omega)).trans R.out) 0 rfl
    have tR6_1 := box_cell ((to6.block (w1.heap.size) (by have := HBB.out; have := HTL.out; omega)).trans R.out) 1 rfl
    have tR6_2 := box_cell ((to6.block (w1.heap.size) (by have := HBB.out; have := HTL.out; omega)).trans R.out) 2 rfl
    have T_z := tZ6
    have B_z := Lib.hid (to6.below B.out (by have := HBB.out; have := HTL.out; omega))
    have R_z := Lib.hid ((to6.block (w1.heap.size) (by have := HBB.out; have := HTL.out; omega)).trans R.out)
    have X_z := Lib.hid ((to6.block (w1.heap.size + 1) (by have := HBB.out; have := HTL.out; omega)).trans X.out)
    have SU_z := Lib.hid (SU.out.only to6 (by have := HBB.out; omega))
    clear to0 tZ0 to1 tZ1 to2 tZ2 to3 tZ3 to4 tZ4 to5 tZ5 to6 tZ6
    clear B T R X SU
    have B := B_z
    have T := T_z
    have R := R_z
    have X := X_z
    have SU := SU_z
    clear B_z T_z R_z X_z SU_z
    have y0 := box_cell T.out 0 rfl
    have y1 := box_cell T.out 1 rfl
    have y2 := box_cell T.out 2 rfl
    have y3 := box_cell T.out 3 rfl
    have y4 := box_cell T.out 4 rfl
    have y5 := box_cell T.out 5 rfl
    have y6 := box_cell T.out 6 rfl
    have rz0 := box_cell R.out 0 rfl
    have rz1 := box_cell R.out 1 rfl
    have rz2 := box_cell R.out 2 rfl
    go_wp2_with fail
    go_region
    go_wp2_with fail
    refine bodyPost_ret (v := .tuple #[.agg #[.string ⟨#[]⟩, .slice none 0 0, .slice none 0 0, .slice none 0 0, .int .i64 0, .int .i64 0, .int .i64 0], .int .i64 c1, .string ⟨#[119, 105, 114, 101]⟩]) ?hres rfl ?_
    case hres => simp [results, Tryz.results18, go_sem, y0, y1, y2, y3, y4, y5, y6]
    rw [HEE.out]
    exact ⟨.inl ⟨HC.out, rfl⟩, B.out.drew⟩
end Pk
end Go.Proofs.YtmeilidjomjocaaGreatDoor

/- The contract of pack.Take: the spec that is read, or none with the first error, of reading or of Check. Conditions: as SpecStep; the bytes that are left are no more than 2^48. -/
set_option linter.unusedVariables false
set_option linter.unusedSimpArgs false
namespace Go.Proofs.YtmeilidjomjocaaGreatDoor
open Go.ChangeShapes Go.WideShapes Go.ChangeAt Go.RowKit Go.Lib
open LebMath WirePure Sd Wire SpecOwn SpecRef
namespace Pk

/-- what each operation of Take's Fail leaves -/
def FTk (g : Nat) (S : Spc) (LA : Option Addr) (lc : Nat) (IA : Option Addr) (ic : Nat) (MA : Option Addr) (mc : Nat) : Nat → Value → World → Prop
  | 3 => fun v _ => v = .agg #[.string S.name, .slice LA S.labels.length lc, .slice IA S.init.length ic, .slice MA S.main.length mc, .int .i64 S.restart, .int .i64 S.grace, .int .i64 S.prio]
  | 4 => SaysK (KR g) (checkV S)
  | 5 => fun v _ => v = .int .i64 (checkV S).1
  | 6 => fun v _ => v = .tuple #[]
  | _ => fun v _ => v = .pointer (some ⟨g, 0, none⟩)
theorem FTk_keep (g : Nat) (S : Spc) (LA : Option Addr) (lc : Nat) (IA : Option Addr) (ic : Nat) (MA : Option Addr) (mc : Nat) (i : Nat) (v : Value) (w w' : World) (h : FTk g S LA lc IA ic MA mc i v w) (hb : AR g w w') : FTk g S LA lc IA ic MA mc i v w' := by
  unfold FTk at h ⊢
  split at h <;> first | exact h | exact SaysK.keep h (kr_keep hb.1)
def tkPlan (g : Nat) (c1 : Int) (l1 : List UInt8) (S : Spc) (LA : Option Addr) (lc : Nat) (IA : Option Addr) (ic : Nat) (MA : Option Addr) (mc : Nat) : Line.Plan where
  A := AR g
  refl := fun w => ⟨Wire.Aside.refl g w, fun h => h⟩
  trans := fun h k => ⟨h.1.trans k.1, fun x => k.2 (h.2 x)⟩
  below := fun h => ⟨Wire.Aside.of_below h, fun ⟨z, hz⟩ => ⟨z, (h.cell (World.block_lt_of_cell? _ _ hz)).trans hz⟩⟩
  cs := [6]
  G := fun j w => if j = 0 then Rd w g c1 l1 else Rd w g (fst c1 (checkV S).1) l1
  F := FTk g S LA lc IA ic MA mc
  keepG := fun j w w' hg hb => by
    split at hg
    · next e => rw [if_pos e]; exact hg.below hb
    · next e => rw [if_neg e]; exact hg.below hb
  keepF := fun i v w w' hf hb => FTk_keep g S LA lc IA ic MA mc i v w w' hf hb
theorem tk_quiet {g : Nat} {c1 : Int} {l1 : List UInt8} {S : Spc} {LA : Option Addr} {lc : Nat} {IA : Option Addr} {ic : Nat} {MA : Option Addr} {mc : Nat} {i : Nat} (hi : i ≠ 6) : i ∉ (tkPlan g c1 l1 S LA lc IA ic MA mc).cs := by simpa [tkPlan] using hi

set_option maxRecDepth 100000 in
set_option maxHeartbeats 2000000 in
theorem take_rd (g : Nat) (c : Int) (l : List UInt8) (hl : Few l) (S : Spc) (c1 : Int) (l1 : List UInt8) (hq : specC.rd c l = (S, c1, l1)) (w0 w : World) (hL : SLaid w0) (hw : Below w0.heap.size w0 w) (hg : w0.heap.size ≤ g) (h : Rd w g c l) :
    Calls Tryz.prog 21 #[.pointer (some ⟨g, 0, none⟩)] w fun e w' => Rd w' g (fst c1 (checkV S).1) l1 ∧ Wire.Aside g w w' ∧
      ((fst c1 (checkV S).1 = 0 ∧ ∃ LA lc IA ic MA mc, e = .returned (.agg #[.string S.name, .slice LA S.labels.length lc, .slice IA S.init.length ic, .slice MA S.main.length mc, .int .i64 S.restart, .int .i64 S.grace, .int .i64 S.prio]) ∧ SpcUp w.heap.size S w' LA IA MA) ∨ (fst c1 (checkV S).1 ≠ 0 ∧ e = .returned (.agg #[.string ⟨#[]⟩, .slice none 0 0, .slice none 0 0, .slice none 0 0, .int .i64 0, .int .i64 0, .int .i64 0]))) := by
  have HLA := Lib.hid (show ∀ v, Wire.Aside g w v → SLaid v from fun v hk => hL.below (below_aside hw hk hg))
  have hok := specC.okay c l
  rw [hq] at hok
  have HOK := Lib.hid hok
  have HFW := Lib.hid hl
  have HQ := Lib.hid hq
  have hgl := h.lt
  obtain ⟨w1, hw1⟩ : ∃ v, w.alloc (.cells #[.string ⟨#[]⟩, .slice none 0 0, .slice none 0 0, .slice none 0 0, .int .i64 0, .int .i64 0, .int .i64 0] 28) = v := ⟨_, rfl⟩
  have hb1 : Below w.heap.size w w1 := by rw [← hw1]; exact (Below.refl _ _).alloc (Nat.le_refl _) _
  have z1 : w1.heap[w.heap.size]? = some (.cells #[.string ⟨#[]⟩, .slice none 0 0, .slice none 0 0, .slice none 0 0, .int .i64 0, .int .i64 0, .int .i64 0] 28 (0, 0)) := by rw [← hw1]; exact heap_alloc_new w _
  have H1 := Lib.hid (h.below hb1)
  have B1 := Lib.hid hb1
  have Z1 := Lib.hid z1
  clear hL hw hg hok hl hq hb1 z1 h
  go_enter Tryz.func21, Tryz.ntmps21
  go_wp2_with fail
  obtain ⟨b0, hb0⟩ : ∃ b, w.heap.size = b := ⟨_, rfl⟩
  have HB0 := Lib.hid hb0
  rw [hb0] at Z1 hgl ⊢
  clear hb0 hw1
  refine (raw_rd g c l HFW.out S c1 l1 HQ.out w1 H1.out).mono ?_
  rintro e w3 ⟨LA, lc, IA, ic, MA, mc, rfl, hup, h3, k3⟩
  have K3 := Lib.hid ((Wire.Aside.of_below (g := g) B1.out).trans k3)
  have Z3 := Lib.hid ((k3.block b0 ⟨lt_of_block Z1.out, by omega⟩).trans Z1.out)
  obtain ⟨w4, hw4⟩ : ∃ v, w3.alloc (.cells #[.string S.name, .slice LA S.labels.length lc, .slice IA S.init.length ic, .slice MA S.main.length mc, .int .i64 S.restart, .int .i64 S.grace, .int .i64 S.prio] 28) = v := ⟨_, rfl⟩
  have hb4 : Below w3.heap.size w3 w4 := by rw [← hw4]; exact (Below.refl _ _).alloc (Nat.le_refl _) _
  have SB4 := Lib.hid (show SBox S LA lc IA ic MA mc w4 w3.heap.size by rw [← hw4]; exact heap_alloc_new w3 _)
  have Z4 := Lib.hid ((hb4.block b0 (lt_of_block Z3.out)).trans Z3.out)
  have R4 := Lib.hid (h3.below hb4)
  have U4 := Lib.hid (show SpcUp (b0 + 1) S w4 LA IA MA from SpcUp.less (hup.below hb4) (by have := lt_of_block Z1.out; omega))
  have K4 := Lib.hid (K3.out.trans2 (hb4.mono K3.out.size))
  have hS3 : b0 < w3.heap.size := lt_of_block Z3.out
  clear hup h3 k3 hb4
  go_wp2_with fail
  obtain ⟨bS, hbS⟩ : ∃ b, w3.heap.size = b := ⟨_, rfl⟩
  rw [hbS] at SB4 hS3 ⊢
  clear hbS hw4
  have hg0 : g ≠ b0 := by omega
  have hgS : g ≠ bS := by omega
  refine Line.wp_region_walk (by kernel_rfl) (by kernel_rfl) (tkPlan g c1 l1 S LA lc IA ic MA mc) (by kernel_rfl) (by kernel_rfl) R4.out ?_ ?_
  · refine ⟨?_, ?_, ?_, ?_, ?_, ?_, ?_, trivial⟩
    · intro a w5 hfr hdep hG
      have f0 : a.tmps.getD 0 undef = .pointer (some ⟨g, 0, none⟩) := hfr.slot 0 (by kernel_rfl)
      refine Line.Step.value (tk_quiet (by decide)) (Line.wanted_free rfl) (v := .pointer (some ⟨g, 0, none⟩)) (w' := w5) ?_ rfl (Below.refl _ _)
      simp [go_sem, Act.eval, f0]
    · intro a w5 hfr hdep hG
      have e0 : a.tmps.getD 6 undef = .pointer (some ⟨g, 0, none⟩) := Loose.dep_of hdep 0 6 (by kernel_rfl)
      refine Line.Step.value (tk_quiet (by decide)) (Line.wanted_free rfl) (v := .pointer (some ⟨g, 0, none⟩)) (w' := w5) ?_ rfl (Below.refl _ _)
      simp [go_sem, Act.eval, e0]
    · intro a w5 hfr hdep hG
      have e0 : a.tmps.getD 7 undef = .pointer (some ⟨g, 0, none⟩) := Loose.dep_of hdep 1 7 (by kernel_rfl)
      refine Line.Step.value (tk_quiet (by decide)) (Line.wanted_free rfl) (v := .pointer (some ⟨g, 0, none⟩)) (w' := w5) ?_ rfl (Below.refl _ _)
      simp [go_sem, Act.eval, e0]
    · intro a w5 hfr hdep hG
      have f0 : a.tmps.getD 3 undef = .pointer (some ⟨bS, 0, none⟩) := hfr.slot 3 (by kernel_rfl)
      have hsb : SBox S LA lc IA ic MA mc w5 bS := (hfr.kept.1.block bS ⟨SB4.out.lt, fun e => hgS e.symm⟩).trans SB4.out
      obtain ⟨hc0, hc1, hc2, hc3, hc4, hc5, hc6⟩ := hsb.cells
      clear hsb
      refine Line.Step.value (tk_quiet (by decide)) (Line.wanted_free rfl) (v := .agg #[.string S.name, .slice LA S.labels.length lc, .slice IA S.init.length ic, .slice MA S.main.length mc, .int .i64 S.restart, .int .i64 S.grace, .int .i64 S.prio]) (w' := w5) ?_ rfl (Below.refl _ _)
      simp [go_sem, Act.eval, f0, hc0, hc1, hc2, hc3, hc4, hc5, hc6]
    · intro a w5 hfr hdep hG
      have e0 : a.tmps.getD 9 undef = .agg #[.string S.name, .slice LA S.labels.length lc, .slice IA S.init.length ic, .slice MA S.main.length mc, .int .i64 S.restart, .int .i64 S.grace, .int .i64 S.prio] := Loose.dep_of hdep 3 9 (by kernel_rfl)
      refine Line.Step.call (tk_quiet (by decide)) (Line.wanted_free rfl) (f := 50) (args := #[.agg #[.string S.name, .slice LA S.labels.length lc, .slice IA S.init.length ic, .slice MA S.main.length mc, .int .i64 S.restart, .int .i64 S.grace, .int .i64 S.prio]]) ?_ ?_
      · simp [go_sem, Act.eval, e0]
      · obtain ⟨z, hz⟩ := hfr.kept.2 ⟨_, (Wire.two_cells R4.out).1⟩
        refine (check_any S LA lc IA ic MA mc (spec_light HOK.out) w5 (HLA.out _ (K4.out.trans hfr.kept.1)) (U4.out.aside (by omega) hfr.kept.1).in).mono ?_
        rintro e w6 ⟨E, rfl, hE, hb⟩
        exact ⟨E, rfl, says_off hE ((hb.cell (World.block_lt_of_cell? _ _ hz)).trans hz), hb⟩
    · intro a w5 hfr hdep hG
      have h0 : SaysK (KR g) (checkV S) (a.tmps.getD 10 undef) w5 := Loose.dep_of hdep 4 10 (by kernel_rfl)
      refine Line.Step.call (tk_quiet (by decide)) (Line.wanted_free rfl) (f := 19) (args := #[a.tmps.getD 10 undef]) ?_ ?_
      · simp [go_sem, Act.eval]
      · refine (code_says h0 (HLA.out _ (K4.out.trans hfr.kept.1)).err).mono ?_
        rintro e w6 ⟨rfl, hb⟩
        exact ⟨_, rfl, rfl, hb⟩
    · intro a w5 hfr hdep hG
      have e0 : a.tmps.getD 8 undef = .pointer (some ⟨g, 0, none⟩) := Loose.dep_of hdep 2 8 (by kernel_rfl)
      have e1 : a.tmps.getD 11 undef = .int .i64 (checkV S).1 := Loose.dep_of hdep 5 11 (by kernel_rfl)
      refine Line.Step.write 0 rfl (Line.wanted_free rfl) (f := 54) (args := #[.pointer (some ⟨g, 0, none⟩), .int .i64 (checkV S).1]) ?_ ?_
      · simp [go_sem, Act.eval, e0, e1]
      · refine (rfail_any g c1 (checkV S).1 l1 w5 (hG 0 rfl)).mono ?_
        rintro e w6 ⟨rfl, h6, k6⟩
        exact ⟨_, rfl, rfl, ⟨k6, fun _ => ⟨_, (Wire.two_cells h6).1⟩⟩, h6⟩
  intro v0 v1 v2 v3 v4 v5 v6 w7 hk7 hC hG7
  have R7 := Lib.hid (show Rd w7 g (fst c1 (checkV S).1) l1 from hG7)
  have k7 := hk7.1
  have K7 := Lib.hid (K4.out.trans k7)
  have U7 := Lib.hid (U4.out.aside (by omega) k7)
  have SB7 := Lib.hid (show SBox S LA lc IA ic MA mc w7 bS from (k7.block bS ⟨SB4.out.lt, fun e => hgS e.symm⟩).trans SB4.out)
  have Z7 := Lib.hid ((k7.block b0 ⟨lt_of_block Z4.out, fun e => hg0 e.symm⟩).trans Z4.out)
  clear hC hG7 hk7 k7
  simp only [SpecOwn.put_lit, List.set_cons_succ, List.set_cons_zero]
  go_wp2_with fail
  refine (code_any g _ l1 w7 R7.out).mono ?_
  rintro e w8 ⟨rfl, rfl⟩
  obtain ⟨cc, hcc⟩ : ∃ d, fst c1 (checkV S).1 = d := ⟨_, rfl⟩
  rw [hcc] at R7 ⊢
  have hccH := Lib.hid hcc
  have z7 := Z7.out
  by_cases hz : cc = 0
  · have HZ := Lib.hid hz
    have hz' : (cc != 0) = false := by simpa using hz
    clear hz
    obtain ⟨y0, y1, y2, y3, y4, y5, y6⟩ := SB7.out.cells
    have vc0 := box_cell z7 0 rfl
    have vf0 := box_free z7 0
    obtain ⟨v1, ve1⟩ : ∃ v, w7.setCell ⟨b0, 0, none⟩ (.string S.name) = v := ⟨_, rfl⟩
    have vz1 := box_set z7 0 (.string S.name) (B := #[.string S.name, .slice none 0 0, .slice none 0 0, .slice none 0 0, .int .i64 0, .int .i64 0, .int .i64 0]) rfl
    rw [ve1] at vz1
    have vo1 : Only b0 w7 v1 := by rw [← ve1]; exact (Only.refl b0 w7).set 0 _
    have vc1 := box_cell vz1 1 rfl
    have vf1 := box_free vz1 1
    obtain ⟨v2, ve2⟩ : ∃ v, v1.setCell ⟨b0, 1, none⟩ (.slice LA S.labels.length lc) = v := ⟨_, rfl⟩
    have vz2 := box_set vz1 1 (.slice LA S.labels.length lc) (B := #[.string S.name, .slice LA S.labels.length lc, .slice none 0 0, .slice none 0 0, .int .i64 0, .int .i64 0, .int .i64 0]) rfl
    rw [ve2] at vz2
    have vo2 : Only b0 w7 v2 := by rw [← ve2]; exact vo1.set 1 _
    have vc2 := box_cell vz2 2 rfl
    have vf2 := box_free vz2 2
    obtain ⟨v3, ve3⟩ : ∃ v, v2.setCell ⟨b0, 2, none⟩ (.slice IA S.init.length ic) = v := ⟨_, rfl⟩
    have vz3 := box_set vz2 2 (.slice IA S.init.length ic) (B := #[.string S.name, .slice LA S.labels.length lc, .slice IA S.init.length ic, .slice none 0 0, .int .i64 0, .int .i64 0, .int .i64 0]) rfl
    rw [ve3] at vz3
    have vo3 : Only b0 w7 v3 := by rw [← ve3]; exact vo2.set 2 _
    have vc3 := box_cell vz3 3 rfl
    have vf3 := box_free vz3 3
    obtain ⟨v4, ve4⟩ : ∃ v, v3.setCell ⟨b0, 3, none⟩ (.slice MA S.main.length mc) = v := ⟨_, rfl⟩
    have vz4 := box_set vz3 3 (.slice MA S.main.length mc) (B := #[.string S.name, .slice LA S.labels.length lc, .slice IA S.init.length ic, .slice MA S.main.length mc, .int .i64 0, .int .i64 0, .int .i64 0]) rfl
    rw [ve4] at vz4
    have vo4 : Only b0 w7 v4 := by rw [← ve4]; exact vo3.set 3 _
    have vc4 := box_cell vz4 4 rfl
    have vf4 := box_free vz4 4
    obtain ⟨v5, ve5⟩ : ∃ v, v4.setCell ⟨b0, 4, none⟩ (.int .i64 S.restart) = v := ⟨_, rfl⟩
    have vz5 := box_set vz4 4 (.int .i64 S.restart) (B := #[.string S.name, .slice LA S.labels.length lc, .slice IA S.init.length ic, .slice MA S.main.length mc, .int .i64 S.restart, .int .i64 0, .int .i64 0]) rfl
    rw [ve5] at vz5
    have vo5 : Only b0 w7 v5 := by rw [← ve5]; exact vo4.set 4 _
    have vc5 := box_cell vz5 5 rfl
    have vf5 := box_free vz5 5
    obtain ⟨v6, ve6⟩ : ∃ v, v5.setCell ⟨b0, 5, none⟩ (.int .i64 S.grace) = v := ⟨_, rfl⟩
    have vz6 := box_set vz5 5 (.int .i64 S.grace) (B := #[.string S.name, .slice LA S.labels.length lc, .slice IA S.init.length ic, .slice MA S.main.length mc, .int .i64 S.restart, .int .i64 S.grace, .int .i64 0]) rfl
    rw [ve6] at vz6
    have vo6 : Only b0 w7 v6 := by rw [← ve6]; exact vo5.set 5 _
    have vc6 := box_cell vz6 6 rfl
    have vf6 := box_free vz6 6
    obtain ⟨v7, ve7⟩ : ∃ v, v6.setCell ⟨b0, 6, none⟩ (.int .i64 S.prio) = v := ⟨_, rfl⟩
    have vz7 := box_set vz6 6 (.int .i64 S.prio) (B := #[.string S.name, .slice LA S.labels.length lc, .slice IA S.init.length ic, .slice MA S.main.length mc, .int .i64 S.restart, .int .i64 S.grace, .int .i64 S.prio]) rfl
    rw [ve7] at vz7
    have vo7 : Only b0 w7 v7 := by rw [← ve7]; exact vo6.set 6 _
    have vr0 := box_cell vz7 0 rfl
    have vr1 := box_cell vz7 1 rfl
    have vr2 := box_cell vz7 2 rfl
    have vr3 := box_cell vz7 3 rfl
    have vr4 := box_cell vz7 4 rfl
    have vr5 := box_cell vz7 5 rfl
    have vr6 := box_cell vz7 6 rfl
    have vO := Lib.hid vo7
    clear vz1 vo1 vz2 vo2 vz3 vo3 vz4 vo4 vz5 vo5 vz6 vo6 vz7 vo7
    clear z7 hcc
    go_wp2_with fail
    refine bodyPost_ret (v := .agg #[.string S.name, .slice LA S.labels.length lc, .slice IA S.init.length ic, .slice MA S.main.length mc, .int .i64 S.restart, .int .i64 S.grace, .int .i64 S.prio]) ?hres rfl ?_
    case hres => simp [results, Tryz.results21, go_sem, vr0, vr1, vr2, vr3, vr4, vr5, vr6]
    rw [hccH.out]
    exact ⟨vO.out.rd R7.out hg0, ⟨vO.out.os.trans K7.out.os, vO.out.tape.trans K7.out.tape, vO.out.output.trans K7.out.output, Nat.le_trans K7.out.size vO.out.size, fun i hi => (vO.out.block i (by have := hi.1; have := HB0.out; omega)).trans (K7.out.block i hi)⟩, .inl ⟨HZ.out, LA, lc, IA, ic, MA, mc, rfl, vO.out.spc U7.out (by omega) (by have := HB0.out; omega)⟩⟩
  · have HZ := Lib.hid hz
    have hz' : (cc != 0) = true := by simpa using hz
    clear hz
    have vc0 := box_cell z7 0 rfl
    have vf0 := box_free z7 0
    obtain ⟨v1, ve1⟩ : ∃ v, w7.setCell ⟨b0, 0, none⟩ (.string ⟨#[]⟩) = v := ⟨_, rfl⟩
    have vz1 := box_set z7 0 (.string ⟨#[]⟩) (B := #[.string ⟨#[]⟩, .slice none 0 0, .slice none 0 0, .slice none 0 0, .int .i64 0, .int .i64 0, .int .i64 0]) rfl
    rw [ve1] at vz1
    have vo1 : Only b0 w7 v1 := by rw [← ve1]; exact (Only.refl b0 w7).set 0 _
    have vc1 := box_cell vz1 1 rfl
    have vf1 := box_free vz1 1
    obtain ⟨v2, ve2⟩ : ∃ v, v1.setCell ⟨b0, 1, none⟩ (.slice none 0 0) = v := ⟨_, rfl⟩
    have vz2 := box_set vz1 1 (.slice none 0 0) (B := #[.string ⟨#[]⟩, .slice none 0 0, .slice none 0 0, .slice none 0 0, .int .i64 0, .int .i64 0, .int .i64 0]) rfl
    rw [ve2] at vz2
    have vo2 : Only b0 w7 v2 := by rw [← ve2]; exact vo1.set 1 _
    have vc2 := box_cell vz2 2 rfl
    have vf2 := box_free vz2 2
    obtain ⟨v3, ve3⟩ : ∃ v, v2.setCell ⟨b0, 2, none⟩ (.slice none 0 0) = v := ⟨_, rfl⟩
    have vz3 := box_set vz2 2 (.slice none 0 0) (B := #[.string ⟨#[]⟩, .slice none 0 0, .slice none 0 0, .slice none 0 0, .int .i64 0, .int .i64 0, .int .i64 0]) rfl
    rw [ve3] at vz3
    have vo3 : Only b0 w7 v3 := by rw [← ve3]; exact vo2.set 2 _
    have vc3 := box_cell vz3 3 rfl
    have vf3 := box_free vz3 3
    obtain ⟨v4, ve4⟩ : ∃ v, v3.setCell ⟨b0, 3, none⟩ (.slice none 0 0) = v := ⟨_, rfl⟩
    have vz4 := box_set vz3 3 (.slice none 0 0) (B := #[.string ⟨#[]⟩, .slice none 0 0, .slice none 0 0, .slice none 0 0, .int .i64 0, .int .i64 0, .int .i64 0]) rfl
    rw [ve4] at vz4
    have vo4 : Only b0 w7 v4 := by rw [← ve4]; exact vo3.set 3 _
    have vc4 := box_cell vz4 4 rfl
    have vf4 := box_free vz4 4
    obtain ⟨v5, ve5⟩ : ∃ v, v4.setCell ⟨b0, 4, none⟩ (.int .i64 0) = v := ⟨_, rfl⟩
    have vz5 := box_set vz4 4 (.int .i64 0) (B := #[.string ⟨#[]⟩, .slice none 0 0, .slice none 0 0, .slice none 0 0, .int .i64 0, .int .i64 0, .int .i64 0]) rfl
    rw [ve5] at vz5
    have vo5 : Only b0 w7 v5 := by rw [← ve5]; exact vo4.set 4 _
    have vc5 := box_cell vz5 5 rfl
    have vf5 := box_free vz5 5
    obtain ⟨v6, ve6⟩ : ∃ v, v5.setCell ⟨b0, 5, none⟩ (.int .i64 0) = v := ⟨_, rfl⟩
    have vz6 := box_set vz5 5 (.int .i64 0) (B := #[.string ⟨#[]⟩, .slice none 0 0, .slice none 0 0, .slice none 0 0, .int .i64 0, .int .i64 0, .int .i64 0]) rfl
    rw [ve6] at vz6
    have vo6 : Only b0 w7 v6 := by rw [← ve6]; exact vo5.set 5 _
    have vc6 := box_cell vz6 6 rfl
    have vf6 := box_free vz6 6
    obtain ⟨v7, ve7⟩ : ∃ v, v6.setCell ⟨b0, 6, none⟩ (.int .i64 0) = v := ⟨_, rfl⟩
    have vz7 := box_set vz6 6 (.int .i64 0) (B := #[.string ⟨#[]⟩, .slice none 0 0, .slice none 0 0, .slice none 0 0, .int .i64 0, .int .i64 0, .int .i64 0]) rfl
    rw [ve7] at vz7
    have vo7 : Only b0 w7 v7 := by rw [← ve7]; exact vo6.set 6 _
    have vr0 := box_cell vz7 0 rfl
    have vr1 := box_cell vz7 1 rfl
    have vr2 := box_cell vz7 2 rfl
    have vr3 := box_cell vz7 3 rfl
    have vr4 := box_cell vz7 4 rfl
    have vr5 := box_cell vz7 5 rfl
    have vr6 := box_cell vz7 6 rfl
    have vO := Lib.hid vo7
    clear vz1 vo1 vz2 vo2 vz3 vo3 vz4 vo4 vz5 vo5 vz6 vo6 vz7 vo7
    clear z7 hcc
    go_wp2_with fail
    refine bodyPost_ret (v := .agg #[.string ⟨#[]⟩, .slice none 0 0, .slice none 0 0, .slice none 0 0, .int .i64 0, .int .i64 0, .int .i64 0]) ?hres rfl ?_
    case hres => simp [results, Tryz.results21, go_sem, vr0, vr1, vr2, vr3, vr4, vr5, vr6]
    rw [hccH.out]
    exact ⟨vO.out.rd R7.out hg0, ⟨vO.out.os.trans K7.out.os, vO.out.tape.trans K7.out.tape, vO.out.output.trans K7.out.output, Nat.le_trans K7.out.size vO.out.size, fun i hi => (vO.out.block i (by have := hi.1; have := HB0.out; omega)).trans (K7.out.block i hi)⟩, .inr ⟨HZ.out, rfl⟩⟩
end Pk
end Go.Proofs.YtmeilidjomjocaaGreatDoor
