/-
  The contracts of spec.frozen, spec.Frozen, spec.Ports: what an update may not change; the ports of the main containers. All that was there is left as it was. Conditions: as SpecStep; specs are light (Book.Light).
-/
import Derived.Test.YtefkaebdfkjkgaaGreatDoorSpecSame
import Derived.Test.YtefkaebdfkjkgaaGreatDoorBookLight
import Derived.Test.YtefkaebdfkjkgaaGreatDoorAppendAny
import Derived.Test.YtefkaebdfkjkgaaGreatDoorSpecCheck
import Derived.StillTailTactics
namespace Go.Proofs.YtefkaebdfkjkgaaGreatDoor
open Go.ChangeShapes Go.WideShapes Go.ChangeAt Go.RowKit Go.Lib
open Sd Lists Book
namespace SpecOwn

/-- an error's code and path -/
abbrev Path := Int × List ByteArray
def frozenC (x y : Ctr) : Path := if butB x y = false then (4, []) else if (x.image.toList == y.image.toList) = false ∧ Text.sameB x.image y.image = false then (33, [t_image]) else (0, [])
def frozenFrom : Nat → List Ctr → List Ctr → Path
  | k, x :: a, y :: b => if (frozenC x y).1 = 0 then frozenFrom (k + 1) a b else ((frozenC x y).1, atB t_main k :: (frozenC x y).2)
  | _, _, _ => (0, [])
def frozenV (S T : Spc) : Path :=
  if (S.name.toList == T.name.toList) = false then (4, [t_name]) else if sameCs S.init T.init = false then (4, [t_init]) else if S.main.length ≠ T.main.length then (4, [t_main]) else frozenFrom 0 S.main T.main

theorem texts_one (s : ByteArray) (w : World) (t : TypeId) : Err.Texts (w.alloc (.cells #[.string s] t)) (some ⟨w.heap.size, 0, none⟩) [s] := by
  intro k x hx
  rcases k with _ | k
  · simp at hx; subst hx; exact ⟨_, rfl, by simp [Addr.add]⟩
  · simp at hx
theorem texts_at {w : World} {g : Nat} {s : ByteArray} (h : w.cell? ⟨g, 0, none⟩ = some (.string s)) : Err.Texts w (some ⟨g, 0, none⟩) [s] := by
  intro k x hx
  rcases k with _ | k
  · simp at hx; subst hx; exact ⟨_, rfl, h⟩
  · simp at hx
theorem optmade {c : Int} {p : List ByteArray} {w w1 w' : World} {e : Ending} (h : Err.OptMade c p w1 e w') (hb : Below w.heap.size w w1) : Err.OptMade c p w e w' := by
  obtain ⟨E, he, h1, h2⟩ := h
  exact ⟨E, he, h1, hb.trans (h2.mono hb.size)⟩

set_option maxRecDepth 100000 in
set_option maxHeartbeats 2000000 in
theorem frozenIn_any (x : Ctr) (P : Option Addr) (pc : Nat) (y : Ctr) (Q : Option Addr) (qc : Nat) (hxp : x.ports.length ≤ 9223372036854775807) (hx : x.image.size ≤ 1000) (hy : y.image.size ≤ 1000) (w : World) (hL : SLaid w) (hP : Nums .i64 w P x.ports) (hQ : Nums .i64 w Q y.ports) :
    Calls Tryz.prog 63 #[.agg #[.string x.name, .string x.image, .int .i64 x.rc, .int .i64 x.rm, .int .i64 x.rp, .int .i64 x.lc, .int .i64 x.lm, .int .i64 x.lp, .slice P x.ports.length pc, .int .i64 x.ev, .int .i64 x.fl], .agg #[.string y.name, .string y.image, .int .i64 y.rc, .int .i64 y.rm, .int .i64 y.rp, .int .i64 y.lc, .int .i64 y.lm, .int .i64 y.lp, .slice Q y.ports.length qc, .int .i64 y.ev, .int .i64 y.fl]] w
      (Err.OptMade (frozenC x y).1 (frozenC x y).2 w) := by
  have hb0 := fun o o' => ((Below.refl w.heap.size w).alloc (Nat.le_refl _) o).alloc (show w.heap.size ≤ (w.alloc o).heap.size by simp) o'
  have HB0 := Lib.hid hb0
  have NP := Lib.hid hP
  have NQ := Lib.hid hQ
  have HL := Lib.hid hL
  clear hb0 hP hQ hL
  go_enter Tryz.func63, Tryz.ntmps63
  go_wp2_with fail
  refine (butImage_any x P pc y Q qc hxp _ (Nums.below NP.out (HB0.out _ _)) (Nums.below NQ.out (HB0.out _ _))).mono ?_
  rintro e w5 ⟨rfl, hb5⟩
  have HB5 := Lib.hid ((HB0.out _ _).trans (hb5.mono (by simp; omega)))
  obtain ⟨hcell, hfroz⟩ := Kit.bcell hb5
  have hz5 : w.heap.size + 1 < w5.heap.size := by have := hb5.size; simp at this; omega
  have hy5 : w.heap.size < w5.heap.size := by omega
  clear hb5
  cases hbut : butB x y with
  | false =>
    have HE := Lib.hid (show frozenC x y = (4, []) by unfold frozenC; rw [if_pos hbut])
    clear hcell hfroz
    go_wp2_with fail
    refine (Err.new_opt 4 none 0 [] w5 (fun k x hx => by simp at hx) (by simp)).mono ?_
    rintro e w6 hE
    have HX := Lib.hid (optmade hE HB5.out)
    obtain ⟨E, rfl, _⟩ := hE
    go_wp2_with fail
    go_ret
    rw [HE.out]
    exact HX.out
  | true =>
    cases him : (x.image.toList == y.image.toList) with
    | true =>
      have HE := Lib.hid (show frozenC x y = (0, []) by unfold frozenC; rw [if_neg (by rw [hbut]; simp), if_neg (by rw [him]; simp)])
      go_wp2
      go_ret
      rw [HE.out]
      exact ⟨_, rfl, .inl ⟨rfl, rfl, rfl⟩, HB5.out⟩
    | false =>
      go_wp2_with fail
      refine (Text.same_any x.image y.image (by omega) (by omega) w5 (HL.out.below HB5.out).text).mono ?_
      rintro e w6 ⟨rfl, hb6⟩
      have HB6 := Lib.hid (HB5.out.trans (hb6.mono HB5.out.size))
      clear hb6 hcell hfroz hz5 hy5
      cases hsm : Text.sameB x.image y.image with
      | true =>
        have HE := Lib.hid (show frozenC x y = (0, []) by unfold frozenC; rw [if_neg (by rw [hbut]; simp), if_neg (by rw [hsm]; simp)])
        go_wp2
        go_ret
        rw [HE.out]
        exact ⟨_, rfl, .inl ⟨rfl, rfl, rfl⟩, HB6.out⟩
      | false =>
        have HE := Lib.hid (show frozenC x y = (33, [t_image]) by unfold frozenC; rw [if_neg (by rw [hbut]; simp), if_pos ⟨him, hsm⟩])
        go_wp2_with fail
        refine (Err.new_opt 33 (some ⟨w6.heap.size, 0, none⟩) 1 [t_image] _ (texts_one t_image w6 _) (by simp)).mono ?_
        rintro e w7 hE
        have HX := Lib.hid (optmade hE (HB6.out.alloc HB6.out.size _))
        obtain ⟨E, rfl, _⟩ := hE
        go_wp2_with fail
        go_ret
        rw [HE.out]
        exact HX.out

/-- from k on -/
def FzHere (a b : List Ctr) (k : Nat) : Prop := frozenFrom 0 a b = frozenFrom k (a.drop k) (b.drop k)
theorem fz_at {a b : List Ctr} {k : Nat} (h : FzHere a b k) (ha : k < a.length) (hb : k < b.length) : frozenFrom 0 a b = if (frozenC a[k] b[k]).1 = 0 then frozenFrom (k + 1) (a.drop (k + 1)) (b.drop (k + 1)) else ((frozenC a[k] b[k]).1, atB t_main k :: (frozenC a[k] b[k]).2) := by
  unfold FzHere at h
  rw [h, List.drop_eq_getElem_cons ha, List.drop_eq_getElem_cons hb, frozenFrom]

set_option maxRecDepth 100000 in
set_option maxHeartbeats 4000000 in
theorem frozen_any (S : Spc) (LA : Option Addr) (lc : Nat) (IA : Option Addr) (ic : Nat) (MA : Option Addr) (mc : Nat) (T : Spc) (LB : Option Addr) (ld : Nat) (IB : Option Addr) (id : Nat) (MB : Option Addr) (md : Nat) (hLS : ∀ x ∈ S.main, x.image.size ≤ 1000) (hLT : ∀ x ∈ T.main, x.image.size ≤ 1000) (hml : S.main.length ≤ 1000000)
    (w : World) (hL : SLaid w) (hS : S.In w LA lc IA ic MA mc) (hT : T.In w LB ld IB id MB md) :
    Calls Tryz.prog 23 #[.agg #[.string S.name, .slice LA S.labels.length lc, .slice IA S.init.length ic, .slice MA S.main.length mc, .int .i64 S.restart, .int .i64 S.grace, .int .i64 S.prio], .agg #[.string T.name, .slice LB T.labels.length ld, .slice IB T.init.length id, .slice MB T.main.length md, .int .i64 T.restart, .int .i64 T.grace, .int .i64 T.prio]] w
      (Err.OptMade (frozenV S T).1 (frozenV S T).2 w) := by
  have hb0 := fun o o' => ((Below.refl w.heap.size w).alloc (Nat.le_refl _) o).alloc (show w.heap.size ≤ (w.alloc o).heap.size by simp) o'
  have HB0 := Lib.hid hb0
  have HS := Lib.hid hS
  have HT := Lib.hid hT
  have HL := Lib.hid hL
  have HLS := Lib.hid hLS
  have HLT := Lib.hid hLT
  clear hb0 hS hT hL hLS hLT
  go_enter Tryz.func23, Tryz.ntmps23
  cases h0 : (S.name.toList == T.name.toList) with
  | false =>
    have HE := Lib.hid (show frozenV S T = (4, [t_name]) by unfold frozenV; rw [if_pos h0])
    go_wp2_with fail
    refine (Err.new_opt 4 (some ⟨w.heap.size + 1 + 1, 0, none⟩) 1 [t_name] _ (by simpa [t_name] using texts_one t_name ((w.alloc _).alloc _) _) (by simp)).mono ?_
    rintro e w7 hE
    have HX := Lib.hid (optmade hE (((HB0.out _ _).alloc (by simp; omega) _)))
    obtain ⟨E, rfl, _⟩ := hE
    go_wp2_with fail
    go_ret
    rw [HE.out]
    exact HX.out
  | true =>
    go_wp2_with fail
    refine (equalFunc_any IA ic S.init IB id T.init HS.out.ni _ (HS.out.below (HB0.out _ _)).init (HT.out.below (HB0.out _ _)).init).mono ?_
    rintro e w5 ⟨rfl, hb5⟩
    have HB5 := Lib.hid ((HB0.out _ _).trans (hb5.mono (by simp; omega)))
    obtain ⟨hcell, hfroz⟩ := Kit.bcell hb5
    have HSB := Lib.hid (show SpecRef.SBox S LA lc IA ic MA mc w5 w.heap.size from (hb5.block w.heap.size (by simp; omega)).trans (by rw [Below.heap_alloc _ _ _ (by simp)]; exact heap_alloc_new w _))
    have HTB := Lib.hid (show SpecRef.SBox T LB ld IB id MB md w5 (w.heap.size + 1) from (hb5.block (w.heap.size + 1) (by simp)).trans (by
      have e : ∀ o, (w.alloc o).heap.size = w.heap.size + 1 := fun o => by simp
      rw [← e (.cells #[.string S.name, .slice LA S.labels.length lc, .slice IA S.init.length ic, .slice MA S.main.length mc, .int .i64 S.restart, .int .i64 S.grace, .int .i64 S.prio] 25)]
      exact heap_alloc_new _ _))
    have hz5 : w.heap.size + 1 < w5.heap.size := by have := hb5.size; simp at this; omega
    have hy5 : w.heap.size < w5.heap.size := by omega
    clear hb5
    cases h1 : sameCs S.init T.init with
    | false =>
      have HE := Lib.hid (show frozenV S T = (4, [t_init]) by unfold frozenV; rw [if_neg (by rw [h0]; simp), if_pos h1])
      clear hcell hfroz
      go_wp2_with fail
      refine (Err.new_opt 4 (some ⟨w5.heap.size, 0, none⟩) 1 [t_init] _ (texts_one t_init w5 _) (by simp)).mono ?_
      rintro e w7 hE
      have HX := Lib.hid (optmade hE (HB5.out.alloc HB5.out.size _))
      obtain ⟨E, rfl, _⟩ := hE
      go_wp2_with fail
      go_ret
      rw [HE.out]
      exact HX.out
    | true =>
      have HZ := Lib.hid (show frozenV S T = if S.main.length ≠ T.main.length then (4, [t_main]) else frozenFrom 0 S.main T.main by unfold frozenV; rw [if_neg (by rw [h0]; simp), if_neg (by rw [h1]; simp)])
      by_cases h2 : S.main.length = T.main.length
      · have HE := Lib.hid (show frozenV S T = frozenFrom 0 S.main T.main by rw [HZ.out, if_neg (by simpa using h2)])
        have HLEN := Lib.hid h2
        simp only [← h2] at hcell hfroz ⊢
        clear h2 HZ h0 h1
        have hml' : (S.main.length : Int) ≤ 1000000 := by omega
        go_wp2_with fail
        clear hcell hfroz
        go_loopw [34] (fun i wr => ∃ k : Nat, k ≤ S.main.length ∧ i = .int .i64 k ∧ Hid (Below w5.heap.size w5 wr) ∧ Hid (FzHere S.main T.main k)) (fun i _ => S.main.length - (RowKit.intOf i).toNat)
        case atStart => exact ⟨0, Nat.zero_le _, rfl, Below.refl _ _, rfl⟩
        case round =>
          obtain ⟨k, hk, rfl, HW, HF⟩ := hrel
          have HBW := Lib.hid (HB5.out.trans (HW.out.mono HB5.out.size))
          by_cases hlt : k < S.main.length
          · have hlb : k < T.main.length := by have := HLEN.out; omega
            have hka : (k : Int) < (S.main.length : Int) := by omega
            have hkb : (k : Int) < (T.main.length : Int) := by omega
            have s3 := (HSB.out.below HW.out).cells.c3
            have t3 := (HTB.out.below HW.out).cells.c3
            obtain ⟨fa, p, P, pc, hMA, hp, hc, nP⟩ := (HS.out.below HBW.out).main.at hlt
            obtain ⟨fb, q, Q, qc, hMB, hq, hd, nQ⟩ := (HT.out.below HBW.out).main.at hlb
            have HAT := Lib.hid (fz_at HF.out hlt hlb)
            have hxi := HLS.out _ (List.getElem_mem hlt)
            have hyi := HLT.out _ (List.getElem_mem hlb)
            obtain ⟨x, hx⟩ : ∃ x, S.main[k] = x := ⟨_, rfl⟩
            obtain ⟨y, hy⟩ : ∃ y, T.main[k] = y := ⟨_, rfl⟩
            rw [hx] at hc nP fa HAT hxi
            rw [hy] at hd nQ fb HAT hyi
            have hxp := fa.ports
            subst hMA hMB
            obtain ⟨c0, c1, c2, c3, c4, c5, c6, c7, c8, c9, c10, _⟩ := hc
            obtain ⟨d0, d1, d2, d3, d4, d5, d6, d7, d8, d9, d10, _⟩ := hd
            have NP := Lib.hid nP
            have NQ := Lib.hid nQ
            clear hx hy hp hq nP nQ fa fb
            go_wp2_with fail
            go_still_tail 10, (by kernel_rfl)
            change wpList _ _ _ _ _ wr.drew
            have hdr : Below wr.heap.size wr wr.drew := (Below.refl _ _).drew
            have HDR := Lib.hid hdr
            have NP2 := Lib.hid (Nums.below NP.out hdr)
            have NQ2 := Lib.hid (Nums.below NQ.out hdr)
            have HBD := Lib.hid (HBW.out.trans (hdr.mono HBW.out.size))
            have HWD := Lib.hid (HW.out.trans (hdr.mono HW.out.size))
            generalize wr.drew = wd at *
            clear hdr s3 t3 c0 c1 c2 c3 c4 c5 c6 c7 c8 c9 c10 d0 d1 d2 d3 d4 d5 d6 d7 d8 d9 d10
            go_wp2_with fail
            refine (frozenIn_any x P pc y Q qc hxp hxi hyi wd (HL.out.below HBD.out) NP2.out NQ2.out).mono ?_
            rintro e w6 ⟨E, rfl, hE, hb6⟩
            have HB6 := Lib.hid (HWD.out.trans (hb6.mono HWD.out.size))
            have HBB := Lib.hid (HBD.out.trans (hb6.mono HBD.out.size))
            have HE6 := Lib.hid hE
            clear hb6
            obtain ⟨r, hr⟩ : ∃ r, frozenC x y = r := ⟨_, rfl⟩
            rw [hr] at HAT HE6 hE
            obtain ⟨c, pth⟩ := r
            rcases hE with ⟨h0, h1, rfl⟩ | ⟨h0, h1⟩
            · have HNX := Lib.hid (show FzHere S.main T.main (k + 1) by
                have := HAT.out
                rw [if_pos h0] at this
                exact this)
              clear h0 h1 hr
              go_wp2
              go_roundw
              case rel => exact ⟨k + 1, by omega, by go_num, HB6.out, HNX.out⟩
              case measure => simp [RowKit.intOf]; omega
            · have HD := Lib.hid (show frozenFrom 0 S.main T.main = (c, atB t_main k :: pth) by rw [HAT.out, if_neg h0])
              have H0 := Lib.hid h0
              obtain ⟨uu, xx, rfl⟩ := h1.iface
              clear h0 h1 hr
              go_wp2_with fail
              refine (member_any t_main k (by decide) (by omega) w6 (HL.out.below HBB.out).tab).mono ?_
              rintro e w7 ⟨rfl, hb7⟩
              have HE7 := Lib.hid (HE6.out.keep hb7)
              have HB7 := Lib.hid (HBB.out.trans (hb7.mono HBB.out.size))
              clear hb7
              go_wp2_with fail
              refine (Err.in_opt HE7.out (atB t_main k)).mono ?_
              rintro e w8 hE8
              have HX := Lib.hid (optmade hE8 HB7.out)
              obtain ⟨E8, rfl, _⟩ := hE8
              go_wp2_with fail
              go_ret
              have hp : Err.pathOf c (atB t_main k :: pth) = atB t_main k :: pth := if_neg H0.out
              have hx := HX.out
              rw [hp] at hx
              rw [HE.out, HD.out]
              exact hx
          · have HD := Lib.hid (show frozenFrom 0 S.main T.main = (0, []) by
              have := HF.out
              unfold FzHere at this
              rw [this, List.drop_eq_nil_of_le (by omega)]; rfl)
            go_wp2
            go_ret
            rw [HE.out, HD.out]
            exact ⟨_, rfl, .inl ⟨rfl, rfl, rfl⟩, HBW.out⟩
      · have HE := Lib.hid (show frozenV S T = (4, [t_main]) by rw [HZ.out, if_pos h2])
        have hlq : ((S.main.length : Int) == (T.main.length : Int)) = false := by simp; omega
        clear h2 HZ h0 h1
        go_wp2_with fail
        refine (Err.new_opt 4 (some ⟨w5.heap.size, 0, none⟩) 1 [t_main] _ (texts_one t_main w5 _) (by simp)).mono ?_
        rintro e w7 hE
        have HX := Lib.hid (optmade hE (HB5.out.alloc HB5.out.size _))
        obtain ⟨E, rfl, _⟩ := hE
        clear hcell hfroz
        go_wp2_with fail
        go_ret
        rw [HE.out]
        exact HX.out
end SpecOwn
end Go.Proofs.YtefkaebdfkjkgaaGreatDoor
