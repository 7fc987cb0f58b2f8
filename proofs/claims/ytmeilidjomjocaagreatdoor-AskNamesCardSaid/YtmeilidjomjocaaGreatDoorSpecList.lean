/-
  The contract of (*taken).list: what is said of the containers of a pod, and what is taken behind. All that was there is left as it was, but what is taken. Conditions: as SpecTake.
-/
import Derived.Test.YtmeilidjomjocaaGreatDoorSpecBox
namespace Go.Proofs.YtmeilidjomjocaaGreatDoor
open Go.ChangeShapes Go.WideShapes Go.ChangeAt Go.RowKit Go.Lib
open Sd Lists
namespace SpecOwn

theorem firstV_size {n : Nat} : ∀ {l : List Say}, (∀ y ∈ l, y.2.size ≤ n) → (firstV l).2.size ≤ n
  | [], _ => by show (0 : Nat) ≤ n; omega
  | y :: l, h => by
    rw [firstV_cons]
    split
    · exact firstV_size fun z hz => h z (by simp [hz])
    · exact h y (by simp)
theorem withinV_size (n l m : Int) (s : ByteArray) (k : Nat) (h : s.size ≤ k) : (withinV n l m s).2.size ≤ k := by
  unfold withinV
  split
  · exact h
  · show (0 : Nat) ≤ k; omega
theorem limitV_size (n l : Int) (s : ByteArray) (k : Nat) (h : s.size ≤ k) : (limitV n l s).2.size ≤ k := by
  unfold limitV
  split
  · show (0 : Nat) ≤ k; omega
  · exact withinV_size _ _ _ _ _ h
theorem portsN_size : ∀ (l : List Int) (P : List Int) (k : Nat), k + l.length ≤ 1000 → (portsN P k l).2.size ≤ 40
  | [], _, _, _ => by show (0 : Nat) ≤ 40; omega
  | z :: zs, P, k, h => by
    have ha : (atB t_ports k).size ≤ 40 := Nat.le_trans (SpecRef.atB_size t_ports k (by simp at h; omega)) (by decide)
    rw [portsN]
    split
    · exact ha
    · split
      · exact ha
      · exact portsN_size zs _ (k + 1) (by simp at h; omega)
theorem oneN_size (x : Ctr) (N : List ByteArray) (P : List Int) (mp me : Int) (hp : x.ports.length ≤ 1000) : (oneN x N P mp me).2.size ≤ 40 := by
  unfold oneN
  refine firstV_size fun y hy => ?_
  simp only [List.mem_cons, List.not_mem_nil, or_false] at hy
  rcases hy with rfl | rfl | rfl | rfl | rfl | rfl
  · unfold nameN
    split
    · decide
    · split <;> decide
  · unfold imageN newV
    split <;> (split <;> decide)
  · unfold reqN
    refine firstV_size fun y hy => ?_
    simp only [List.mem_cons, List.not_mem_nil, or_false] at hy
    rcases hy with rfl | rfl | rfl <;> exact withinV_size _ _ _ _ _ (by decide)
  · unfold limN
    refine firstV_size fun y hy => ?_
    simp only [List.mem_cons, List.not_mem_nil, or_false] at hy
    rcases hy with rfl | rfl | rfl <;> exact limitV_size _ _ _ _ (by decide)
  · unfold portsL
    split
    · decide
    · exact portsN_size _ _ _ (by omega)
  · unfold probeN
    refine firstV_size fun y hy => ?_
    simp only [List.mem_cons, List.not_mem_nil, or_false] at hy
    rcases hy with rfl | rfl <;> exact withinV_size _ _ _ _ _ (by decide)

/-- what a list says, from k on -/
def LsHere (name : ByteArray) (mp me : Int) (N : List ByteArray) (P : List Int) (l : List Ctr) (k : Nat) : Prop :=
  listFrom name mp me 0 N P l = listFrom name mp me k (N ++ (l.take k).map (·.name)) (P ++ (l.take k).flatMap (·.ports)) (l.drop k)
theorem ls_zero (name : ByteArray) (mp me : Int) (N : List ByteArray) (P : List Int) (l : List Ctr) : LsHere name mp me N P l 0 := by
  unfold LsHere; simp
theorem ls_at {name : ByteArray} {mp me : Int} {N : List ByteArray} {P : List Int} {l : List Ctr} {k : Nat} (h : LsHere name mp me N P l k) (hk : k < l.length) :
    listFrom name mp me 0 N P l = if (oneN l[k] (N ++ (l.take k).map (·.name)) (P ++ (l.take k).flatMap (·.ports)) mp me).1 = 0 then
      listFrom name mp me (k + 1) (N ++ (l.take k).map (·.name) ++ [l[k].name]) (P ++ (l.take k).flatMap (·.ports) ++ l[k].ports) (l.drop (k + 1)) else inV (atB name k) (oneN l[k] (N ++ (l.take k).map (·.name)) (P ++ (l.take k).flatMap (·.ports)) mp me) := by
  unfold LsHere at h
  rw [h, List.drop_eq_getElem_cons hk, listFrom]
theorem take_next (N : List ByteArray) (P : List Int) (l : List Ctr) {k : Nat} (hk : k < l.length) : N ++ (l.take (k + 1)).map (·.name) = N ++ (l.take k).map (·.name) ++ [l[k].name] ∧ P ++ (l.take (k + 1)).flatMap (·.ports) = P ++ (l.take k).flatMap (·.ports) ++ l[k].ports := by
  rw [List.take_succ_eq_append_getElem hk, List.map_append, List.flatMap_append, ← List.append_assoc, ← List.append_assoc]
  exact ⟨rfl, by simp⟩
theorem ls_next {name : ByteArray} {mp me : Int} {N : List ByteArray} {P : List Int} {l : List Ctr} {k : Nat} (h : LsHere name mp me N P l k) (hk : k < l.length)
    (h0 : (oneN l[k] (N ++ (l.take k).map (·.name)) (P ++ (l.take k).flatMap (·.ports)) mp me).1 = 0) : LsHere name mp me N P l (k + 1) := by
  have := ls_at h hk
  rw [if_pos h0] at this
  unfold LsHere
  rw [this, (take_next N P l hk).1, (take_next N P l hk).2]
theorem ls_end {name : ByteArray} {mp me : Int} {N : List ByteArray} {P : List Int} {l : List Ctr} {k : Nat} (h : LsHere name mp me N P l k) (hk : l.length ≤ k) : listFrom name mp me 0 N P l = fine := by
  unfold LsHere at h
  rw [h, List.drop_eq_nil_of_le hk]; rfl
theorem flat_len (l : List Ctr) (h : ∀ x ∈ l, x.ports.length ≤ 10) : (l.flatMap (·.ports)).length ≤ 10 * l.length := by
  induction l with
  | nil => simp
  | cons x l ih =>
    have h1 := h x (by simp)
    have h2 := ih fun y hy => h y (by simp [hy])
    simp only [List.flatMap_cons, List.length_append, List.length_cons]
    omega

/-- a call ends with what says y; where nothing is wrong, N and P are taken -/
def TookList (g : Nat) (y : Say) (N : List ByteArray) (P : List Int) (n p : Nat) (w : World) (e : Ending) (w' : World) : Prop :=
  ∃ N' P', Took g y N' P' w e w' ∧ (y.1 = 0 → N' = N ∧ P' = P) ∧ N'.length ≤ n ∧ P'.length ≤ p

set_option maxRecDepth 100000 in
set_option maxHeartbeats 4000000 in
theorem list_any (wb : World) (hL : SLaid wb) (g : Nat) (hg0 : wb.heap.size ≤ g) (name : ByteArray) (hn : name.size ≤ 100) (IA : Option Addr) (ic : Nat) (l : List Ctr) (hl : Ctrs wb IA l) (hlight : ∀ x ∈ l, x.name.size ≤ 100 ∧ x.image.size ≤ 100 ∧ x.ports.length ≤ 10)
    (least most mp me : Int) (hmost : most ≤ 10) (hmp0 : 0 ≤ mp) (hmp : mp ≤ 10) (N : List ByteArray) (P : List Int) (hN : N.length ≤ 200) (hP : P.length ≤ 400) (w : World) (hb0 : Below wb.heap.size wb w) (hT : Tk w g N P) :
    Calls Tryz.prog 90 #[.pointer (some ⟨g, 0, none⟩), .string name, .slice IA l.length ic, .agg #[.int .i64 least, .int .i64 most, .int .i64 mp, .int .i64 me]] w
      (TookList g (listN name least most mp me N P l) (N ++ l.map (·.name)) (P ++ l.flatMap (·.ports)) (N.length + 20) (P.length + 200) w) := by
  have HL := Lib.hid hL
  have HT := Lib.hid hT
  have HC := Lib.hid hl
  have HBW := Lib.hid hb0
  have HLI := Lib.hid hlight
  have HOK := Lib.hid hT.ok
  have hlt := hT.lt
  clear hL hT hl hb0 hlight
  have long : ∀ w1 : World, Below w.heap.size w w1 → (l.length : Int) < least ∨ most < (l.length : Int) → ∀ e w2, Tells (newV 2 name) w1 e w2 → TookList g (listN name least most mp me N P l) (N ++ l.map (·.name)) (P ++ l.flatMap (·.ports)) (N.length + 20) (P.length + 200) w e w2 := by
    intro w1 h1 hc e w2 ht
    obtain ⟨E, rfl, h2, h3⟩ := ht
    have hE : listN name least most mp me N P l = newV 2 name := by unfold listN newV; rw [if_pos hc, if_neg (by decide)]
    rw [hE]
    exact ⟨N, P, tells_on (HT.out.keep h1) (.of_any h1) ⟨E, rfl, h2, h3⟩, fun h => by simp [newV] at h, by omega, by omega⟩
  have LONG := Lib.hid long
  clear long
  by_cases h1 : (l.length : Int) < least
  · go_enter Tryz.func90, Tryz.ntmps90
    go_wp2_with fail
    refine (new_says 2 name (w.heap.size + 1) 1 _ (by omega) (by simp)).mono ?_
    rintro e w2 hE
    have HX := Lib.hid (LONG.out _ (((Below.refl w.heap.size w).alloc (Nat.le_refl _) _).alloc (by simp) _) (.inl h1) e w2 hE)
    obtain ⟨E, rfl, _⟩ := hE
    go_wp2_with fail
    go_ret
    exact HX.out
  · by_cases h2 : most < (l.length : Int)
    · go_enter Tryz.func90, Tryz.ntmps90
      go_wp2_with fail
      refine (new_says 2 name (w.heap.size + 1) 1 _ (by omega) (by simp)).mono ?_
      rintro e w2 hE
      have HX := Lib.hid (LONG.out _ (((Below.refl w.heap.size w).alloc (Nat.le_refl _) _).alloc (by simp) _) (.inr h2) e w2 hE)
      obtain ⟨E, rfl, _⟩ := hE
      go_wp2_with fail
      go_ret
      exact HX.out
    · have HE := Lib.hid (show listN name least most mp me N P l = listFrom name mp me 0 N P l by unfold listN; rw [if_neg (by omega)])
      clear LONG
      go_enter Tryz.func90, Tryz.ntmps90
      go_wp2_with fail
      obtain ⟨w3, hw3⟩ : ∃ w3, w.alloc (.cells #[.int .i64 least, .int .i64 most, .int .i64 mp, .int .i64 me] 149) = w3 := ⟨_, rfl⟩
      have hb3 : Below w.heap.size w w3 := by rw [← hw3]; exact (Below.refl _ _).alloc (Nat.le_refl _) _
      have HB3 := Lib.hid hb3
      have HT3 := Lib.hid (HT.out.keep hb3)
      have HOK3 := Lib.hid HT3.out.ok
      have HB0 := Lib.hid (HBW.out.trans (hb3.mono HBW.out.size))
      have HB2 := Lib.hid (show w3.heap[w.heap.size]? = some (.cells #[.int .i64 least, .int .i64 most, .int .i64 mp, .int .i64 me] 149 (0, 0)) by
        rw [← hw3]; exact heap_alloc_new w _)
      have HO2 := Lib.hid (HT.out.ok.fresh hb3 (b := w.heap.size) (Nat.le_refl _) (by rw [← hw3]; simp))
      rw [hw3]
      obtain ⟨b2, hb2⟩ : ∃ b, w.heap.size = b := ⟨_, rfl⟩
      rw [hb2] at HB2 HO2 ⊢
      clear hw3 hb2 hb3
      go_loopw [29] (fun i wr => ∃ k : Nat, k ≤ l.length ∧ i = .int .i64 k ∧ Hid (Tk wr g (N ++ (l.take k).map (·.name)) (P ++ (l.take k).flatMap (·.ports))) ∧ Hid (Av g w3 wr) ∧ Hid (LsHere name mp me N P l k)) (fun i _ => l.length - (RowKit.intOf i).toNat)
      case atStart => exact ⟨0, Nat.zero_le _, rfl, by unfold Hid; simpa using HT3.out, Av.refl _ _, ls_zero _ _ _ _ _ _⟩
      case round =>
        obtain ⟨k, hk, rfl, HTk, HAv, HLs⟩ := hrel
        by_cases hkl : k < l.length
        · have hkn : (k : Int) < (l.length : Int) := by omega
          have HBr := Lib.hid (HAv.out.base HB0.out hg0)
          obtain ⟨hfit, a, PA, pc, hIA, ha, hcell, hnum⟩ := (HC.out).at hkl
          have HNX := Lib.hid hnum
          have hcr := hcell.keep (w' := wr) (by rw [add_block]; exact HBr.out.block _ ha)
          have hlx := HLI.out _ (List.getElem_mem hkl)
          have HAT := Lib.hid (ls_at HLs.out hkl)
          have HNEXT := Lib.hid (ls_next HLs.out hkl)
          have HTN := Lib.hid (take_next N P l hkl)
          have hlen1 : (N ++ (l.take k).map (·.name)).length ≤ N.length + 10 := by simp [List.length_take]; omega
          have hlen2 : (P ++ (l.take k).flatMap (·.ports)).length ≤ P.length + 100 := by
            have := flat_len (l.take k) (fun x hx => (HLI.out x (List.mem_of_mem_take hx)).2.2)
            rw [List.length_take] at this
            rw [List.length_append]; omega
          obtain ⟨x, hx⟩ : ∃ x, l[k] = x := ⟨_, rfl⟩
          rw [hx] at hcr hlx HAT HNEXT HNX HTN
          obtain ⟨Nk, hNk⟩ : ∃ Nk, N ++ (l.take k).map (·.name) = Nk := ⟨_, rfl⟩
          obtain ⟨Pk, hPk⟩ : ∃ Pk, P ++ (l.take k).flatMap (·.ports) = Pk := ⟨_, rfl⟩
          rw [hNk] at HTk HAT HNEXT hlen1 HTN
          rw [hPk] at HTk HAT HNEXT hlen2 HTN
          have hbk := ((HAv.out.ok HOK3.out).2 b2 HO2.out).2.trans HB2.out
          have hbl := SpecOwn.lt_of_block hbk
          have HALL := Lib.hid (fun o => (Below.heap_alloc wr o b2 hbl).trans hbk)
          have g0 : ∀ o, (wr.alloc o).cell? ⟨b2, 0, none⟩ = some (.int .i64 least) := fun o => by simp [World.cell?, HALL.out o]
          have g1 : ∀ o, (wr.alloc o).cell? ⟨b2, 1, none⟩ = some (.int .i64 most) := fun o => by simp [World.cell?, HALL.out o]
          have g2 : ∀ o, (wr.alloc o).cell? ⟨b2, 2, none⟩ = some (.int .i64 mp) := fun o => by simp [World.cell?, HALL.out o]
          have g3 : ∀ o, (wr.alloc o).cell? ⟨b2, 3, none⟩ = some (.int .i64 me) := fun o => by simp [World.cell?, HALL.out o]
          obtain ⟨y0, y1, y2⟩ := hlx
          have hrun := fun (wn : World) (h1 : Below wb.heap.size wb wn) (h2 : Tk wn g Nk Pk) => container_any wb HL.out g hg0 x PA pc HNX.out (by omega) (by omega) (by omega) least most mp me Nk Pk (by omega) (by omega) wn h1 h2
          have hsz := oneN_size x Nk Pk mp me (by omega)
          obtain ⟨f0, f1, f2, f3, f4, f5, f6, f7, f8, f9, f10, _⟩ := hcr
          subst hIA
          clear hcell hnum hx hNk hPk hbk
          go_wp2_with fail
          have hal : Below wr.heap.size wr (wr.alloc (.cells #[.string x.name, .string x.image, .int .i64 x.rc, .int .i64 x.rm, .int .i64 x.rp, .int .i64 x.lc, .int .i64 x.lm, .int .i64 x.lp, .slice PA x.ports.length pc, .int .i64 x.ev, .int .i64 x.fl] 74)) := (Below.refl _ _).alloc (Nat.le_refl _) _
          have HAL := Lib.hid hal
          refine (hrun _ (HBr.out.trans (hal.mono HBr.out.size)) (HTk.out.keep hal)).mono ?_
          rintro e w5 ⟨E, rfl, hE, hA, hT⟩
          have HAV5 := Lib.hid (HAv.out.trans ((Av.of_any hal).trans hA))
          have HT5 := Lib.hid hT
          have HE5 := Lib.hid hE
          have hnil := hE.nil_iff
          clear hrun hal hA hT g0 g1 g2 g3 f0 f1 f2 f3 f4 f5 f6 f7 f8 f9 f10
          obtain ⟨y, hy⟩ : ∃ y, oneN x Nk Pk mp me = y := ⟨_, rfl⟩
          rw [hy] at HE5 HAT HNEXT hsz hnil
          have HY := Lib.hid hy
          by_cases hz : y.1 = 0
          · obtain rfl := hnil.2 hz
            have HNX2 := Lib.hid (HNEXT.out hz)
            have hna : nameAfter x.name Nk = Nk ++ [x.name] := by
              refine nameAfter_fine (firstV_fine (l := [nameN x.name Nk, imageN x.image, reqN x.rc x.rm x.rp, limN x.lc x.lm x.lp x.rc x.rm x.rp, portsL Pk mp x.ports, probeN x.ev x.fl me]) (show (oneN x Nk Pk mp me).1 = 0 by rw [hy]; exact hz) _ (by simp))
            have hpa : portsLAfter Pk mp x.ports = Pk ++ x.ports := by
              refine portsLAfter_fine (firstV_fine (l := [nameN x.name Nk, imageN x.image, reqN x.rc x.rm x.rp, limN x.lc x.lm x.lp x.rc x.rm x.rp, portsL Pk mp x.ports, probeN x.ev x.fl me]) (show (oneN x Nk Pk mp me).1 = 0 by rw [hy]; exact hz) _ (by simp))
            have HT6 := Lib.hid (show Tk w5 g (N ++ (l.take (k + 1)).map (·.name)) (P ++ (l.take (k + 1)).flatMap (·.ports)) by
              rw [HTN.out.1, HTN.out.2, ← hna, ← hpa]; exact HT5.out)
            clear hE hy hnil hna hpa
            go_wp2
            go_roundw
            case rel => exact ⟨k + 1, by omega, by go_num, HT6.out, HAV5.out, HNX2.out⟩
            case measure => simp [RowKit.intOf]; omega
          · obtain ⟨uu, xx, rfl⟩ : ∃ uu xx, E = .iface uu xx := by
              rcases hE.form with h | h
              · exact absurd (hnil.1 h) hz
              · exact h
            have HF := Lib.hid (show listFrom name mp me 0 N P l = inV (atB name k) y by rw [HAT.out, if_neg hz])
            have HZ := Lib.hid hz
            have asz := SpecRef.atB_size name k (by omega)
            have hN2 := nameAfter_len x.name Nk
            have hP2 := portsLAfter_len x.ports Pk mp hmp0
            have HB5 := Lib.hid (HAV5.out.base HB0.out hg0)
            clear hE hy hnil hz
            go_wp2_with fail
            refine (member_any name k (by omega) (by omega) w5 (HL.out.below HB5.out).tab).mono ?_
            rintro e w6 ⟨rfl, hb6⟩
            obtain ⟨u, hu⟩ : ∃ u, atB name k = u := ⟨_, rfl⟩
            rw [hu] at HF asz ⊢
            have HT6 := Lib.hid (HT5.out.keep hb6)
            have HE6 := Lib.hid (Says.keep (D' := Off g w6) (w' := w6) HE5.out fun b h _ => ((Av.of_any hb6).ok HT5.out.ok).2 b h)
            have HAV6 := Lib.hid (HAV5.out.trans (.of_any hb6))
            clear hb6 hu
            go_wp2_with fail
            refine (in_says HE6.out u (by omega)).mono ?_
            rintro e w7 ⟨E', rfl, hE7, hb7⟩
            have HX := Lib.hid (show TookList g (inV u y) (N ++ l.map (·.name)) (P ++ l.flatMap (·.ports)) (N.length + 20) (P.length + 200) w (.returned E') w7 from
              ⟨_, _, ⟨_, rfl, Says.keep hE7 fun b hd hlt => ⟨hd.elim (fun h => ((Av.of_any hb7).ok HT6.out.ok).2 b h |>.1) fun h => HT6.out.ok.fresh hb7 h hlt, rfl⟩, (Av.of_any HB3.out).trans (HAV6.out.trans (.of_any hb7)), HT6.out.keep hb7⟩,
                fun h => absurd h (by unfold inV; rw [if_neg HZ.out]; exact HZ.out), by omega, by omega⟩)
            clear hE7 hb7
            go_wp2
            go_ret
            rw [HE.out, HF.out]
            exact HX.out
        · have HF := Lib.hid (show listFrom name mp me 0 N P l = fine from ls_end HLs.out (by omega))
          have hkk : k = l.length := by omega
          subst hkk
          go_wp2
          go_ret
          rw [HE.out, HF.out]
          have ht := HTk.out
          rw [List.take_length] at ht
          refine ⟨_, _, ⟨_, rfl, .inl ⟨rfl, rfl⟩, (Av.of_any HB3.out).trans HAv.out, ht⟩, fun _ => ⟨rfl, rfl⟩, ?_, ?_⟩
          · simp; omega
          · have := flat_len l (fun x hx => (HLI.out x hx).2.2)
            rw [List.length_append]; omega
end SpecOwn
end Go.Proofs.YtmeilidjomjocaaGreatDoor
