/-
  EvlogFollows: whoever goes on from the last revision seen sees every event once. No condition.
-/
import Derived.Test.YtldhlilcfadieaaEgActs
import Derived.Test.YtldhlilcfadieaaEgFollow
set_option linter.unusedVariables false
set_option linter.unusedSimpArgs false
namespace Go.Proofs.Ytldhlilcfadieaa
open Go.ChangeShapes Go.WideShapes Go.ChangeAt Go.RowKit Go.Lib
open Lists
namespace EvlogFollowsWalk
open Eg

def revV (r : Nat) : Value := .int .u64 (r : Int)
/-- blocks that are not the log's: those ahead of it, and the row of what was added -/
def Mine (g : Nat) (v : Value) : Nat → Prop := fun b => b < g ∨ v.ownBlock = some b
/-- the log, the row of what was added, and what was there -/
structure Fm (w : World) (g : Nat) (wr : World) (A2 : Option Addr) (c2 : Nat) (all rs : List Nat) (fl mo : Nat) : Prop where
  lg : Lg wr g (Mine g (.slice A2 all.length c2)) rs fl mo
  row : wr.ownsRow (g + 1) 26 1 (.slice A2 all.length c2) all.length (all.map revV)
  bel : Below w.heap.size w wr
theorem Fm.ds {w wr : World} {g : Nat} {A2 : Option Addr} {c2 : Nat} {all rs : List Nat} {fl mo : Nat} (h : Fm w g wr A2 c2 all rs fl mo) : ∀ b, Mine g (.slice A2 all.length c2) b → b < wr.heap.size := fun b hb => by
  rcases hb with hb | hb
  · exact Nat.lt_trans hb h.lg.lt
  · exact (owns_lt h.row hb).2
theorem Fm.step {w wr w5 : World} {g : Nat} {A2 : Option Addr} {c2 : Nat} {all rs rs' : List Nat} {fl fl' mo : Nat} (h : Fm w g wr A2 c2 all rs fl mo) (hs : w.heap.size ≤ g) {D3 : Nat → Prop} (hsub : ∀ b, Mine g (.slice A2 all.length c2) b → D3 b) (L5 : Lg w5 g D3 rs' fl' mo) (hk : Kp (Mine g (.slice A2 all.length c2)) wr w5) : Fm w g w5 A2 c2 all rs' fl' mo :=
  ⟨L5.move (Nat.le_refl _) (fun _ _ _ => rfl) (fun b hd => .inl (hsub b hd)), owns_of h.row (fun r hr => hk.block r (owns_lt h.row hr).2 (.inr hr)), h.bel.trans (hk.below h.bel.size (fun k hk => .inl (Nat.lt_of_lt_of_le hk hs)))⟩
theorem Fm.below {w wr w5 : World} {g : Nat} {A2 : Option Addr} {c2 : Nat} {all rs : List Nat} {fl mo : Nat} (h : Fm w g wr A2 c2 all rs fl mo) (hs : w.heap.size ≤ g) (hb : Below wr.heap.size wr w5) : Fm w g w5 A2 c2 all rs fl mo :=
  h.step hs (fun b hb => hb) (h.lg.below hb) (Kp.of_below hb)
theorem Fm.app {w w5 w6 : World} {X : Obj} {g : Nat} {A2 A' : Option Addr} {c2 c' : Nat} {all rs : List Nat} {fl mo r : Nat} (h : Fm w g w5 A2 c2 all rs fl mo) (hs : w.heap.size ≤ g)
    (hown : w6.ownsRow (g + 1) 26 1 (.slice A' (all.length + 1) c') (all.length + 1) (all.map revV ++ [revV r])) (hgrow : (w5.alloc X).grownBy w6 (Value.slice A2 all.length c2).ownBlock)
    (hat : (Value.slice A' (all.length + 1) c').ownBlock = (Value.slice A2 all.length c2).ownBlock ∨ (Value.slice A' (all.length + 1) c').ownBlock = some (w5.alloc X).heap.size) : Fm w g w6 A' c' (all ++ [r]) rs fl mo := by
  have hll : (all ++ [r]).length = all.length + 1 := by simp
  have hsz : (w5.alloc X).heap.size = w5.heap.size + 1 := by simp
  have hs6 := hgrow.size
  refine ⟨?_, ?_, ?_⟩
  · rw [hll]
    refine h.lg.move (by omega) (fun b hl hd => ?_) (fun b hd => ?_)
    · exact (hgrow.block b (by omega) (fun e => hd (.inr e.symm))).trans (Below.heap_alloc w5 X b hl)
    · rcases hd with hd | hd
      · exact .inl (.inl hd)
      · rcases hat with e | e
        · exact .inl (.inr (e ▸ hd))
        · rw [e] at hd; injection hd with hd; exact .inr (by omega)
  · rw [hll, List.map_append]
    exact hown
  · exact (h.bel.alloc h.bel.size X).grown hgrow (Nat.le_trans h.bel.size (by omega)) (fun k hk => by have := (owns_lt h.row hk).1; omega)
/-- append: where the row lies afterwards is told, too -/
theorem wpList_append_at {P : Program} {w : World} {ops : Array Oper} {rest : List Oper} {o : Oper} {a : Act} {Q : Exit → Act → World → Prop} (hgd : o.guard = none) (s x : Operand) (t : TypeId)
    (ho : o.op = .call { callee := .builtin .append, args := #[s, x], argTypes := #[t, t] })
    (base : Nat) (e : TypeId) (i : TypeInfo) (z : Value) (size bytes : Nat) (ht : P.underlying t = some (.slice e)) (hi : P.info? e = some i) (hz : i.zero = some z)
    (hsize : i.size = size) (hby : i.bytes = bytes) (hzs : z.cells.size = size) (hsz : 0 < size)
    (v : Value) (n : Nat) (xs : List Value) (hs : a.eval s = v) (hown : w.ownsRow base e size v n xs)
    (ad : Addr) (m c : Nat) (news : List Value) (hx : a.eval x = .slice (some ad) m c) (hl : news.length = m * size)
    (hnews : ∀ j u, news[j]? = some u → w.cell? (ad.add j) = some u) (h1 : ∀ u ∈ news, u.oneCell' = true)
    (h63 : n + m ≤ maxLen) (hbytes : (n + m) * bytes ≤ 140737488355328) (hbase : base ≤ w.heap.size)
    (h : ∀ A' c' w', w'.ownsRow base e size (.slice A' (n + m) c') (n + m) (xs ++ news) → w.grownBy w' v.ownBlock → ((Value.slice A' (n + m) c').ownBlock = v.ownBlock ∨ (Value.slice A' (n + m) c').ownBlock = some w.heap.size) → wpList P ops Q rest (a.put o.dst (.slice A' (n + m) c')) w') : wpList P ops Q (o :: rest) a w := by
  refine wpList_plain hgd fun K hK => ?_
  obtain ⟨v', w', hr, h2, h3, h4, h5⟩ := run_append_own_at (P := P) w base t o.type e i z size bytes ht hi hz hsize hby hzs hsz v n xs hown ad m c news hl hnews h1 h63 hbytes hbase
  have hf : ∃ A' c', v' = .slice A' (n + m) c' := own_form h2
  obtain ⟨A', c', rfl⟩ := hf
  unfold Oper.wp execOp
  simp only [ho, resolve, invoke, builtin, Sem.run_bind, Sem.run_pure, Result.andThen_ok, List.map_toArray, List.map_cons, List.map_nil, hs, hx, hr]
  exact hK _ _ (h A' c' w' h2 h3 h5)
theorem info_u64 : (Try.prog.info? 26).map (fun i => (i.zero, i.size, i.bytes)) = some (some (.int .u64 0), 1, 8) := by kernel_rfl

set_option maxRecDepth 100000 in
set_option maxHeartbeats 4000000 in
theorem walk (m : Int) (hm : -9223372036854775808 ≤ m ∧ m ≤ 9223372036854775807) (A : Option Addr) (c : Nat) (l : List Ac) (hlen : l.length ≤ 9223372036854775807) (w : World) (hA : Acts w A l) :
    Calls Try.prog 3 #[.int .i64 m, .slice A l.length c] w fun e w' => e = .returned (.bool true) ∧ Below w.heap.size w w' := by
  have HA := Lib.hid hA
  have HLE := Lib.hid hlen
  have HM := Lib.hid hm
  obtain ⟨mo, hmo⟩ : ∃ mo : Nat, (mo : Int) = min (max m 1) 64 := ⟨(min (max m 1) 64).toNat, by omega⟩
  have HMO := Lib.hid hmo
  have GM := Lib.hid (show Eg.Good 0 [] mo from ⟨up_nil 0, by decide, (fun r hr => by cases hr), by simp, by omega, by omega⟩)
  obtain ⟨K, hK1, hK2, hK3⟩ : ∃ K, K ≤ l.length ∧ K ≤ 100 ∧ (K = l.length ∨ (K = 100 ∧ K < l.length)) := by
    by_cases h : l.length ≤ 100
    · exact ⟨l.length, by omega, h, .inl rfl⟩
    · exact ⟨100, by omega, by omega, .inr ⟨rfl, by omega⟩⟩
  have HK := Lib.hid hK3
  obtain ⟨i8, hi8, hz80, hz81, hz82⟩ := info_parts info_u64
  clear hA hlen hm hmo hK3
  go_enter Try.func3, Try.ntmps3
  go_wp2_with fail
  refine (works_any w).mono ?_
  rintro e w1 ⟨rfl, hb1⟩
  have B1 := Lib.hid hb1
  clear hb1
  go_wp2_with fail
  refine (new_any m HM.out mo HMO.out w1).mono ?_
  rintro e w2 ⟨rfl, hl2, hb2⟩
  obtain ⟨g, hg⟩ : ∃ g, w1.heap.size = g := ⟨_, rfl⟩
  rw [hg] at hl2 ⊢
  have HG := Lib.hid (show w.heap.size ≤ g by have := B1.out.size; omega)
  have F0 := Lib.hid (show Fm w g (w2.alloc (.cells #[] 26)) (some ⟨w2.heap.size, 0, none⟩) 0 [] [] 0 mo from ⟨hl2.move (by simp) (fun b hl _ => Below.heap_alloc w2 _ b hl) (fun b hd => by
      rcases hd with hd | hd
      · exact .inl hd
      · injection hd with hd; exact .inr (Nat.le_of_eq hd)), World.ownsRow_made w2 #[] 0 (show g + 1 ≤ w2.heap.size from hl2.lt) (Nat.zero_le _) rfl, (B1.out.trans (hb2.mono B1.out.size)).alloc (by have := B1.out.size; have := hb2.size; omega) _⟩)
  clear hg hl2 hb2
  go_wp2_with fail
  go_loopw [6, 7, 8, 9] (fun s a n i wr => ∃ (k : Nat) (A2 : Option Addr) (c2 : Nat) (all rs : List Nat) (fl seen nx : Nat), k ≤ K ∧ s = .int .u64 seen ∧ a = .slice A2 all.length c2 ∧ n = .int .i64 nx ∧ i = .int .i64 k ∧ all.length ≤ k ∧ Hid (nx = upN all seen) ∧ Hid (Eg.Good fl rs mo) ∧ Hid (St all rs fl seen) ∧ Hid (Fm w g wr A2 c2 all rs fl mo)) (fun _ _ _ i _ => K - (RowKit.intOf i).toNat)
  case atStart => exact ⟨0, some ⟨w2.heap.size, 0, none⟩, 0, [], [], 0, 0, 0, Nat.zero_le _, rfl, rfl, rfl, rfl, Nat.zero_le _, rfl, GM.out, St.nil, F0.out⟩
  case round =>
    obtain ⟨k, A2, c2, all, rs, fl, seen, nx, hk, rfl, rfl, rfl, rfl, hall, HNX, HGD, HST, HFM⟩ := hrel
    by_cases hlt : k < K
    · have hkl : k < l.length := by omega
      have hk60 : (k : Int) < 100 := by omega
      have hkn : (k : Int) < (l.length : Int) := by omega
      obtain ⟨x, hx⟩ : ∃ x, l[k]? = some x := ⟨l[k], List.getElem?_eq_getElem hkl⟩
      obtain ⟨hf, a, rfl, ha, hc⟩ := HA.out k x hx
      obtain ⟨c0, c1, c2'⟩ := hc.keep (HFM.out.bel.block _ (by rw [add_block]; exact ha))
      have HF := Lib.hid hf
      obtain ⟨w3, hw3⟩ : ∃ v, wr.alloc (.cells #[.int .i64 x.kind, .int .i64 x.n, .int .u64 (x.rev : Nat)] 29) = v := ⟨_, rfl⟩
      obtain ⟨b, hbb⟩ : ∃ b, wr.heap.size = b := ⟨_, rfl⟩
      have BX := Lib.hid (show w3.heap[b]? = some (.cells #[.int .i64 x.kind, .int .i64 x.n, .int .u64 (x.rev : Nat)] 29 (0, 0)) by rw [← hw3, ← hbb]; exact heap_alloc_new wr _)
      have hb3 : Below wr.heap.size wr w3 := by rw [← hw3]; exact (Below.refl _ _).alloc (Nat.le_refl _) _
      have F3 := Lib.hid (HFM.out.below HG.out hb3)
      have HBS := Lib.hid (show w3.heap.size = b + 1 by rw [← hw3, ← hbb]; simp)
      have L3 := Lib.hid (show Lg w3 g (fun i => Mine g (.slice A2 all.length c2) i ∨ i = b) rs fl mo from HFM.out.lg.move hb3.size (fun i hl _ => hb3.block i hl) (fun i hd => by
        rcases hd with hd | hd
        · exact .inl hd
        · exact .inr (by omega)))
      have HD3 := Lib.hid (show ∀ i, (Mine g (.slice A2 all.length c2) i ∨ i = b) → i < w3.heap.size from fun i hd => by
        rcases hd with hd | hd
        · exact Nat.lt_of_lt_of_le (HFM.out.ds i hd) hb3.size
        · rw [HBS.out]; omega)
      have HW3 := Lib.hid hw3
      have HBB := Lib.hid hbb
      clear hx hf hc ha hb3 hw3 hbb
      by_cases q0 : x.kind = 0
      · have e0 : (x.kind == 0) = true := beq_iff_eq.2 q0
        clear q0
        go_wp2_with fail
        simp only [HW3.out, HBB.out]
        clear c0 c1 c2'
        refine (event_any x.kind x.n x.rev HF.out.wf _).mono ?_
        rintro e w4 ⟨rfl, hn4, hb4⟩
        have had := add_ev x.n x.rev L3.out HGD.out HD3.out hb4 hn4
        by_cases hr : lastN rs fl < x.rev
        · rw [show adC rs fl x.rev = 0 from by unfold adC; rw [if_neg (by omega)]] at had
          have HAD := Lib.hid had
          obtain ⟨hst, hup⟩ := HST.out.add HGD.out hr HF.out.2.2.2.2
          have HS5 := Lib.hid hst
          have HN5 := Lib.hid (show nx = upN (all ++ [x.rev]) seen by rw [hup]; exact HNX.out)
          have HG5 := Lib.hid (ad_good HGD.out HF.out.2.2.2.2)
          obtain ⟨R, hR⟩ : ∃ R, adR rs fl mo x.rev = R := ⟨_, rfl⟩
          obtain ⟨F, hFe⟩ : ∃ F, adF rs fl mo x.rev = F := ⟨_, rfl⟩
          rw [hR, hFe] at HAD HS5 HG5
          clear had hn4 hb4 hr hst hup hR hFe
          go_wp2_with fail
          refine HAD.out.mono ?_
          rintro e w5 ⟨rfl, hl5, hk5⟩
          have F5 := Lib.hid (F3.out.step HG.out (fun i hi => .inl hi) hl5 (hk5.less (fun _ _ hd => .inl hd)))
          have hbox := (hk5.block b (by rw [HBS.out]; omega) (.inr rfl)).trans BX.out
          have cb2 := box_cell hbox 2 rfl
          have hb63 : all.length + 1 ≤ maxLen := by unfold maxLen; omega
          have hbby : (all.length + 1) * 8 ≤ 140737488355328 := by omega
          have HO5 := Lib.hid (F5.out.row.alloc (.cells #[.int .u64 (x.rev : Int)] 26))
          have SRC := Lib.hid (show ∀ j u, ([revV x.rev] : List Value)[j]? = some u → (w5.alloc (.cells #[.int .u64 (x.rev : Int)] 26)).cell? ((⟨w5.heap.size, 0, none⟩ : Addr).add j) = some u from (World.ownsRow_lit (base := 0) (size := 1) (e := 26) w5 ([.int .u64 (x.rev : Int)] : List Value).toArray 1 (Nat.zero_le _) (by decide) rfl).cells rfl)
          have ONE := Lib.hid (show ∀ u ∈ [revV x.rev], u.oneCell' = true from fun u hu => by simp at hu; subst hu; rfl)
          have hbs : g + 1 ≤ (w5.alloc (.cells #[.int .u64 (x.rev : Int)] 26)).heap.size := by have := F5.out.lg.lt; simp; omega
          clear hl5 hk5 hbox
          go_wp2_with (at_builtin; refine wpList_append_at rfl _ _ 27 rfl (g + 1) 26 i8 (.int .u64 0) 1 8 Try.underlying27 hi8 hz80 hz81 hz82 rfl (by decide) (.slice A2 all.length c2) all.length (all.map revV) rfl HO5.out ⟨w5.heap.size, 0, none⟩ 1 1 [revV x.rev] rfl rfl SRC.out ONE.out hb63 hbby hbs ?_)
          intro A' c' w6 hown hgrow hat
          have F6 := Lib.hid (F5.out.app (X := .cells #[.int .u64 (x.rev : Int)] 26) HG.out hown hgrow (by rw [World.size_alloc]; exact hat))
          clear hown hgrow hat cb2
          go_wp2_with fail
          go_roundw
          case rel => exact ⟨k + 1, A', c', all ++ [x.rev], R, F, seen, nx, by omega, rfl, by simp, rfl, by go_num, by simp; omega, HN5.out, HG5.out, HS5.out, F6.out⟩
          case measure => simp [RowKit.intOf]; omega
        · have hr' : x.rev ≤ lastN rs fl := by omega
          rw [show adC rs fl x.rev = 4 from by unfold adC; rw [if_pos hr'], show adR rs fl mo x.rev = rs from by unfold adR; rw [if_pos hr'], show adF rs fl mo x.rev = fl from by unfold adF; rw [if_pos hr']] at had
          have HAD := Lib.hid had
          clear had hn4 hb4 hr hr'
          go_wp2_with fail
          refine HAD.out.mono ?_
          rintro e w5 ⟨rfl, hl5, hk5⟩
          have F5 := Lib.hid (F3.out.step HG.out (fun i hi => .inl hi) hl5 (hk5.less (fun _ _ hd => .inl hd)))
          clear hl5 hk5
          go_wp2_with fail
          go_roundw
          case rel => exact ⟨k + 1, A2, c2, all, rs, fl, seen, nx, by omega, rfl, rfl, rfl, by go_num, by omega, HNX.out, HGD.out, HST.out, F5.out⟩
          case measure => simp [RowKit.intOf]; omega
      · have e0 : (x.kind == 0) = false := beq_eq_false_iff_ne.2 q0
        clear q0
        by_cases q1 : x.kind = 1
        · have e1 : (x.kind == 1) = true := beq_iff_eq.2 q1
          clear q1
          have HCP := Lib.hid (compact_any x.rev w3 F3.out.lg HGD.out)
          go_wp2_with fail
          simp only [HW3.out, HBB.out]
          clear c0 c1 c2'
          refine HCP.out.mono ?_
          rintro e w5 ⟨rfl, hl5, hk5⟩
          have F5 := Lib.hid (F3.out.step HG.out (fun i hi => hi) hl5 hk5)
          have HS5 := Lib.hid (HST.out.compact HGD.out x.rev)
          have HG5 := Lib.hid (cp_good HGD.out x.rev)
          clear hl5 hk5
          go_wp2_with fail
          go_roundw
          case rel => exact ⟨k + 1, A2, c2, all, _, _, seen, nx, by omega, rfl, rfl, rfl, by go_num, by omega, HNX.out, HG5.out, HS5.out, F5.out⟩
          case measure => simp [RowKit.intOf]; omega
        · have e1 : (x.kind == 1) = false := beq_eq_false_iff_ne.2 q1
          clear q1
          by_cases hs : seen < fl
          · have HAF := Lib.hid (after_old seen x.n w3 F3.out.lg hs)
            obtain ⟨hso, hsu⟩ := HST.out.old HGD.out.up hs
            have HS5 := Lib.hid hso
            have hsI : (seen : Int) < (fl : Int) := by omega
            have hnx : nx ≤ upN all fl := by rw [HNX.out]; exact hsu
            clear hso hsu
            go_wp2_with fail
            simp only [HW3.out, HBB.out]
            clear c0 c1 c2'
            refine HAF.out.mono ?_
            rintro e w5 ⟨rfl, hb5⟩
            have F5 := Lib.hid (F3.out.below HG.out hb5)
            clear hb5
            go_wp2_with fail
            refine (floor_any _ F5.out.lg).mono ?_
            rintro e w6 ⟨rfl, rfl⟩
            go_wp2_with fail
            refine (floor_any _ F5.out.lg).mono ?_
            rintro e w6 ⟨rfl, rfl⟩
            go_wp2_with fail
            obtain ⟨U, hU⟩ : ∃ U, upN all fl = U := ⟨_, rfl⟩
            rw [hU] at hnx
            have HU := Lib.hid hU
            clear hU
            go_loop [8] (fun n => ∃ j : Nat, n = .int .i64 j ∧ j ≤ U) (fun n => U - (RowKit.intOf n).toNat)
            case atStart => exact ⟨nx, rfl, hnx⟩
            case round =>
              obtain ⟨j, rfl, hjU⟩ := hrel
              have hUl : U ≤ all.length := by rw [← HU.out]; exact upN_le all fl
              by_cases hj : j < U
              · obtain ⟨y, hy⟩ : ∃ y, all[j]? = some y := ⟨_, List.getElem?_eq_getElem (by omega)⟩
                have hyl : (y : Int) ≤ (fl : Int) := by have := (upN_at HST.out.up fl j y hy).2 (by rw [HU.out]; exact hj); omega
                obtain ⟨r, rfl⟩ := own_addr F5.out.row (by omega)
                have cj : w6.cell? ⟨r, j, none⟩ = some (.int .u64 (y : Int)) := by rw [F5.out.row.cellAt j (by omega), List.getElem?_map, hy]; rfl
                have ej : (⟨r, 0, none⟩ : Addr).add j = ⟨r, j, none⟩ := by unfold Addr.add; split <;> simp_all
                have hj1 : (j : Int) < (all.length : Int) := by omega
                have hj0 : (0 : Int) ≤ (j : Int) := by omega
                clear hy
                go_wp2_with fail
                go_round
                case rel => exact ⟨j + 1, by go_num, by omega⟩
                case measure => simp [RowKit.intOf]; omega
              · obtain rfl : j = U := by omega
                by_cases hjl : j < all.length
                · obtain ⟨y, hy⟩ : ∃ y, all[j]? = some y := ⟨_, List.getElem?_eq_getElem (by omega)⟩
                  have hyl : ¬ (y : Int) ≤ (fl : Int) := fun h => by have := (upN_at HST.out.up fl j y hy).1 (by omega); rw [HU.out] at this; omega
                  obtain ⟨r, rfl⟩ := own_addr F5.out.row (by omega)
                  have cj : w6.cell? ⟨r, j, none⟩ = some (.int .u64 (y : Int)) := by rw [F5.out.row.cellAt j (by omega), List.getElem?_map, hy]; rfl
                  have ej : (⟨r, 0, none⟩ : Addr).add j = ⟨r, j, none⟩ := by unfold Addr.add; split <;> simp_all
                  have hj1 : (j : Int) < (all.length : Int) := by omega
                  have hj0 : (0 : Int) ≤ (j : Int) := by omega
                  clear hy
                  go_wp2_with fail
                  go_roundw
                  case rel => exact ⟨k + 1, _, c2, all, rs, fl, fl, j, by omega, rfl, rfl, rfl, by go_num, by omega, HU.out.symm, HGD.out, HS5.out, F5.out⟩
                  case measure => simp [RowKit.intOf]; omega
                · have hj1 : ¬ (j : Int) < (all.length : Int) := by omega
                  go_wp2_with fail
                  go_roundw
                  case rel => exact ⟨k + 1, _, c2, all, rs, fl, fl, j, by omega, rfl, rfl, rfl, by go_num, by omega, HU.out.symm, HGD.out, HS5.out, F5.out⟩
                  case measure => simp [RowKit.intOf]; omega
          · have hge : fl ≤ seen := by omega
            obtain ⟨L, AL, cL, hL, hLA⟩ := F3.out.lg
            obtain ⟨u0, hu0⟩ : ∃ u0, upN rs seen = u0 := ⟨_, rfl⟩
            have hul : u0 ≤ rs.length := by rw [← hu0]; exact upN_le _ _
            obtain ⟨q, hq⟩ : ∃ q : Nat, min (max x.n 0) ((rs.length - u0 : Nat) : Int) = (q : Int) := ⟨(min (max x.n 0) ((rs.length - u0 : Nat) : Int)).toNat, by omega⟩
            obtain ⟨hat1, hat2⟩ := HST.out.at hge
            rw [hu0, ← HNX.out] at hat1 hat2
            have hLl : L.length = rs.length := by rw [← hL, List.length_map]
            have HAF := Lib.hid (show Calls Try.prog 10 #[.pointer (some ⟨g, 0, none⟩), .int .u64 (seen : Int), .int .i64 x.n] w3 (fun e w' => ∃ A' c' E, e = .returned (.tuple #[.slice A' q c', .int .i64 0]) ∧ w'.ownsRow w3.heap.size 40 15 (.slice A' q c') q (flatE E) ∧ E.map Evt.rev = (rs.drop u0).take q ∧ Below w3.heap.size w3 w') from by
              have := after_new seen x.n w3 hLA (by rw [hLl]; exact Nat.le_trans HGD.out.len HGD.out.most) (by rw [hL]; exact up_sorted HGD.out.up) hge u0 (by rw [hL]; exact hu0) q (by rw [hLl]; exact hq)
              rw [hL] at this
              exact this)
            have hqn : nx + q ≤ all.length := by omega
            have HEND := Lib.hid (show (q : Int) < x.n → nx + q = all.length from fun h => by omega)
            have HATT := Lib.hid (show ∀ j r, j < q → ((rs.drop u0).take q)[j]? = some r → all[nx + j]? = some r from fun j r hj h => by rw [hat2 j]; rw [List.getElem?_take_of_lt hj] at h; exact h)
            have hsI : ¬ (seen : Int) < (fl : Int) := by omega
            have hsD : decide (seen < fl) = false := decide_eq_false (by omega)
            have hq64 : q ≤ 64 := by have := HGD.out.len; have := HGD.out.most; omega
            clear hL hLA hu0 hul hq hat1 hat2 hLl hs hge
            go_wp2_with fail
            simp only [HW3.out, HBB.out]
            clear c0 c1 c2'
            refine HAF.out.mono ?_
            rintro e w5 ⟨A', c', E, rfl, ho5, hE, hb5⟩
            have F5 := Lib.hid (F3.out.below HG.out hb5)
            have O5 := Lib.hid ho5
            have HE5 := Lib.hid hE
            have BX5 := Lib.hid ((hb5.block b (by rw [HBS.out]; omega)).trans BX.out)
            clear hb5 ho5 hE
            go_wp2_with fail
            refine (floor_any _ F5.out.lg).mono ?_
            rintro e w6 ⟨rfl, rfl⟩
            go_wp2_with fail
            obtain ⟨w5, hw5⟩ : ∃ v, v = w6 := ⟨w6, rfl⟩
            rw [← hw5] at F5 O5 BX5 ⊢
            clear hw5
            go_loopw [6, 8, 13] (fun s n t wi => ∃ j : Nat, s = .int .u64 (seenAt all nx seen j) ∧ n = .int .i64 ((nx + j : Nat) : Int) ∧ t = .int .i64 j ∧ j ≤ q ∧ Hid (∃ d, wi = w5.drewN d)) (fun _ _ t _ => q - (RowKit.intOf t).toNat)
            case atStart => exact ⟨0, rfl, by go_num, rfl, Nat.zero_le _, ⟨0, rfl⟩⟩
            case round =>
              obtain ⟨j, rfl, rfl, rfl, hjq, d, rfl⟩ := hrel
              by_cases hj : j < q
              · obtain ⟨y, hy⟩ : ∃ y, E[j]? = some y := ⟨_, List.getElem?_eq_getElem (by have := O5.out.1; rw [flatE_length] at this; omega)⟩
                have hyr : all[nx + j]? = some y.rev := HATT.out j y.rev hj (by rw [← HE5.out, List.getElem?_map, hy]; rfl)
                obtain ⟨rg, hA'⟩ := own_addr O5.out (by omega)
                have cg : w5.cell? ⟨rg, j * 15 + 1, none⟩ = some (.int .u64 (y.rev : Int)) := by
                  have o5 := O5.out
                  rw [hA'] at o5
                  rw [o5.cellAt (j * 15 + 1) (by omega)]
                  exact flatE_at hy rfl
                obtain ⟨p, hp⟩ : ∃ p, nx + j = p := ⟨_, rfl⟩
                rw [hp] at hyr ⊢
                have hpl := (List.getElem?_eq_some_iff.1 hyr).1
                obtain ⟨ra, hA2⟩ := own_addr F5.out.row (by omega)
                have cp : w5.cell? ⟨ra, p, none⟩ = some (.int .u64 (y.rev : Int)) := by
                  have f5 := F5.out.row
                  rw [hA2] at f5
                  rw [f5.cellAt p (by omega), List.getElem?_map, hyr]
                  rfl
                have ej : (⟨ra, 0, none⟩ : Addr).add p = ⟨ra, p, none⟩ := by unfold Addr.add; split <;> simp_all
                have eg := at_row rg j
                have hSE := seenAt_succ (seen := seen) (hp ▸ hyr : all[nx + j]? = some y.rev)
                have HSE := Lib.hid hSE
                have HP := Lib.hid hp
                have hj1 : (j : Int) < (q : Int) := by omega
                have hj0 : (0 : Int) ≤ (j : Int) := by omega
                have hp1 : (p : Int) < (all.length : Int) := by omega
                have hpD : decide (all.length ≤ p) = false := decide_eq_false (by omega)
                have hp0 : (0 : Int) ≤ (p : Int) := by omega
                generalize seenAt all nx seen j = sj
                clear hSE hyr hy hp
                subst hA' hA2
                go_wp2_with fail
                go_quiet (fail)
                go_wp2_with fail
                go_roundw
                case rel => exact ⟨j + 1, by rw [HSE.out], by rw [← HP.out]; go_num, by go_num, by omega, d + nq, rfl⟩
                case measure => simp [RowKit.intOf]; omega
              · obtain rfl : j = q := by omega
                obtain ⟨p, hp⟩ : ∃ p, nx + j = p := ⟨_, rfl⟩
                obtain ⟨hsee, hseen⟩ := HST.out.see HGD.out.up j (by rw [← HNX.out]; exact hqn)
                rw [← HNX.out] at hsee hseen
                rw [hp] at hseen ⊢
                have HS5 := Lib.hid hsee
                have HN5 := Lib.hid hseen.symm
                have F6 := Lib.hid (F5.out.below HG.out (Kit.below_drewN _ _ d))
                have cN := box_cell BX5.out 1 rfl
                have hjj : ¬ (j : Int) < (j : Int) := by omega
                generalize seenAt all nx seen j = sj at *
                clear hsee hseen
                by_cases hN : (j : Int) < x.n
                · have hpe : p = all.length := by rw [← hp]; exact HEND.out hN
                  have hpn : ((p : Int) != (all.length : Int)) = false := by rw [hpe]; simp
                  have hpn2 : (p != all.length) = false := by rw [hpe]; simp
                  clear hpe hp
                  go_wp2_with fail
                  go_roundw
                  case rel => exact ⟨k + 1, A2, c2, all, rs, fl, sj, p, by omega, rfl, rfl, rfl, by go_num, by omega, HN5.out, HGD.out, HS5.out, F6.out⟩
                  case measure => simp [RowKit.intOf]; omega
                · clear hp
                  go_wp2_with fail
                  go_roundw
                  case rel => exact ⟨k + 1, A2, c2, all, rs, fl, sj, p, by omega, rfl, rfl, rfl, by go_num, by omega, HN5.out, HGD.out, HS5.out, F6.out⟩
                  case measure => simp [RowKit.intOf]; omega
    · have hgo' : ¬ (k : Int) < (l.length : Int) ∨ ((k : Int) < (l.length : Int) ∧ ¬ (k : Int) < 100) := by have := HK.out; omega
      have h64 : rs.length ≤ 64 := Nat.le_trans HGD.out.len HGD.out.most
      obtain ⟨la, hla⟩ : ∃ la, lastN rs fl = la := ⟨_, rfl⟩
      have HLA := Lib.hid (fun (v : World) (hv : Lg v g (Mine g (.slice A2 all.length c2)) rs fl mo) => by have := last_any v hv h64; rw [hla] at this; exact this)
      have hfl : (fl : Int) ≤ (la : Int) := by have := (le_lastN HGD.out.up).1; omega
      clear hla h64
      rcases hgo' with hg1 | ⟨hg1, hg2⟩
      all_goals
        go_wp2_with fail
        refine (floor_any _ HFM.out.lg).mono ?_
        rintro e w6 ⟨rfl, rfl⟩
        go_wp2_with fail
        refine (HLA.out _ HFM.out.lg).mono ?_
        rintro e w6 ⟨rfl, q6, rfl⟩
        go_wp2_with fail
        go_ret
        exact ⟨rfl, HFM.out.bel.trans ((Kit.below_drewN _ _ q6).mono HFM.out.bel.size)⟩
theorem bounds_i64 {n : Int} (h : (Lit.int .i64 n).wf = true) : -9223372036854775808 ≤ n ∧ n ≤ 9223372036854775807 := by
  simp only [Lit.wf, IntKind.min, IntKind.max, Bool.and_eq_true] at h
  simp [IntKind.signed, IntKind.bits] at h
  omega
end EvlogFollowsWalk
end Go.Proofs.Ytldhlilcfadieaa
