/-
  The contract of the document's word on a container (provostref06.one). Condition: what is looked at is not too long.
-/
import Derived.Test.YtbichomjpmmjmaaGreatDoorNp2
import Derived.Test.YtbichomjpmmjmaaGreatDoorNp12
import Derived.Test.YtbichomjpmmjmaaGreatDoorNp3
import Derived.Test.YtbichomjpmmjmaaGreatDoorNp0
import Derived.Laws.Tables
import Derived.Lib.QuietBelow
import Derived.Laws.AppendOwn
import Derived.Laws.OwnMore
import Derived.Deep.AppendLies
namespace Go.Proofs.YtbichomjpmmjmaaGreatDoor
open Go.ChangeShapes Go.WideShapes Go.ChangeAt Go.RowKit Go.Lib
open Sd Lists Go.Sort Loose
namespace SpecRef
/-- a container in a box of its own -/
def Box (x : Ctr) (P : Option Addr) (c : Nat) (w : World) (b : Nat) : Prop :=
  w.heap[b]? = some (.cells #[.string x.name, .string x.image, .int .i64 x.rc, .int .i64 x.rm, .int .i64 x.rp, .int .i64 x.lc, .int .i64 x.lm, .int .i64 x.lp, .slice P x.ports.length c, .int .i64 x.ev, .int .i64 x.fl] 105 (0, 0))
structure BoxCells (x : Ctr) (P : Option Addr) (c : Nat) (w : World) (b : Nat) : Prop where
  c0 : w.cell? ⟨b, 0, none⟩ = some (.string x.name)
  c1 : w.cell? ⟨b, 1, none⟩ = some (.string x.image)
  c2 : w.cell? ⟨b, 2, none⟩ = some (.int .i64 x.rc)
  c3 : w.cell? ⟨b, 3, none⟩ = some (.int .i64 x.rm)
  c4 : w.cell? ⟨b, 4, none⟩ = some (.int .i64 x.rp)
  c5 : w.cell? ⟨b, 5, none⟩ = some (.int .i64 x.lc)
  c6 : w.cell? ⟨b, 6, none⟩ = some (.int .i64 x.lm)
  c7 : w.cell? ⟨b, 7, none⟩ = some (.int .i64 x.lp)
  c8 : w.cell? ⟨b, 8, none⟩ = some (.slice P x.ports.length c)
  c9 : w.cell? ⟨b, 9, none⟩ = some (.int .i64 x.ev)
  c10 : w.cell? ⟨b, 10, none⟩ = some (.int .i64 x.fl)
theorem Box.cells {x : Ctr} {P : Option Addr} {c : Nat} {w : World} {b : Nat} (h : Box x P c w b) : BoxCells x P c w b := by
  unfold Box at h
  constructor <;> simp [World.cell?, h]
theorem Box.lt {x : Ctr} {P : Option Addr} {c : Nat} {w : World} {b : Nat} (h : Box x P c w b) : b < w.heap.size := by
  rcases Nat.lt_or_ge b w.heap.size with hl | hl
  · exact hl
  · unfold Box at h; rw [Array.getElem?_eq_none hl] at h; cases h
theorem Box.below {x : Ctr} {P : Option Addr} {c : Nat} {w w' : World} {b : Nat} (h : Box x P c w b) (hb : Below w.heap.size w w') : Box x P c w' b := (hb.block b h.lt).trans h
/-- what the walk stands on: the container's box, those ahead, its ports -/
structure On (x : Ctr) (P : Option Addr) (c : Nat) (A : Option Addr) (l : List Ctr) (w0 : World) (b : Nat) (w : World) : Prop where
  box : Box x P c w b
  ahead : Ctrs w A l
  ports : Nums .i64 w P x.ports
  below : Below w0.heap.size w0 w
theorem On.next {x : Ctr} {P : Option Addr} {c : Nat} {A : Option Addr} {l : List Ctr} {w0 : World} {b : Nat} {w w' : World} (h : On x P c A l w0 b w) (hb : Below w.heap.size w w') : On x P c A l w0 b w' :=
  ⟨h.box.below hb, h.ahead.below hb, Nums.below h.ports hb, h.below.trans (hb.mono h.below.size)⟩
/-- the three names, in a row of their own -/
def Names (w : World) (N : Nat) : Prop := w.heap[N]? = some (.cells #[.string t_cpu, .string t_mem, .string t_pids] 9 (0, 0))
theorem Names.below {w w' : World} {N : Nat} (h : Names w N) (hb : Below w.heap.size w w') : Names w' N := by
  have hl : N < w.heap.size := by
    rcases Nat.lt_or_ge N w.heap.size with hl | hl
    · exact hl
    · unfold Names at h; rw [Array.getElem?_eq_none hl] at h; cases h
  exact (hb.block N hl).trans h
theorem Names.cell {w : World} {N : Nat} (h : Names w N) (k : Nat) (hk : k < 3) : w.cell? ⟨N, k, none⟩ = some (.string (t_res k)) := by
  unfold Names at h
  obtain rfl | rfl | rfl : k = 0 ∨ k = 1 ∨ k = 2 := by omega
  · simp only [World.cell?]; rw [h]; rfl
  · simp only [World.cell?]; rw [h]; rfl
  · simp only [World.cell?]; rw [h]; rfl
theorem res_size (k : Nat) : (t_res k).size ≤ 4 := by
  unfold t_res
  split
  · decide
  · split <;> decide
theorem numsV_range (free : Bool) (a b c l m n : Int) : numsV free a b c l m n = -1 ∨ ∃ k : Nat, k < 3 ∧ numsV free a b c l m n = k := by
  unfold numsV
  split
  · exact .inr ⟨0, by omega, rfl⟩
  · split
    · exact .inr ⟨1, by omega, rfl⟩
    · split
      · exact .inr ⟨2, by omega, rfl⟩
      · exact .inl rfl
theorem oneV_ports {x : Ctr} {l : List Ctr} {init : Bool} (h1 : isName x.name = true) (h2 : (l.any fun y => y.name.toList == x.name.toList) = false) (h3 : isImage x.image = true) (h4 : numsV false x.rc x.rm x.rp 0 0 0 = -1) (h5 : numsV true x.lc x.lm x.lp x.rc x.rm x.rp = -1)
    (h6 : ¬(3 < x.ports.length ∨ (init = true ∧ 0 < x.ports.length))) : oneV x l init = if (portsFrom l 0 [] x.ports).1 ≠ 0 then portsFrom l 0 [] x.ports else probeV x.ev x.fl init := by
  unfold oneV
  rw [if_neg (by rw [h1]; simp), if_neg (by rw [h2]; simp), if_neg (by rw [h3]; simp), if_neg (by rw [h4]; omega), if_neg (by rw [h5]; omega), if_neg h6]
theorem any_name {l : List Ctr} {s : ByteArray} {k : Nat} (hk : k < l.length) (h : (l[k].name.toList == s.toList) = true) : (l.any fun c => c.name.toList == s.toList) = true := List.any_eq_true.2 ⟨_, List.getElem_mem hk, h⟩
theorem none_name {l : List Ctr} {s : ByteArray} (h : ∀ c ∈ l, (c.name.toList == s.toList) = false) : (l.any fun c => c.name.toList == s.toList) = false := by
  cases e : l.any fun c => c.name.toList == s.toList
  · rfl
  · obtain ⟨c, hc, hq⟩ := List.any_eq_true.1 e
    rw [h c hc] at hq; cases hq
/-- a container that has ports alone -/
def justPorts (P : Option Addr) (k c : Nat) : Array Value := #[.string ⟨#[]⟩, .string ⟨#[]⟩, .int .i64 0, .int .i64 0, .int .i64 0, .int .i64 0, .int .i64 0, .int .i64 0, .slice P k c, .int .i64 0, .int .i64 0]
/-- a row of one such container -/
def Row1 (P : Option Addr) (k c : Nat) (v : Value) (w : World) : Prop := ∃ g, v = .slice (some ⟨g, 0, none⟩) 1 1 ∧ w.heap[g]? = some (.cells (justPorts P k c) 105 (0, 0))
theorem ctrs_one {P : Option Addr} {k c g : Nat} {w : World} {zs : List Int} (h : w.heap[g]? = some (.cells (justPorts P k c) 105 (0, 0))) (hz : Nums .i64 w P zs) (hk : zs.length = k) (hc : k ≤ c) (hl : k ≤ 1000) :
    Ctrs w (some ⟨g, 0, none⟩) [⟨⟨#[]⟩, ⟨#[]⟩, 0, 0, 0, 0, 0, 0, zs, 0, 0⟩] := by
  intro i x hx
  have hg : g < w.heap.size := by
    rcases Nat.lt_or_ge g w.heap.size with hl | hl
    · exact hl
    · rw [Array.getElem?_eq_none hl] at h; cases h
  rcases i with _ | i
  · simp only [List.getElem?_cons_zero, Option.some.injEq] at hx
    subst hx
    subst hk
    refine ⟨by constructor <;> first | exact (show I64 0 from ⟨by decide, by decide⟩) | (show zs.length ≤ 9223372036854775807; omega), _, P, c, rfl, hg, ?_, hz⟩
    unfold Ctr.cellsAt
    unfold justPorts at h
    simp [World.cell?, h, Addr.add, hc]
  · simp at hx
theorem has_one (l : List Int) (q : Int) : hasV [⟨⟨#[]⟩, ⟨#[]⟩, 0, 0, 0, 0, 0, 0, l, 0, 0⟩] q = l.contains q := by simp [hasV]
/-- what each operation leaves -/
def F25 (A : Option Addr) (n cap : Nat) (b : Nat) (p : Addr) (m c k : Nat) (q : Int) (o : Bool) : Nat → Value → World → Prop
  | 0 => fun v _ => v = .slice A n cap
  | 1 => fun v _ => v = .pointer (some ⟨b, 8, none⟩)
  | 2 => fun v _ => v = .slice (some p) m c
  | 3 => fun v _ => v = .int .i64 (k : Nat)
  | 4 => fun v _ => v = .pointer (some (p.add k))
  | 5 => fun v _ => v = .int .i64 q
  | 6 => fun v _ => v = .bool false
  | 7 => fun v _ => v = .bool false
  | 8 => fun v _ => v = .pointer (some ⟨b, 8, none⟩)
  | 9 => fun v _ => v = .slice (some p) m c
  | 10 => fun v _ => v = .int .i64 (k : Nat)
  | 11 => fun v _ => v = .slice (some p) k c
  | 12 => fun v _ => v = .agg (justPorts (some p) k c)
  | 13 => Row1 (some p) k c
  | 14 => fun v _ => v = .pointer (some ⟨b, 8, none⟩)
  | 15 => fun v _ => v = .slice (some p) m c
  | 16 => fun v _ => v = .int .i64 (k : Nat)
  | 17 => fun v _ => v = .pointer (some (p.add k))
  | 18 => fun v _ => v = .int .i64 q
  | 19 => fun v _ => v = .bool o
  | _ => fun v _ => v = .bool o
theorem F25_keep (A : Option Addr) (n cap : Nat) (b : Nat) (p : Addr) (m c k : Nat) (q : Int) (o : Bool) (i : Nat) (v : Value) (w w' : World) (h : F25 A n cap b p m c k q o i v w) (hb : Below w.heap.size w w') : F25 A n cap b p m c k q o i v w' := by
  unfold F25 at h ⊢
  split at h <;> first
    | exact h
    | (obtain ⟨g, e, hg⟩ := h
       have hl : g < w.heap.size := by
         rcases Nat.lt_or_ge g w.heap.size with hl | hl
         · exact hl
         · rw [Array.getElem?_eq_none hl] at hg; cases hg
       exact ⟨g, e, (hb.block g hl).trans hg⟩)
/-- a slot written in a frame that stands written out -/
theorem put_lit (l : List Value) (ds : List Deferred) (d : Nat) (v : Value) : (Act.mk l.toArray ds).put (some d) v = Act.mk (l.set d v).toArray ds := by
  simp [Act.put]
/-- the ports: from k on -/
def PHere (l : List Ctr) (ports : List Int) (k : Nat) : Prop := portsFrom l 0 [] ports = portsFrom l k (ports.take k) (ports.drop k)
theorem phere_zero (l : List Ctr) (ports : List Int) : PHere l ports 0 := rfl
theorem phere_end {l : List Ctr} {ports : List Int} {k : Nat} (h : PHere l ports k) (hk : ports.length ≤ k) : portsFrom l 0 [] ports = fine := by
  unfold PHere at h
  rw [h, List.drop_eq_nil_of_le hk]; rfl
theorem phere_at {l : List Ctr} {ports : List Int} {k : Nat} (h : PHere l ports k) (hk : k < ports.length) : portsFrom l 0 [] ports =
    if ports[k] < 1 ∨ 65535 < ports[k] then (1, atB t_ports k) else if hasV l ports[k] || (ports.take k).contains ports[k] then (150, atB t_ports k) else portsFrom l (k + 1) (ports.take k ++ [ports[k]]) (ports.drop (k + 1)) := by
  unfold PHere at h
  rw [h, List.drop_eq_getElem_cons hk]; rfl
theorem phere_next {l : List Ctr} {ports : List Int} {k : Nat} (h : PHere l ports k) (hk : k < ports.length) (h1 : ¬(ports[k] < 1 ∨ 65535 < ports[k])) (h2 : (hasV l ports[k] || (ports.take k).contains ports[k]) = false) : PHere l ports (k + 1) := by
  have := phere_at h hk
  rw [if_neg h1, if_neg (by rw [h2]; simp)] at this
  unfold PHere
  rw [this, List.take_succ_eq_append_getElem hk]
set_option maxRecDepth 100000 in
set_option maxHeartbeats 8000000 in
theorem one_ref (x : Ctr) (P : Option Addr) (c : Nat) (A : Option Addr) (cap : Nat) (l : List Ctr) (init : Bool) (hx : x.Fits) (hn : x.name.size ≤ 100) (hi : x.image.size ≤ 100) (hp : x.ports.length ≤ 10) (hpc : x.ports.length ≤ c) (hl : l.length ≤ 100) (w : World) (hA : Ctrs w A l) (hP : Nums .i64 w P x.ports) :
    Calls Tryz.prog 103 #[.agg #[.string x.name, .string x.image, .int .i64 x.rc, .int .i64 x.rm, .int .i64 x.rp, .int .i64 x.lc, .int .i64 x.lm, .int .i64 x.lp, .slice P x.ports.length c, .int .i64 x.ev, .int .i64 x.fl], .slice A l.length cap, .bool init] w
      fun e w' => e = .returned (.tuple #[.int .i64 (oneV x l init).1, .string (oneV x l init).2]) ∧ Below w.heap.size w w' := by
  have HX := Lib.hid hx
  have HA := Lib.hid hA
  have HP := Lib.hid hP
  have hl' : (l.length : Int) ≤ 100 := by omega
  have hp' : (x.ports.length : Int) ≤ 10 := by omega
  clear hx hA hP
  go_enter Tryz.func103, Tryz.ntmps103
  go_wp2_with fail
  obtain ⟨w1, hw1⟩ : ∃ w1, w.alloc (.cells #[.string x.name, .string x.image, .int .i64 x.rc, .int .i64 x.rm, .int .i64 x.rp, .int .i64 x.lc, .int .i64 x.lm, .int .i64 x.lp, .slice P x.ports.length c, .int .i64 x.ev, .int .i64 x.fl] 105) = w1 := ⟨_, rfl⟩
  have hb0 : Below w.heap.size w w1 := by rw [← hw1]; exact (Below.refl _ _).alloc (Nat.le_refl _) _
  have ON := Lib.hid (show On x P c A l w w.heap.size w1 from ⟨by rw [← hw1]; exact heap_alloc_new w _, HA.out.below hb0, Nums.below HP.out hb0, hb0⟩)
  rw [hw1]
  obtain ⟨b, hb⟩ : ∃ b, w.heap.size = b := ⟨_, rfl⟩
  rw [hb] at ON ⊢
  clear hw1 hb0 hb HA HP
  refine (Text.name_ref x.name (by unfold maxLen; omega) w1).mono ?_
  rintro e w2 ⟨rfl, rfl⟩
  cases hname : TextPure.nameL x.name.data.toList with
  | false =>
    have HD := Lib.hid (show oneV x l init = (30, t_name) by unfold oneV; rw [if_pos (show isName x.name = false from hname)])
    clear hname
    go_wp2
    go_ret2
    exact ⟨ret_two HD.out rfl rfl, ON.out.below⟩
  | true =>
    have HNAME := Lib.hid (show isName x.name = true from hname)
    clear hname
    go_wp2_with fail
    go_loopw [8] (fun i wr => ∃ k : Nat, k ≤ l.length ∧ i = .int .i64 k ∧ Hid (∀ y ∈ l.take k, (y.name.toList == x.name.toList) = false) ∧ Hid (On x P c A l w b wr)) (fun i _ => l.length - (RowKit.intOf i).toNat)
    case atStart => exact ⟨0, Nat.zero_le _, rfl, fun y hy => by simp at hy, ON.out⟩
    case round =>
      obtain ⟨k, hk, rfl, HK, HO⟩ := hrel
      by_cases hlt : k < l.length
      · obtain ⟨_, a, _, _, rfl, ha, hc, _⟩ := HO.out.ahead.at hlt
        have d0 := hc.1
        have c0 := HO.out.box.cells.c0
        obtain ⟨q, hq⟩ : ∃ q, (l[k].name.toList == x.name.toList) = q := ⟨_, rfl⟩
        have HQ := Lib.hid hq
        obtain ⟨y, hy⟩ : ∃ y, l[k] = y := ⟨_, rfl⟩
        have HY := Lib.hid hy
        rw [hy] at d0 hq
        clear hc ha hy
        have hkn : (k : Int) < (l.length : Int) := by omega
        cases q with
        | true =>
          have HD := Lib.hid (show oneV x l init = (7, t_name) by unfold oneV; rw [if_neg (by rw [HNAME.out]; simp), if_pos (any_name hlt HQ.out)])
          go_wp2_with fail
          go_quiet (fail)
          go_wp2
          go_ret2
          exact ⟨ret_two HD.out rfl rfl, HO.out.below.trans ((Kit.below_drewN _ _ _).mono HO.out.below.size)⟩
        | false =>
          have HNX := Lib.hid (show ∀ z ∈ l.take (k + 1), (z.name.toList == x.name.toList) = false from fun z hz => by
            rw [List.take_succ_eq_append_getElem hlt] at hz
            rcases List.mem_append.1 hz with hz | hz
            · exact HK.out z hz
            · rw [List.mem_singleton.1 hz]; exact HQ.out)
          go_wp2_with fail
          go_quiet (fail)
          go_wp2
          go_roundw
          case rel => exact ⟨k + 1, by omega, by go_num, HNX.out, HO.out.next (Kit.below_drewN _ _ _)⟩
          case measure => simp [RowKit.intOf]; omega
      · have HAH := Lib.hid (show (l.any fun y => y.name.toList == x.name.toList) = false from none_name (fun z hz => HK.out z (by rw [List.take_of_length_le (by omega)]; exact hz)))
        have c1 := HO.out.box.cells.c1
        have hkn : ¬ (k : Int) < (l.length : Int) := by omega
        go_wp2_with fail
        refine (Text.split_ref x.image (by omega) wr).mono ?_
        rintro e w3 ⟨rfl, hb3⟩
        have O3 := Lib.hid (HO.out.next hb3)
        clear hb3 c1 hkn
        cases himg : Text.imageB x.image with
        | false =>
          have HD := Lib.hid (show oneV x l init = (33, t_image) by unfold oneV; rw [if_neg (by rw [HNAME.out]; simp), if_neg (by rw [HAH.out]; simp), if_pos (show isImage x.image = false from himg)])
          clear himg
          go_wp2
          go_ret2
          exact ⟨ret_two HD.out rfl rfl, O3.out.below⟩
        | true =>
          have HIMG := Lib.hid (show isImage x.image = true from himg)
          have c2 := O3.out.box.cells.c2
          have c3 := O3.out.box.cells.c3
          have c4 := O3.out.box.cells.c4
          have hlb := O3.out.box.lt
          clear himg
          go_wp2_with fail
          obtain ⟨w4, hw4⟩ : ∃ w4, w3.alloc (.cells #[.string ⟨#[99, 112, 117]⟩, .string ⟨#[109, 101, 109]⟩, .string ⟨#[112, 105, 100, 115]⟩] 9) = w4 := ⟨_, rfl⟩
          obtain ⟨N, hN⟩ : ∃ N, w3.heap.size = N := ⟨_, rfl⟩
          have O4 := Lib.hid (O3.out.next (w' := w4) (by rw [← hw4]; exact (Below.refl _ _).alloc (Nat.le_refl _) _))
          have N4 := Lib.hid (show Names w4 N by rw [← hw4, ← hN]; exact heap_alloc_new w3 _)
          rw [hw4, hN]
          clear hw4 hN c2 c3 c4 hlb
          refine (three_any x.rc x.rm x.rp w4).mono ?_
          rintro e w5 ⟨rfl, hb5⟩
          have O5 := Lib.hid (O4.out.next hb5)
          have N5 := Lib.hid (N4.out.below hb5)
          clear hb5
          go_wp2_with fail
          refine (numbers_ref false x.rc x.rm x.rp 0 0 0 w5).mono ?_
          rintro e w6 ⟨rfl, hb6⟩
          have O6 := Lib.hid (O5.out.next hb6)
          have N6 := Lib.hid (N5.out.below hb6)
          clear hb6
          rcases numsV_range false x.rc x.rm x.rp 0 0 0 with hr | ⟨r, hr3, hr⟩
          rotate_left
          · have HD := Lib.hid (show oneV x l init = (1, t_req ++ t_res r) by unfold oneV; rw [if_neg (by rw [HNAME.out]; simp), if_neg (by rw [HAH.out]; simp), if_neg (by rw [HIMG.out]; simp), if_pos (by rw [hr]; omega), hr])
            have cn := N6.out.cell r hr3
            have hts := res_size r
            obtain ⟨t, ht⟩ : ∃ t, t_res r = t := ⟨_, rfl⟩
            have HT := Lib.hid ht
            rw [ht] at cn hts
            have hadd : ∀ v, (Op.stringOp .add ⟨#[114, 101, 113, 46]⟩ t).run Tryz.prog v = .ok (.string (⟨#[114, 101, 113, 46]⟩ ++ t)) v := fun v => run_string_add_sum v _ _ (by show 4 + _ ≤ _; omega)
            rw [hr]
            have hr0 : (0 : Int) ≤ (r : Int) := by omega
            have hrn : (r : Int) < 3 := by omega
            clear ht hr
            go_wp2_with fail
            go_quiet (fail)
            go_wp2
            go_ret2
            exact ⟨ret_two HD.out rfl (by rw [HT.out]; rfl), O6.out.below.trans ((Kit.below_drewN _ _ _).mono O6.out.below.size)⟩
          · have HREQ := Lib.hid hr
            rw [hr]
            clear hr
            have CC := Lib.hid O6.out.box.cells
            have c2 := fun d os => cell_regrown CC.out.c2 d os
            have c3 := fun d os => cell_regrown CC.out.c3 d os
            have c4 := fun d os => cell_regrown CC.out.c4 d os
            have c5 := fun d os => cell_regrown CC.out.c5 d os
            have c6 := fun d os => cell_regrown CC.out.c6 d os
            have c7 := fun d os => cell_regrown CC.out.c7 d os
            have CA := Lib.hid (fun d os => Calls.regrown_of (three_any x.lc x.lm x.lp (grow (redrawn w6 d) os)))
            have CB := Lib.hid (fun d os => Calls.regrown_of (three_any x.rc x.rm x.rp (grow (redrawn w6 d) os)))
            have CD := Lib.hid (fun d os => Calls.regrown_of (numbers_ref true x.lc x.lm x.lp x.rc x.rm x.rp (grow (redrawn w6 d) os)))
            go_wp2_with fail
            refine wp_region_quiet_below (by kernel_rfl) (by kernel_rfl) ?_
            repeat (first | go_big_quiet_step (first | with_reducible exact CA.out _ _ | with_reducible exact CB.out _ _ | with_reducible exact CD.out _ _) | quiet_step (first | with_reducible exact CA.out _ _ | with_reducible exact CB.out _ _ | with_reducible exact CD.out _ _))
            refine wpQuiet_nil ?_
            intro _ hw'
            obtain ⟨⟨dq, osq⟩, hw''⟩ := hw'
            subst hw''
            have O7 := Lib.hid (O6.out.next (below_regrown w6 dq osq))
            have N7 := Lib.hid (N6.out.below (below_regrown w6 dq osq))
            clear c2 c3 c4 c5 c6 c7 CA CB CD
            generalize grow (redrawn w6 dq) osq = w7 at *
            rcases numsV_range true x.lc x.lm x.lp x.rc x.rm x.rp with hr | ⟨r, hr3, hr⟩
            rotate_left
            · have HD := Lib.hid (show oneV x l init = (1, t_lim ++ t_res r) by unfold oneV; rw [if_neg (by rw [HNAME.out]; simp), if_neg (by rw [HAH.out]; simp), if_neg (by rw [HIMG.out]; simp), if_neg (by rw [HREQ.out]; omega), if_pos (by rw [hr]; omega), hr])
              have cn := N7.out.cell r hr3
              have hts := res_size r
              obtain ⟨t, ht⟩ : ∃ t, t_res r = t := ⟨_, rfl⟩
              have HT := Lib.hid ht
              rw [ht] at cn hts
              have hadd : ∀ v, (Op.stringOp .add ⟨#[108, 105, 109, 46]⟩ t).run Tryz.prog v = .ok (.string (⟨#[108, 105, 109, 46]⟩ ++ t)) v := fun v => run_string_add_sum v _ _ (by show 4 + _ ≤ _; omega)
              rw [hr]
              have hr0 : (0 : Int) ≤ (r : Int) := by omega
              have hrn : (r : Int) < 3 := by omega
              clear ht hr
              go_wp2_with fail
              go_quiet (fail)
              go_wp2
              go_ret2
              exact ⟨ret_two HD.out rfl (by rw [HT.out]; rfl), O7.out.below.trans ((Kit.below_drewN _ _ _).mono O7.out.below.size)⟩
            · have HLIM := Lib.hid hr
              rw [hr]
              clear hr
              have c8 := O7.out.box.cells.c8
              by_cases hbad : 3 < x.ports.length ∨ (init = true ∧ 0 < x.ports.length)
              · have HD := Lib.hid (show oneV x l init = (2, t_ports) by unfold oneV; rw [if_neg (by rw [HNAME.out]; simp), if_neg (by rw [HAH.out]; simp), if_neg (by rw [HIMG.out]; simp), if_neg (by rw [HREQ.out]; omega), if_neg (by rw [HLIM.out]; omega), if_pos hbad])
                by_cases h3 : 3 < x.ports.length
                · clear hbad
                  go_wp2
                  go_ret2
                  exact ⟨ret_two HD.out rfl rfl, O7.out.below⟩
                · obtain ⟨h1, h2⟩ := hbad.resolve_left h3
                  subst h1
                  clear hbad
                  go_wp2
                  go_ret2
                  exact ⟨ret_two HD.out rfl rfl, O7.out.below⟩
              · have HPL := Lib.hid hbad
                have h3 : ¬ 3 < x.ports.length := fun h => hbad (.inl h)
                have hi0 : init = true → x.ports.length = 0 := fun h => by
                  rcases Nat.eq_zero_or_pos x.ports.length with h0 | h0
                  · exact h0
                  · exact absurd (.inr ⟨h, h0⟩) hbad
                clear hbad
                cases init with
                | true =>
                  have hz : x.ports.length = 0 := hi0 rfl
                  have hxs : x.ports = [] := List.length_eq_zero_iff.1 hz
                  have HPR : oneV x l true = probeV x.ev x.fl true := by rw [oneV_ports HNAME.out HAH.out HIMG.out HREQ.out HLIM.out HPL.out, hxs]; rfl
                  clear hxs hi0 h3
                  go_wp2_with fail
                  go_loopw [14] (fun i wr => i = .int .i64 0 ∧ Hid (On x P c A l w b wr)) (fun _ _ => 0)
                  case atStart => exact ⟨rfl, O7.out⟩
                  case round =>
                    obtain ⟨rfl, O8⟩ := hrel
                    have c8 := O8.out.box.cells.c8
                    rw [hz] at c8
                    have c9 := O8.out.box.cells.c9
                    have c10 := O8.out.box.cells.c10
                    obtain ⟨ev, hev⟩ : ∃ ev, x.ev = ev := ⟨_, rfl⟩
                    obtain ⟨fl, hfl⟩ : ∃ fl, x.fl = fl := ⟨_, rfl⟩
                    rw [hev] at c9
                    rw [hfl] at c10
                    rw [hev, hfl] at HPR
                    have HR := Lib.hid HPR
                    clear hev hfl HPR
                    by_cases h1 : ev < 0
                    · have HD := Lib.hid (show oneV x l true = (1, t_every) by rw [HR.out]; unfold probeV; rw [if_pos (.inl h1)])
                      clear HR
                      go_wp2
                      go_ret2
                      exact ⟨ret_two HD.out rfl rfl, O8.out.below⟩
                    · by_cases h2 : 1000 < ev
                      · have HD := Lib.hid (show oneV x l true = (1, t_every) by rw [HR.out]; unfold probeV; rw [if_pos (.inr (.inl h2))])
                        clear HR
                        go_wp2
                        go_ret2
                        exact ⟨ret_two HD.out rfl rfl, O8.out.below⟩
                      · by_cases h3 : 0 < ev
                        · have HD := Lib.hid (show oneV x l true = (1, t_every) by rw [HR.out]; unfold probeV; rw [if_pos (.inr (.inr ⟨rfl, h3⟩))])
                          clear HR
                          go_wp2
                          go_ret2
                          exact ⟨ret_two HD.out rfl rfl, O8.out.below⟩
                        · obtain rfl : ev = 0 := by omega
                          by_cases h4 : fl = 0
                          · subst h4
                            have HD := Lib.hid (show oneV x l true = fine by rw [HR.out]; unfold probeV; simp)
                            clear HR
                            go_wp2
                            go_ret2
                            exact ⟨ret_two HD.out rfl rfl, O8.out.below⟩
                          · have h5 : (fl == 0) = false := by simpa using h4
                            have HD := Lib.hid (show oneV x l true = (1, t_fails) by rw [HR.out]; unfold probeV; rw [if_neg (by simp), if_pos (.inl ⟨rfl, h4⟩)])
                            clear HR
                            go_wp2
                            go_ret2
                            exact ⟨ret_two HD.out rfl rfl, O8.out.below⟩
                | false =>
                  have HPR := Lib.hid (oneV_ports HNAME.out HAH.out HIMG.out HREQ.out HLIM.out HPL.out)
                  clear hi0
                  go_wp2_with fail
                  go_loopw [14] (fun i wr => ∃ k : Nat, k ≤ x.ports.length ∧ i = .int .i64 k ∧ Hid (PHere l x.ports k) ∧ Hid (On x P c A l w b wr)) (fun i _ => x.ports.length - (RowKit.intOf i).toNat)
                  case atStart => exact ⟨0, Nat.zero_le _, rfl, phere_zero _ _, O7.out⟩
                  case round =>
                    obtain ⟨k, hk, rfl, HK, O8⟩ := hrel
                    have c8 := O8.out.box.cells.c8
                    by_cases hlt : k < x.ports.length
                    · have hkn : (k : Int) < (x.ports.length : Int) := by omega
                      have hk0 : (0 : Int) ≤ (k : Int) := by omega
                      obtain ⟨_, p, hP, hp, hc⟩ := O8.out.ports.at hlt
                      obtain ⟨q, hq⟩ : ∃ q, x.ports[k] = q := ⟨_, rfl⟩
                      rw [hq] at hc
                      have HQ := Lib.hid hq
                      clear hq
                      --PORTS
                      by_cases hr : q < 1 ∨ 65535 < q
                      · have HD := Lib.hid (show oneV x l false = (1, atB t_ports k) by
                          have e : portsFrom l 0 [] x.ports = (1, atB t_ports k) := by rw [phere_at HK.out hlt, HQ.out, if_pos hr]
                          rw [HPR.out, e, if_pos (show (1 : Int) ≠ 0 by decide)])
                        by_cases h1 : q < 1
                        · clear hr
                          go_wp2_with fail
                          refine (at_any _ k (by decide) (by omega) _).mono ?_
                          rintro e w9 ⟨rfl, hb9⟩
                          have HB9 := Lib.hid (O8.out.below.trans (hb9.mono (O8.out.below).size))
                          clear hb9
                          go_wp2
                          go_ret2
                          exact ⟨ret_two HD.out rfl rfl, HB9.out⟩
                        · have h2 : 65535 < q := hr.resolve_left h1
                          clear hr
                          go_wp2_with fail
                          refine (at_any _ k (by decide) (by omega) _).mono ?_
                          rintro e w9 ⟨rfl, hb9⟩
                          have HB9 := Lib.hid (O8.out.below.trans (hb9.mono (O8.out.below).size))
                          clear hb9
                          go_wp2
                          go_ret2
                          exact ⟨ret_two HD.out rfl rfl, HB9.out⟩
                      · have h1 : ¬ q < 1 := fun h => hr (.inl h)
                        have h2 : ¬ 65535 < q := fun h => hr (.inr h)
                        have HR := Lib.hid hr
                        clear hr
                        cases hh : hasV l q with
                        | true =>
                          have HD := Lib.hid (show oneV x l false = (150, atB t_ports k) by
                            have e : portsFrom l 0 [] x.ports = (150, atB t_ports k) := by rw [phere_at HK.out hlt, HQ.out, if_neg HR.out, if_pos (by rw [hh]; rfl)]
                            rw [HPR.out, e, if_pos (show (150 : Int) ≠ 0 by decide)])
                          have CA : Hid (∀ n, Calls Tryz.prog 135 #[.slice A l.length cap, .int .i64 q] (wr.drewN n) fun e w'' => e = .returned (.bool true) ∧ ∃ m, w'' = wr.drewN m) :=
                            fun n => Calls.quiet_of_same ((has_ref A cap l q (by omega) _ (O8.out.ahead.below (Kit.below_drewN _ _ _))).mono fun _ _ h => ⟨by rw [h.1, hh], h.2.symm⟩)
                          clear hh
                          go_wp2_with fail
                          go_quiet (with_reducible exact CA.out _)
                          go_wp2_with fail
                          refine (at_any _ k (by decide) (by omega) _).mono ?_
                          rintro e w9 ⟨rfl, hb9⟩
                          have HB9 := Lib.hid ((O8.out.below.trans ((Kit.below_drewN _ _ _).mono O8.out.below.size)).trans (hb9.mono ((O8.out.below.trans ((Kit.below_drewN _ _ _).mono O8.out.below.size))).size))
                          clear hb9
                          go_wp2
                          go_ret2
                          exact ⟨ret_two HD.out rfl rfl, HB9.out⟩
                        | false =>
                          obtain ⟨o, ho⟩ : ∃ o, (x.ports.take k).contains q = o := ⟨_, rfl⟩
                          have HO2 := Lib.hid ho
                          have HA2 : Hid (∀ w1, Below wr.heap.size wr w1 → Calls Tryz.prog 135 #[.slice A l.length cap, .int .i64 q] w1 fun e w2 => e = .returned (.bool false) ∧ w1 = w2) :=
                            fun w1 hb => (has_ref A cap l q (by omega) _ (O8.out.ahead.below hb)).mono fun _ _ h => ⟨by rw [h.1, hh], h.2⟩
                          have HB2 : Hid (∀ w1 g, Below wr.heap.size wr w1 → w1.heap[g]? = some (.cells (justPorts P k c) 105 (0, 0)) → Calls Tryz.prog 135 #[.slice (some ⟨g, 0, none⟩) 1 1, .int .i64 q] w1 fun e w2 => e = .returned (.bool o) ∧ w1 = w2) := by
                            intro w1 g hb hg
                            have hz : Nums .i64 w1 P (x.ports.take k) := by
                              intro j z hj
                              have hjk : j < k := by
                                rcases Nat.lt_or_ge j k with h | h
                                · exact h
                                · rw [List.getElem?_eq_none (by rw [List.length_take]; omega)] at hj; cases hj
                              rw [List.getElem?_take_of_lt hjk] at hj
                              exact Nums.below O8.out.ports hb j z hj
                            refine (has_ref (some ⟨g, 0, none⟩) 1 _ q (by simp) w1 (ctrs_one hg hz (by rw [List.length_take]; omega) (by omega) (by omega))).mono ?_
                            rintro e w2 ⟨rfl, h⟩
                            exact ⟨by rw [has_one, HO2.out], h⟩
                          have HH := Lib.hid hh
                          have CQ : Hid (∀ w1, Below wr.heap.size wr w1 → w1.cell? (p.add k) = some (.int .i64 q)) := fun w1 hb => (hb.cell (p := p.add k) (by rw [add_block]; exact hp)).trans hc
                          have hkc : (k : Int) ≤ (c : Int) := by omega
                          have hp0 : p.add 0 = p := by simp [Addr.add]
                          clear hh ho
                          subst hP
                          go_wp2_with fail
                          refine wp_region_walk (by kernel_rfl) (by kernel_rfl) (F25 A l.length cap b p x.ports.length c k q o) (F25_keep A l.length cap b p x.ports.length c k q o) ?_ ?_
                          · have HO := O8
                            have HA := HA2
                            have HB := HB2
                            refine ⟨?_, ?_, ?_, ?_, ?_, ?_, ?_, ?_, ?_, ?_, ?_, ?_, ?_, ?_, ?_, ?_, ?_, ?_, ?_, ?_, ?_, trivial⟩
                            · intro a w1 hfr hdep
                              have f0 : a.tmps.getD 1 undef = .slice A l.length cap := hfr.slot 1 (by kernel_rfl)
                              refine Step.value rfl (v := .slice A l.length cap) (w' := w1) ?_ rfl (Below.refl _ _)
                              simp [go_sem, Act.eval, f0]
                            · intro a w1 hfr hdep
                              have f0 : a.tmps.getD 3 undef = .pointer (some ⟨b, 0, none⟩) := hfr.slot 3 (by kernel_rfl)
                              refine Step.value rfl (v := .pointer (some ⟨b, 8, none⟩)) (w' := w1) ?_ rfl (Below.refl _ _)
                              simp [go_sem, Act.eval, f0]
                            · intro a w1 hfr hdep
                              have hc := (HO.out.next hfr.below).box.cells.c8
                              have e0 : a.tmps.getD 106 undef = .pointer (some ⟨b, 8, none⟩) := dep_of hdep 1 106 (by kernel_rfl)
                              refine Step.value rfl (v := .slice (some p) x.ports.length c) (w' := w1) ?_ rfl (Below.refl _ _)
                              simp [go_sem, Act.eval, e0, hc]
                            · intro a w1 hfr hdep
                              have f0 : a.tmps.getD 14 undef = .int .i64 (k : Nat) := hfr.slot 14 (by kernel_rfl)
                              refine Step.value rfl (v := .int .i64 (k : Nat)) (w' := w1) ?_ rfl (Below.refl _ _)
                              simp [go_sem, Act.eval, f0]
                            · intro a w1 hfr hdep
                              have e0 : a.tmps.getD 107 undef = .slice (some p) x.ports.length c := dep_of hdep 2 107 (by kernel_rfl)
                              have e1 : a.tmps.getD 108 undef = .int .i64 (k : Nat) := dep_of hdep 3 108 (by kernel_rfl)
                              refine Step.value rfl (v := .pointer (some (p.add k))) (w' := w1) ?_ rfl (Below.refl _ _)
                              simp [go_sem, Act.eval, e0, e1, hk0, hkn]
                            · intro a w1 hfr hdep
                              have hc := CQ.out w1 hfr.below
                              have e0 : a.tmps.getD 109 undef = .pointer (some (p.add k)) := dep_of hdep 4 109 (by kernel_rfl)
                              refine Step.value rfl (v := .int .i64 q) (w' := w1) ?_ rfl (Below.refl _ _)
                              simp [go_sem, Act.eval, e0, hc]
                            · intro a w1 hfr hdep
                              have e0 : a.tmps.getD 105 undef = .slice A l.length cap := dep_of hdep 0 105 (by kernel_rfl)
                              have e1 : a.tmps.getD 110 undef = .int .i64 q := dep_of hdep 5 110 (by kernel_rfl)
                              refine Step.call rfl (f := 135) (args := #[.slice A l.length cap, .int .i64 q]) ?_ ?_
                              · simp [go_sem, Act.eval, e0, e1]
                              · refine (HA.out w1 hfr.below).mono ?_
                                rintro e w2 ⟨rfl, rfl⟩
                                exact ⟨_, rfl, rfl, Below.refl _ _⟩
                            · intro a w1 hfr hdep
                              have e0 : a.tmps.getD 111 undef = .bool false := dep_of hdep 6 111 (by kernel_rfl)
                              refine Step.value rfl (v := .bool false) (w' := w1) ?_ rfl (Below.refl _ _)
                              simp [go_sem, Act.eval, e0]
                            · intro a w1 hfr hdep
                              have gd : a.tmps.getD 112 undef = .bool false := dep_of hdep 7 112 (by kernel_rfl)
                              have f0 : a.tmps.getD 3 undef = .pointer (some ⟨b, 0, none⟩) := hfr.slot 3 (by kernel_rfl)
                              refine Step.valueG (wanted_of rfl rfl gd) (v := .pointer (some ⟨b, 8, none⟩)) (w' := w1) ?_ rfl (Below.refl _ _)
                              simp [go_sem, Act.eval, f0]
                            · intro a w1 hfr hdep
                              have hc := (HO.out.next hfr.below).box.cells.c8
                              have gd : a.tmps.getD 112 undef = .bool false := dep_of hdep 7 112 (by kernel_rfl)
                              have e0 : a.tmps.getD 113 undef = .pointer (some ⟨b, 8, none⟩) := dep_of hdep 8 113 (by kernel_rfl)
                              refine Step.valueG (wanted_of rfl rfl gd) (v := .slice (some p) x.ports.length c) (w' := w1) ?_ rfl (Below.refl _ _)
                              simp [go_sem, Act.eval, e0, hc]
                            · intro a w1 hfr hdep
                              have gd : a.tmps.getD 112 undef = .bool false := dep_of hdep 7 112 (by kernel_rfl)
                              have f0 : a.tmps.getD 14 undef = .int .i64 (k : Nat) := hfr.slot 14 (by kernel_rfl)
                              refine Step.valueG (wanted_of rfl rfl gd) (v := .int .i64 (k : Nat)) (w' := w1) ?_ rfl (Below.refl _ _)
                              simp [go_sem, Act.eval, f0]
                            · intro a w1 hfr hdep
                              have gd : a.tmps.getD 112 undef = .bool false := dep_of hdep 7 112 (by kernel_rfl)
                              have e0 : a.tmps.getD 114 undef = .slice (some p) x.ports.length c := dep_of hdep 9 114 (by kernel_rfl)
                              have e1 : a.tmps.getD 115 undef = .int .i64 (k : Nat) := dep_of hdep 10 115 (by kernel_rfl)
                              refine Step.valueG (wanted_of rfl rfl gd) (v := .slice (some p) k c) (w' := w1) ?_ rfl (Below.refl _ _)
                              simp [go_sem, Act.eval, e0, e1, hk0, hkc, sliced]
                            · intro a w1 hfr hdep
                              have gd : a.tmps.getD 112 undef = .bool false := dep_of hdep 7 112 (by kernel_rfl)
                              have e0 : a.tmps.getD 116 undef = .slice (some p) k c := dep_of hdep 11 116 (by kernel_rfl)
                              refine Step.valueG (wanted_of rfl rfl gd) (v := .agg (justPorts (some p) k c)) (w' := w1) ?_ rfl (Below.refl _ _)
                              (have e1 : a.tmps[116]?.getD undef = .slice (some p) k c := by rw [← Array.getD_eq_getD_getElem?]; exact e0); simp [go_sem, Act.eval, e1, justPorts]
                            · intro a w1 hfr hdep
                              have gd : a.tmps.getD 112 undef = .bool false := dep_of hdep 7 112 (by kernel_rfl)
                              have e0 : a.tmps.getD 117 undef = .agg (justPorts (some p) k c) := dep_of hdep 12 117 (by kernel_rfl)
                              refine Step.valueG (wanted_of rfl rfl gd) (v := .slice (some ⟨w1.heap.size, 0, none⟩) 1 1) (w' := (w1.alloc (.cells (justPorts (some p) k c) 105))) ?_ ⟨w1.heap.size, rfl, heap_alloc_new _ _⟩ ((Below.refl _ _).alloc (Nat.le_refl _) _)
                              (have e1 : a.tmps[117]?.getD undef = .agg (justPorts (some p) k c) := by rw [← Array.getD_eq_getD_getElem?]; exact e0); simp [go_sem, Act.eval, e1, justPorts]
                            · intro a w1 hfr hdep
                              have gd : a.tmps.getD 112 undef = .bool false := dep_of hdep 7 112 (by kernel_rfl)
                              have f0 : a.tmps.getD 3 undef = .pointer (some ⟨b, 0, none⟩) := hfr.slot 3 (by kernel_rfl)
                              refine Step.valueG (wanted_of rfl rfl gd) (v := .pointer (some ⟨b, 8, none⟩)) (w' := w1) ?_ rfl (Below.refl _ _)
                              simp [go_sem, Act.eval, f0]
                            · intro a w1 hfr hdep
                              have hc := (HO.out.next hfr.below).box.cells.c8
                              have gd : a.tmps.getD 112 undef = .bool false := dep_of hdep 7 112 (by kernel_rfl)
                              have e0 : a.tmps.getD 119 undef = .pointer (some ⟨b, 8, none⟩) := dep_of hdep 14 119 (by kernel_rfl)
                              refine Step.valueG (wanted_of rfl rfl gd) (v := .slice (some p) x.ports.length c) (w' := w1) ?_ rfl (Below.refl _ _)
                              simp [go_sem, Act.eval, e0, hc]
                            · intro a w1 hfr hdep
                              have gd : a.tmps.getD 112 undef = .bool false := dep_of hdep 7 112 (by kernel_rfl)
                              have f0 : a.tmps.getD 14 undef = .int .i64 (k : Nat) := hfr.slot 14 (by kernel_rfl)
                              refine Step.valueG (wanted_of rfl rfl gd) (v := .int .i64 (k : Nat)) (w' := w1) ?_ rfl (Below.refl _ _)
                              simp [go_sem, Act.eval, f0]
                            · intro a w1 hfr hdep
                              have gd : a.tmps.getD 112 undef = .bool false := dep_of hdep 7 112 (by kernel_rfl)
                              have e0 : a.tmps.getD 120 undef = .slice (some p) x.ports.length c := dep_of hdep 15 120 (by kernel_rfl)
                              have e1 : a.tmps.getD 121 undef = .int .i64 (k : Nat) := dep_of hdep 16 121 (by kernel_rfl)
                              refine Step.valueG (wanted_of rfl rfl gd) (v := .pointer (some (p.add k))) (w' := w1) ?_ rfl (Below.refl _ _)
                              simp [go_sem, Act.eval, e0, e1, hk0, hkn]
                            · intro a w1 hfr hdep
                              have hc := CQ.out w1 hfr.below
                              have gd : a.tmps.getD 112 undef = .bool false := dep_of hdep 7 112 (by kernel_rfl)
                              have e0 : a.tmps.getD 122 undef = .pointer (some (p.add k)) := dep_of hdep 17 122 (by kernel_rfl)
                              refine Step.valueG (wanted_of rfl rfl gd) (v := .int .i64 q) (w' := w1) ?_ rfl (Below.refl _ _)
                              simp [go_sem, Act.eval, e0, hc]
                            · intro a w1 hfr hdep
                              have gd : a.tmps.getD 112 undef = .bool false := dep_of hdep 7 112 (by kernel_rfl)
                              obtain ⟨g, e0, hg⟩ := (dep_of hdep 13 118 (by kernel_rfl) : (Row1 (some p) k c) (a.tmps.getD 118 undef) w1)
                              have e1 : a.tmps.getD 123 undef = .int .i64 q := dep_of hdep 18 123 (by kernel_rfl)
                              refine Step.callG (wanted_of rfl rfl gd) (f := 135) (args := #[.slice (some ⟨g, 0, none⟩) 1 1, .int .i64 q]) ?_ ?_
                              · simp [go_sem, Act.eval, e0, e1]
                              · refine (HB.out w1 g hfr.below hg).mono ?_
                                rintro e w2 ⟨rfl, rfl⟩
                                exact ⟨_, rfl, rfl, Below.refl _ _⟩
                            · intro a w1 hfr hdep
                              have e0 : a.tmps.getD 112 undef = .bool false := dep_of hdep 7 112 (by kernel_rfl)
                              have e1 : a.tmps.getD 124 undef = .bool o := dep_of hdep 19 124 (by kernel_rfl)
                              refine Step.value rfl (v := .bool o) (w' := w1) ?_ rfl (Below.refl _ _)
                              simp [go_sem, Act.eval, e0, e1]
                          · intro v0 v1 v2 v3 v4 v5 v6 v7 v8 v9 v10 v11 v12 v13 v14 v15 v16 v17 v18 v19 v20 w6 hb6 hC
                            obtain rfl : v20 = .bool o := hC.2
                            clear hC
                            have O9 := Lib.hid (O8.out.next hb6)
                            clear hb6 hc
                            simp only [put_lit, List.set_cons_succ, List.set_cons_zero]
                            cases o with
                            | true =>
                              have HD := Lib.hid (show oneV x l false = (150, atB t_ports k) by
                                have e : portsFrom l 0 [] x.ports = (150, atB t_ports k) := by rw [phere_at HK.out hlt, HQ.out, if_neg HR.out, if_pos (by rw [HO2.out]; exact Bool.or_true _)]
                                rw [HPR.out, e, if_pos (show (150 : Int) ≠ 0 by decide)])
                              go_wp2_with fail
                              refine (at_any _ k (by decide) (by omega) _).mono ?_
                              rintro e w9 ⟨rfl, hb9⟩
                              have HB9 := Lib.hid (O9.out.below.trans (hb9.mono (O9.out.below).size))
                              clear hb9
                              go_wp2
                              go_ret2
                              exact ⟨ret_two HD.out rfl rfl, HB9.out⟩
                            | false =>
                              have HNX := Lib.hid (show PHere l x.ports (k + 1) from phere_next HK.out hlt (by rw [HQ.out]; exact HR.out) (by rw [HQ.out, HO2.out, HH.out]; rfl))
                              go_wp2
                              go_roundw
                              case rel => exact ⟨k + 1, by omega, by go_num, HNX.out, O9.out⟩
                              case measure => simp [RowKit.intOf]; omega
                    · have HP0 := Lib.hid (show oneV x l false = probeV x.ev x.fl false by rw [HPR.out, phere_end HK.out (by omega), if_neg (show ¬ fine.1 ≠ 0 by decide)])
                      have hkn : ¬ (k : Int) < (x.ports.length : Int) := by omega
                      have c9 := O8.out.box.cells.c9
                      have c10 := O8.out.box.cells.c10
                      obtain ⟨ev, hev⟩ : ∃ ev, x.ev = ev := ⟨_, rfl⟩
                      obtain ⟨fl, hfl⟩ : ∃ fl, x.fl = fl := ⟨_, rfl⟩
                      rw [hev] at c9
                      rw [hfl] at c10
                      have HR := Lib.hid HP0.out
                      rw [hev, hfl] at HR
                      clear hev hfl
                      by_cases h1 : ev < 0
                      · have HD := Lib.hid (show oneV x l false = (1, t_every) by rw [HR.out]; unfold probeV; rw [if_pos (.inl h1)])
                        clear HR
                        go_wp2
                        go_ret2
                        exact ⟨ret_two HD.out rfl rfl, O8.out.below⟩
                      · by_cases h2 : 1000 < ev
                        · have HD := Lib.hid (show oneV x l false = (1, t_every) by rw [HR.out]; unfold probeV; rw [if_pos (.inr (.inl h2))])
                          clear HR
                          go_wp2
                          go_ret2
                          exact ⟨ret_two HD.out rfl rfl, O8.out.below⟩
                        · by_cases h3 : 0 < ev
                          · have hev0 : (ev == 0) = false := by simp; omega
                            by_cases h4 : fl < 1
                            · have HD := Lib.hid (show oneV x l false = (1, t_fails) by rw [HR.out]; unfold probeV; rw [if_neg (by simp; omega), if_pos (.inr ⟨h3, .inl h4⟩)])
                              clear HR
                              go_wp2
                              go_ret2
                              exact ⟨ret_two HD.out rfl rfl, O8.out.below⟩
                            · by_cases h5 : 10 < fl
                              · have HD := Lib.hid (show oneV x l false = (1, t_fails) by rw [HR.out]; unfold probeV; rw [if_neg (by simp; omega), if_pos (.inr ⟨h3, .inr h5⟩)])
                                clear HR
                                go_wp2
                                go_ret2
                                exact ⟨ret_two HD.out rfl rfl, O8.out.below⟩
                              · have HD := Lib.hid (show oneV x l false = fine by rw [HR.out]; unfold probeV; rw [if_neg (by simp; omega), if_neg (by omega)])
                                clear HR
                                go_wp2
                                go_ret2
                                exact ⟨ret_two HD.out rfl rfl, O8.out.below⟩
                          · obtain rfl : ev = 0 := by omega
                            by_cases h4 : fl = 0
                            · subst h4
                              have HD := Lib.hid (show oneV x l false = fine by rw [HR.out]; unfold probeV; simp)
                              clear HR
                              go_wp2
                              go_ret2
                              exact ⟨ret_two HD.out rfl rfl, O8.out.below⟩
                            · have h5 : (fl == 0) = false := by simpa using h4
                              have HD := Lib.hid (show oneV x l false = (1, t_fails) by rw [HR.out]; unfold probeV; rw [if_neg (by simp), if_pos (.inl ⟨rfl, h4⟩)])
                              clear HR
                              go_wp2
                              go_ret2
                              exact ⟨ret_two HD.out rfl rfl, O8.out.below⟩
end SpecRef
end Go.Proofs.YtbichomjpmmjmaaGreatDoor

/-
  Containers gathered in a row of the call's own, their ports where they were: what keeps them, one more behind them. No condition.
-/
namespace Go.Proofs.YtbichomjpmmjmaaGreatDoor
open Go.RowKit
namespace Sd
open Lists
/-- a container, where its ports lie, and the room there -/
structure Held where
  x : Ctr
  P : Option Addr
  c : Nat
def Held.cells (t : Held) : List Value := t.x.cells t.P t.c
def flat : List Held → List Value
  | [] => []
  | t :: L => t.cells ++ flat L
theorem Held.cells_length (t : Held) : t.cells.length = 11 := rfl
theorem flat_snoc : ∀ (L : List Held) (t : Held), flat (L ++ [t]) = flat L ++ t.cells
  | [], t => by simp [flat]
  | u :: L, t => by rw [List.cons_append, flat, flat_snoc L t, flat, List.append_assoc]
theorem flat_at : ∀ {L : List Held} {k : Nat} {t : Held}, L[k]? = some t → ∀ j, j < 11 → (flat L)[k * 11 + j]? = t.cells[j]?
  | [], _, _, h, _, _ => by simp at h
  | u :: L, 0, t, h, j, hj => by
    simp only [List.getElem?_cons_zero, Option.some.injEq] at h
    subst h
    rw [flat, Nat.zero_mul, Nat.zero_add, List.getElem?_append_left (by rw [Held.cells_length]; exact hj)]
  | u :: L, k + 1, t, h, j, hj => by
    rw [flat, List.getElem?_append_right (by rw [Held.cells_length]; omega), Held.cells_length, show (k + 1) * 11 + j - 11 = k * 11 + j by omega]
    exact flat_at (by simpa using h) j hj
/-- what a container that is held says -/
structure Held.Ok (t : Held) (w : World) : Prop where
  fits : t.x.Fits
  ports : Nums .i64 w t.P t.x.ports
  room : t.x.ports.length ≤ t.c
/-- containers in a row of the call's own -/
structure Gathered (e : TypeId) (w0 w : World) (v : Value) (L : List Held) : Prop where
  own : w.ownsRow w0.heap.size e 11 v L.length (flat L)
  held : ∀ t ∈ L, t.Ok w0
  below : Below w0.heap.size w0 w
theorem Gathered.nil (e : TypeId) {w0 w : World} (h : Below w0.heap.size w0 w) : Gathered e w0 w (.slice none 0 0) [] := ⟨World.ownsRow_nil _ _ _ _, fun t ht => by simp at ht, h⟩
theorem Gathered.next {e : TypeId} {w0 w w' : World} {v : Value} {L : List Held} (h : Gathered e w0 w v L) (hb : Below w.heap.size w w') : Gathered e w0 w' v L := by
  refine ⟨⟨h.own.1, ?_⟩, h.held, h.below.trans (hb.mono h.below.size)⟩
  rcases h.own.2 with h2 | ⟨g, cap, cur, e1, e2, e3, e4⟩
  · exact .inl h2
  · have hlt : g < w.heap.size := by
      rcases Nat.lt_or_ge g w.heap.size with hl | hl
      · exact hl
      · rw [Array.getElem?_eq_none hl] at e3; cases e3
    exact .inr ⟨g, cap, cur, e1, e2, (hb.block g hlt).trans e3, e4⟩
/-- they can be read as any list of containers -/
theorem Gathered.ctrs {e : TypeId} {w0 w : World} {v : Value} {L : List Held} (h : Gathered e w0 w v L) : ∃ A c, v = .slice A (L.map (·.x)).length c ∧ Ctrs w A (L.map (·.x)) := by
  rcases h.own.2 with ⟨e1, h0⟩ | ⟨g, cap, cur, e1, e2, e3, e4⟩
  · have : L = [] := List.length_eq_zero_iff.1 h0
    subst this
    exact ⟨none, 0, e1, fun k x hk => by simp at hk⟩
  · have hlt : g < w.heap.size := by
      rcases Nat.lt_or_ge g w.heap.size with hl | hl
      · exact hl
      · rw [Array.getElem?_eq_none hl] at e3; cases e3
    refine ⟨some ⟨g, 0, none⟩, cap, by rw [List.length_map]; exact e1, fun k x hk => ?_⟩
    rw [List.getElem?_map, Option.map_eq_some_iff] at hk
    obtain ⟨t, ht, rfl⟩ := hk
    have ho := h.held t (List.mem_of_getElem? ht)
    have hkl : k < L.length := (List.getElem?_eq_some_iff.1 ht).1
    have hown := h.own
    rw [e1] at hown
    have hc : ∀ j, j < 11 → w.cell? ⟨g, k * 11 + j, none⟩ = t.cells[j]? := fun j hj => by
      rw [hown.cellAt (k * 11 + j) (by omega), flat_at ht j hj]
    have e0 : (⟨g, 0, none⟩ : Addr).add (k * 11) = ⟨g, k * 11, none⟩ := by unfold Addr.add; split <;> simp_all
    refine ⟨ho.fits, _, t.P, t.c, rfl, hlt, ?_, Nums.below ho.ports h.below⟩
    rw [e0]
    exact ⟨hc 0 (by omega), hc 1 (by omega), hc 2 (by omega), hc 3 (by omega), hc 4 (by omega), hc 5 (by omega), hc 6 (by omega), hc 7 (by omega), hc 8 (by omega), hc 9 (by omega), hc 10 (by omega), ho.room⟩
/-- one more -/
theorem Gathered.push {e : TypeId} {w0 w w' : World} {v v' : Value} {L : List Held} {t : Held} (h : Gathered e w0 w v L) (ht : t.Ok w0) (ho : w'.ownsRow w0.heap.size e 11 v' (L.length + 1) (flat L ++ t.cells)) (hg : w.grownBy w' v.ownBlock) : Gathered e w0 w' v' (L ++ [t]) := by
  refine ⟨?_, fun u hu => ?_, ?_⟩
  · rw [flat_snoc, List.length_append]; exact ho
  · rcases List.mem_append.1 hu with hu | hu
    · exact h.held u hu
    · rw [List.mem_singleton.1 hu]; exact ht
  · have hb := h.below
    refine ⟨hg.os.trans hb.os, hg.tape.trans hb.tape, hg.output.trans hb.output, Nat.le_trans hb.size hg.size, fun k hk => (hg.block k (Nat.lt_of_lt_of_le hk hb.size) fun e1 => ?_).trans (hb.block k hk)⟩
    have := (h.own.lt k e1.symm).1
    omega
/-- a container of a list that was there, held -/
theorem Ctrs.held {w : World} {A : Option Addr} {l : List Ctr} (h : Ctrs w A l) {k : Nat} (hk : k < l.length) : ∃ (t : Held) (a : Addr), t.x = l[k] ∧ t.Ok w ∧ A = some a ∧ a.block < w.heap.size ∧ t.x.cellsAt t.P t.c w (a.add (k * 11)) := by
  obtain ⟨hf, a, P, c, hA, ha, hc, hn⟩ := h.at hk
  exact ⟨⟨l[k], P, c⟩, a, rfl, ⟨hf, hn, hc.2.2.2.2.2.2.2.2.2.2.2⟩, hA, ha, hc⟩
end Sd
end Go.Proofs.YtbichomjpmmjmaaGreatDoor
