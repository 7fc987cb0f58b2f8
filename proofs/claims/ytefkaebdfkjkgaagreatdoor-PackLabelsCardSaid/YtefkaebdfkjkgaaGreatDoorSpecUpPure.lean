/-
  What follows of what an update may change, in plain functions: another tag is not frozen, another request is. No condition.
-/
import Derived.Test.YtefkaebdfkjkgaaGreatDoorSpecPartsPure
import Derived.Test.YtefkaebdfkjkgaaGreatDoorSpecFrozen
import Derived.Test.YtefkaebdfkjkgaaGreatDoorTextMore
set_option linter.unusedVariables false
set_option linter.unusedSimpArgs false
namespace Go.Proofs.YtefkaebdfkjkgaaGreatDoor
open TextPure Sd Book
namespace SpecOwn

/-- an image with the tag 9 -/
def img9 (s : ByteArray) : ByteArray := Text.fstB s 58 ++ ⟨#[58, 57]⟩
theorem same_9 {s : ByteArray} (h : Text.imageB s = true) : Text.sameB s (img9 s) = true := by
  obtain ⟨h1, h2, h3⟩ := Text.image_parts h
  have hc : Lib.cut (Text.fstB s 58 ++ ⟨#[58, 57]⟩ : ByteArray).data.toList [58] = ((Text.fstB s 58).data.toList, [57], true) := by
    rw [Text.list_append]
    show Lib.cut ((Text.fstB s 58).data.toList ++ 58 :: [57]) [58] = _
    refine cut_hit 58 [57] _ ?_
    rw [Text.fstB_list]
    exact cut_free 58 s.data.toList
  have hf : Text.fstB (img9 s) 58 = Text.fstB s 58 := by
    apply Text.ext_list
    rw [Text.fstB_list, img9, hc]
  have hi : Text.imageB (img9 s) = true := by
    rw [Text.imageB_eq, hf]
    unfold Text.hasB
    rw [Text.sndB_list, img9, hc, h2]
    show (true && true && tagL [57]) = true
    decide
  unfold Text.sameB
  rw [h, hi, hf]
  simp
theorem img9_size (s : ByteArray) : (img9 s).size ≤ s.size + 2 := by
  have h := (cut_len 58 s.data.toList).1
  rw [← Text.fstB_list] at h
  have e : (img9 s).size = (Text.fstB s 58).size + 2 := by simp [img9]; rfl
  rw [e]
  have e1 : (Text.fstB s 58).size = (Text.fstB s 58).data.toList.length := by simp
  have e2 : s.size = s.data.toList.length := by simp
  omega

/-- a container with another image -/
def tagged (x : Ctr) : Ctr := { x with image := img9 x.image }
/-- and with another request -/
def asked (x : Ctr) : Ctr := { x with image := img9 x.image, rc := x.rc + 1 }
/-- a spec with another one's labels, Restart, Grace and Prio, and another container at place k -/
def putM (S T : Spc) (k : Nat) (y : Ctr) : Spc := ⟨S.name, T.labels, S.init, S.main.set k y, T.restart, T.grace, T.prio⟩

theorem beq_text (s : ByteArray) : (s.toList == s.toList) = true := by simp
theorem butB_tagged (x : Ctr) : butB x (tagged x) = true ∧ butB (tagged x) x = true ∧ butB x x = true := by
  refine ⟨?_, ?_, ?_⟩ <;> simp [butB, tagged, resB, probeB, sameIs_iff]
theorem frozenC_self (x : Ctr) : frozenC x x = (0, []) := by
  unfold frozenC
  rw [(butB_tagged x).2.2, beq_text]; simp
theorem frozenC_tag {x : Ctr} (h : Text.imageB x.image = true) : frozenC x (tagged x) = (0, []) ∧ frozenC (tagged x) x = (0, []) := by
  have h1 : Text.sameB x.image (tagged x).image = true := same_9 h
  constructor
  · unfold frozenC
    rw [(butB_tagged x).1, h1]; simp
  · unfold frozenC
    rw [(butB_tagged x).2.1, Text.same_comm, h1]; simp
theorem frozenC_asked (x : Ctr) : frozenC x (asked x) = (4, []) := by
  have h : butB x (asked x) = false := by
    have : (x.rc == x.rc + 1) = false := by simp; omega
    simp [butB, asked, resB, this]
  unfold frozenC
  rw [if_pos h]
theorem frozenFrom_self : ∀ (l : List Ctr) (i : Nat), frozenFrom i l l = (0, [])
  | [], _ => by simp [frozenFrom]
  | x :: l, i => by rw [frozenFrom, frozenC_self, if_pos rfl, frozenFrom_self l (i + 1)]
theorem frozenFrom_to : ∀ (l : List Ctr) (i k : Nat) (x y : Ctr), l[k]? = some x → frozenC x y = (0, []) → frozenFrom i l (l.set k y) = (0, [])
  | [], _, _, _, _, h, _ => by simp at h
  | z :: l, i, 0, x, y, h, hf => by
    obtain rfl : z = x := by simpa using h
    rw [List.set_cons_zero, frozenFrom, hf, if_pos rfl, frozenFrom_self]
  | z :: l, i, k + 1, x, y, h, hf => by
    rw [List.set_cons_succ, frozenFrom, frozenC_self, if_pos rfl]
    exact frozenFrom_to l (i + 1) k x y (by simpa using h) hf
theorem frozenFrom_back : ∀ (l : List Ctr) (i k : Nat) (x y : Ctr), l[k]? = some x → frozenC y x = (0, []) → frozenFrom i (l.set k y) l = (0, [])
  | [], _, _, _, _, h, _ => by simp at h
  | z :: l, i, 0, x, y, h, hf => by
    obtain rfl : z = x := by simpa using h
    rw [List.set_cons_zero, frozenFrom, hf, if_pos rfl, frozenFrom_self]
  | z :: l, i, k + 1, x, y, h, hf => by
    rw [List.set_cons_succ, frozenFrom, frozenC_self, if_pos rfl]
    exact frozenFrom_back l (i + 1) k x y (by simpa using h) hf
theorem frozenFrom_not : ∀ (l : List Ctr) (i k : Nat) (x y : Ctr), l[k]? = some x → frozenC x y = (4, []) → (frozenFrom i l (l.set k y)).1 = 4
  | [], _, _, _, _, h, _ => by simp at h
  | z :: l, i, 0, x, y, h, hf => by
    obtain rfl : z = x := by simpa using h
    rw [List.set_cons_zero, frozenFrom, hf, if_neg (by decide)]
  | z :: l, i, k + 1, x, y, h, hf => by
    rw [List.set_cons_succ, frozenFrom, frozenC_self, if_pos rfl]
    exact frozenFrom_not l (i + 1) k x y (by simpa using h) hf
theorem sameCs_self (l : List Ctr) : sameCs l l = true := sameCs_iff.2 rfl
theorem frozen_tag {S : Spc} (T : Spc) {k : Nat} {x : Ctr} (hk : S.main[k]? = some x) (h : Text.imageB x.image = true) : frozenV S (putM S T k (tagged x)) = (0, []) ∧ frozenV (putM S T k (tagged x)) S = (0, []) := by
  constructor
  · unfold frozenV
    rw [if_neg (by simp [putM]), if_neg (by simp [putM, sameCs_self]), if_neg (by simp [putM])]
    exact frozenFrom_to _ 0 k x _ hk (frozenC_tag h).1
  · unfold frozenV
    rw [if_neg (by simp [putM]), if_neg (by simp [putM, sameCs_self]), if_neg (by simp [putM])]
    exact frozenFrom_back _ 0 k x _ hk (frozenC_tag h).2
theorem frozen_asked {S : Spc} (T : Spc) {k : Nat} {x : Ctr} (hk : S.main[k]? = some x) : (frozenV S (putM S T k (asked x))).1 = 4 := by
  unfold frozenV
  rw [if_neg (by simp [putM]), if_neg (by simp [putM, sameCs_self]), if_neg (by simp [putM])]
  exact frozenFrom_not _ 0 k x _ hk (frozenC_asked x)
theorem not_same {S : Spc} (T : Spc) {k : Nat} {x : Ctr} (hk : S.main[k]? = some x) : sameS S (putM S T k (asked x)) = false := by
  cases hq : sameS S (putM S T k (asked x)) with
  | false => rfl
  | true =>
    have h := congrArg (fun Z => Z.main[k]?) ((sameS_iff _ _).1 hq)
    have hl := (List.getElem?_eq_some_iff.1 hk).1
    simp only [putM] at h
    rw [List.getElem?_set_self hl, hk] at h
    have := congrArg Ctr.rc (Option.some.inj h)
    simp [asked] at this
    omega

theorem ctrs_each {name : ByteArray} {init : Bool} : ∀ (l : List Ctr) (i : Nat) {a : List Ctr}, (ctrsFrom name init i a l).1 = 0 → ∀ x ∈ l, ∃ a', (oneV x a' init).1 = 0
  | [], _, _, _, x, hx => by cases hx
  | y :: l, i, a, h, x, hx => by
    rw [ctrsFrom] at h
    split at h
    · rename_i h1
      exact absurd h h1
    · rename_i h1
      rcases List.mem_cons.1 hx with rfl | hx
      · exact ⟨a, by simpa using h1⟩
      · exact ctrs_each l (i + 1) h x hx
theorem main_fine {S : Spc} (h : (checkV S).1 = 0) {k : Nat} {x : Ctr} (hk : S.main[k]? = some x) : Text.imageB x.image = true ∧ 0 ≤ x.rc ∧ x.rc ≤ 1099511627776 := by
  rw [check_ok] at h
  obtain ⟨a, ha⟩ := ctrs_each _ _ h.2.2.2.2.2.1 x (List.mem_of_getElem? hk)
  rw [oneV_ok] at ha
  refine ⟨ha.2.2.1, ?_⟩
  have h4 := ha.2.2.2.1
  unfold numsV at h4
  by_cases hn : numV false x.rc 0 = true
  · rw [if_pos hn] at h4; omega
  · have hn' : numV false x.rc 0 = false := by simpa using hn
    unfold numV big at hn'
    simp at hn'
    omega
theorem main_some {S : Spc} (h : (checkV S).1 = 0) : 1 ≤ S.main.length ∧ S.main.length ≤ 4 := by
  rw [check_ok] at h
  exact h.2.2.2.2.1
theorem pieces_byte (c : UInt8) : ∀ (l : List UInt8) (b : UInt8), b ∈ l → b = c ∨ ∃ p ∈ pieces c l, b ∈ p
  | [], b, h => by cases h
  | x :: l, b, h => by
    unfold pieces
    by_cases hx : x = c
    · rw [if_pos hx]
      rcases List.mem_cons.1 h with rfl | h
      · exact .inl hx
      · rcases pieces_byte c l b h with e | ⟨p, hp, hb⟩
        · exact .inl e
        · exact .inr ⟨p, List.mem_cons_of_mem _ hp, hb⟩
    · rw [if_neg hx]
      have ih := pieces_byte c l b
      cases hq : pieces c l with
      | nil => exact absurd hq (pieces_ne c l)
      | cons p ps =>
        rw [hq] at ih
        rcases List.mem_cons.1 h with rfl | h
        · exact .inr ⟨b :: p, by simp, by simp⟩
        · rcases ih h with e | ⟨p', hp, hb⟩
          · exact .inl e
          · rcases List.mem_cons.1 hp with rfl | hp
            · exact .inr ⟨x :: p', by simp, List.mem_cons_of_mem _ hb⟩
            · exact .inr ⟨p', List.mem_cons_of_mem _ hp, hb⟩
theorem repo_ascii {l : List UInt8} (h : repoL l = true) : ∀ b ∈ l, b.toNat < 128 := by
  intro b hb
  unfold repoL at h
  rw [Bool.and_eq_true] at h
  rcases pieces_byte 47 l b hb with rfl | ⟨p, hp, hbp⟩
  · decide
  · have h1 := nameL_bytes (List.all_eq_true.1 h.2 p hp) b hbp
    simp [nameB, small] at h1
    omega
/-- where the tag is cut off: all ahead is plain and no colon -/
theorem image_cut {s : ByteArray} (h : Text.imageB s = true) : ∃ n : Nat, n < s.size ∧ (∀ k (hk : k < s.size), k < n → (s[k]'hk).toNat < 128 ∧ s[k]'hk ≠ 58) ∧ (∀ hn : n < s.size, s[n]'hn = 58) ∧ s.extract 0 n = Text.fstB s 58 := by
  obtain ⟨h1, h2, h3⟩ := Text.image_parts h
  have hj := cut_join 58 s.data.toList h1
  rw [Text.fstB_list] at h2
  have hfree := cut_free 58 s.data.toList
  have hasc := repo_ascii h2
  have hsz : s.size = s.data.toList.length := by simp
  have hget : ∀ k (hk : k < s.size), s[k]'hk = s.data.toList[k]'(by omega) := fun k hk => by
    rw [ByteArray.getElem_eq_getElem_data]; simp
  have hfl := Text.fstB_list s 58
  generalize (Lib.cut s.data.toList [58]).1 = p at *
  generalize (Lib.cut s.data.toList [58]).2.1 = q at *
  refine ⟨p.length, by rw [hsz, hj]; simp, fun k hk hkn => ?_, fun hn => ?_, ?_⟩
  · have e : s[k]'hk = p[k]'hkn := by
      rw [hget k hk]
      have : s.data.toList[k]? = p[k]? := by rw [hj, List.getElem?_append_left hkn]
      rw [List.getElem?_eq_getElem (by omega), List.getElem?_eq_getElem hkn] at this
      exact Option.some.inj this
    rw [e]
    exact ⟨hasc _ (List.getElem_mem hkn), hfree _ (List.getElem_mem hkn)⟩
  · rw [hget p.length hn]
    have : s.data.toList[p.length]? = some 58 := by rw [hj, List.getElem?_append_right (Nat.le_refl _)]; simp
    rw [List.getElem?_eq_getElem (by omega)] at this
    exact Option.some.inj this
  · apply Text.ext_list
    rw [Text.extract_list', hfl, List.drop_zero, hj, List.take_left']
    rfl
end SpecOwn
end Go.Proofs.YtefkaebdfkjkgaaGreatDoor
