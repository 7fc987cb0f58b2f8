/-
  What follows of what names, keys and images are: an image is put together again of its parts, and is of one repository with itself; a name is a key, a value and a repository; two names make a key; cut where no - is, a name is two names. Plain facts; no condition.
-/
import Derived.Test.YtaegknpijgjioaaGreatDoorTextAll
namespace Go.Proofs.YtaegknpijgjioaaGreatDoor
open TextPure
namespace Text

theorem list_append (a b : ByteArray) : (a ++ b).data.toList = a.data.toList ++ b.data.toList := by simp
theorem ext_list {a b : ByteArray} (h : a.data.toList = b.data.toList) : a = b := by
  apply ByteArray.ext
  exact Array.toList_inj.1 h
theorem fstB_list (s : ByteArray) (c : UInt8) : (fstB s c).data.toList = (Lib.cut s.data.toList [c]).1 := by simp [fstB]
theorem sndB_list (s : ByteArray) (c : UInt8) : (sndB s c).data.toList = (Lib.cut s.data.toList [c]).2.1 := by simp [sndB]
theorem image_parts {s : ByteArray} (h : imageB s = true) : hasB s 58 = true ∧ repoL (fstB s 58).data.toList = true ∧ tagL (sndB s 58).data.toList = true := by
  rw [imageB_eq] at h
  simp only [Bool.and_eq_true] at h
  exact ⟨h.1.1, h.1.2, h.2⟩
theorem repoB_is {s : ByteArray} (h : imageB s = true) : repoB s = fstB s 58 := by unfold repoB; rw [h]; rfl
theorem tagB_is {s : ByteArray} (h : imageB s = true) : tagB' s = sndB s 58 := by unfold tagB'; rw [h]; rfl
theorem image_join {s : ByteArray} (h : imageB s = true) : repoB s ++ ⟨#[58]⟩ ++ tagB' s = s := by
  rw [repoB_is h, tagB_is h]
  apply ext_list
  rw [list_append, list_append, fstB_list, sndB_list]
  have := cut_join 58 s.data.toList (image_parts h).1
  show (Lib.cut s.data.toList [58]).1 ++ [58] ++ (Lib.cut s.data.toList [58]).2.1 = _
  rw [List.append_assoc, List.singleton_append, ← this]
theorem same_self {s : ByteArray} (h : imageB s = true) : sameB s s = true := by
  unfold sameB
  rw [h]; simp
theorem same_comm (a b : ByteArray) : sameB a b = sameB b a := by
  unfold sameB
  cases imageB a <;> cases imageB b <;> simp [Bool.beq_comm]
theorem same_x {s : ByteArray} (h : imageB s = true) : sameB s (repoB s ++ ⟨#[58, 120]⟩) = true := by
  obtain ⟨h1, h2, h3⟩ := image_parts h
  rw [repoB_is h]
  have hc : Lib.cut (fstB s 58 ++ ⟨#[58, 120]⟩ : ByteArray).data.toList [58] = ((fstB s 58).data.toList, [120], true) := by
    rw [list_append]
    show Lib.cut ((fstB s 58).data.toList ++ 58 :: [120]) [58] = _
    refine cut_hit 58 [120] _ ?_
    rw [fstB_list]
    exact cut_free 58 s.data.toList
  have hf : fstB (fstB s 58 ++ ⟨#[58, 120]⟩) 58 = fstB s 58 := by
    apply ext_list
    rw [fstB_list, hc]
  have hi : imageB (fstB s 58 ++ ⟨#[58, 120]⟩) = true := by
    rw [imageB_eq, hf]
    unfold hasB
    rw [sndB_list, hc, h2]
    show (true && true && tagL [120]) = true
    decide
  unfold sameB
  rw [h, hi, hf]
  simp
theorem sizes_name {s : ByteArray} (h : nameL s.data.toList = true) : 1 ≤ s.size ∧ s.size ≤ 16 := by
  have := nameL_len h
  rw [size_list] at this
  exact this
theorem name_key {s : ByteArray} (h : nameL s.data.toList = true) : keyL s.data.toList = true := by
  unfold keyL
  rw [cut_miss 47 _ (nameL_free h 47 (by decide))]
  show (nameL s.data.toList && _) = true
  rw [h]; rfl
theorem name_val {s : ByteArray} (h : nameL s.data.toList = true) : valL s.data.toList = true := by
  unfold valL
  rw [decide_eq_true (nameL_len h).2, Bool.true_and, List.all_eq_true]
  exact fun b hb => nameB_val (nameL_bytes h b hb)
theorem name_repo {l : List UInt8} (h : nameL l = true) : repoL l = true := by
  unfold repoL
  rw [cut_pieces, cut_miss 47 _ (nameL_free h 47 (by decide)), decide_eq_true (show l.length ≤ 24 by have := (nameL_len h).2; omega)]
  simp [h]
theorem name_image {s : ByteArray} (h : nameL s.data.toList = true) : imageB (s ++ ⟨#[58, 49]⟩) = true := by
  unfold imageB imageL
  have hc : Lib.cut (s ++ ⟨#[58, 49]⟩ : ByteArray).data.toList [58] = (s.data.toList, [49], true) := by
    rw [list_append]
    exact cut_hit 58 [49] _ (nameL_free h 58 (by decide))
  rw [hc, name_repo h]
  show (true && true && tagL [49]) = true
  decide
theorem two_list (s t : ByteArray) : (s ++ ⟨#[47]⟩ ++ t).data.toList = s.data.toList ++ 47 :: t.data.toList := by
  rw [list_append, list_append]
  show s.data.toList ++ [47] ++ t.data.toList = _
  rw [List.append_assoc]; rfl
theorem names_key {s t : ByteArray} (h : nameL s.data.toList = true) (h' : nameL t.data.toList = true) : keyL (s ++ ⟨#[47]⟩ ++ t).data.toList = true := by
  unfold keyL
  rw [two_list, cut_hit 47 _ _ (nameL_free h 47 (by decide))]
  show (nameL s.data.toList && (_ || nameL t.data.toList)) = true
  rw [h, h']; simp
theorem slash_name {l : List UInt8} (h : (47 : UInt8) ∈ l) : nameL l = false := by
  cases hx : nameL l with
  | false => rfl
  | true => exact absurd rfl (nameL_free hx 47 (by decide) 47 h)
theorem three_key {s t : ByteArray} (h : nameL s.data.toList = true) : keyL (s ++ ⟨#[47]⟩ ++ t ++ ⟨#[47]⟩ ++ s).data.toList = false := by
  unfold keyL
  have e : (s ++ ⟨#[47]⟩ ++ t ++ ⟨#[47]⟩ ++ s).data.toList = s.data.toList ++ 47 :: (t.data.toList ++ 47 :: s.data.toList) := by
    rw [list_append, list_append, two_list]
    show s.data.toList ++ 47 :: t.data.toList ++ [47] ++ s.data.toList = _
    simp
  rw [e, cut_hit 47 _ _ (nameL_free h 47 (by decide))]
  show (nameL s.data.toList && (!true || nameL (t.data.toList ++ 47 :: s.data.toList))) = false
  rw [slash_name (List.mem_append_right _ (List.mem_cons_self ..))]; simp
theorem two_name (s t : ByteArray) : nameL (s ++ ⟨#[47]⟩ ++ t).data.toList = false := by
  rw [two_list]
  exact slash_name (List.mem_append_right _ (List.mem_cons_self ..))
theorem extract_list' (s : ByteArray) (i j : Nat) : (s.extract i j).data.toList = (s.data.toList.take j).drop i := by
  simp [List.extract_eq_take_drop, List.drop_take]
theorem at_take (l : List UInt8) (n k : Nat) (hk : k < n) : at' (l.take n) k = at' l k := by
  unfold at'
  rw [List.getD_eq_getElem?_getD, List.getElem?_take_of_lt hk, List.getD_eq_getElem?_getD]
theorem at_drop (l : List UInt8) (n k : Nat) : at' (l.drop n) k = at' l (n + k) := by
  unfold at'
  rw [List.getD_eq_getElem?_getD, List.getElem?_drop, List.getD_eq_getElem?_getD]
theorem small_at {l : List UInt8} (h : nameL l = true) {k : Nat} (hk : k < l.length) (hd : at' l k ≠ 45) : small (at' l k) = true := by
  rw [small_iff ((all_at (f := nameB) l).1 (List.all_eq_true.2 (nameL_bytes h)) k hk)]
  simpa using hd
theorem name_front {l : List UInt8} (h : nameL l = true) {n : Nat} (h1 : 1 ≤ n) (h2 : n < l.length) (hd : at' l (n - 1) ≠ 45) : nameL (l.take n) = true := by
  have hl := nameL_len h
  have hln : (l.take n).length = n := by rw [List.length_take]; omega
  refine nameL_mk (by rw [hln]; exact h1) (by rw [hln]; omega) ?_ ?_ (fun b hb => nameL_bytes h b (List.mem_of_mem_take hb))
  · rw [at_take _ _ _ (by omega)]; exact (nameL_ends h).1
  · rw [hln, at_take _ _ _ (by omega)]; exact small_at h (by omega) hd
theorem name_back {l : List UInt8} (h : nameL l = true) {n : Nat} (h2 : n < l.length) (hd : at' l n ≠ 45) : nameL (l.drop n) = true := by
  have hl := nameL_len h
  have hln : (l.drop n).length = l.length - n := List.length_drop
  refine nameL_mk (by rw [hln]; omega) (by rw [hln]; omega) ?_ ?_ (fun b hb => nameL_bytes h b (List.mem_of_mem_drop hb))
  · rw [at_drop]; exact small_at h (by omega) hd
  · rw [hln, at_drop, show n + (l.length - n - 1) = l.length - 1 by omega]; exact (nameL_ends h).2
theorem name_first {s : ByteArray} (h : nameL s.data.toList = true) {n : Nat} (h1 : 1 ≤ n) (h2 : n < s.size) (hd : s[n - 1].toNat ≠ 45) : nameL (s.extract 0 n).data.toList = true := by
  rw [extract_list', List.drop_zero]
  refine name_front h h1 (by rw [size_list]; exact h2) ?_
  rw [← at_byte s (n - 1) (by omega)]; exact hd
theorem name_rest {s : ByteArray} (h : nameL s.data.toList = true) {n : Nat} (h2 : n < s.size) (hd : s[n].toNat ≠ 45) : nameL (s.extract n s.size).data.toList = true := by
  rw [extract_list', List.take_of_length_le (by rw [size_list]; exact Nat.le_refl _)]
  refine name_back h (by rw [size_list]; exact h2) ?_
  rw [← at_byte s n h2]; exact hd
end Text
end Go.Proofs.YtaegknpijgjioaaGreatDoor
