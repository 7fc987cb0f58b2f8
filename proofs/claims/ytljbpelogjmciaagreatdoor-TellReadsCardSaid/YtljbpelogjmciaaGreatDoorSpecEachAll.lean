/-
 What follows of what may be a spec, in plain functions: what may be may be without its last labels and containers. No condition. And what follows of it, part by part, each with its conditions.
-/
import Derived.Test.YtljbpelogjmciaaGreatDoorSpecRefAll
namespace Go.Proofs.YtljbpelogjmciaaGreatDoor
namespace Sd
theorem oneV_ok (x : Ctr) (a : List Ctr) (init : Bool) : (oneV x a init).1 = 0 ↔ isName x.name = true ∧ a.any (fun c => c.name.toList == x.name.toList) = false ∧ isImage x.image = true ∧ ¬ 0 ≤ numsV false x.rc x.rm x.rp 0 0 0 ∧ ¬ 0 ≤ numsV true x.lc x.lm x.lp x.rc x.rm x.rp ∧
 ¬ (3 < x.ports.length ∨ (init = true ∧ 0 < x.ports.length)) ∧ (portsFrom a 0 [] x.ports).1 = 0 ∧ (probeV x.ev x.fl init).1 = 0 := by
 unfold oneV
 by_cases h1 : isName x.name = false
 · simp [h1]
 · by_cases h2 : a.any (fun c => c.name.toList == x.name.toList) = true
   · rw [if_neg h1, if_pos h2, h2]; simp
   · by_cases h3 : isImage x.image = false
     · rw [if_neg h1, if_neg h2, if_pos h3, h3]; simp
     · by_cases h4 : 0 ≤ numsV false x.rc x.rm x.rp 0 0 0
       · rw [if_neg h1, if_neg h2, if_neg h3, if_pos h4]; simp [h4]
       · by_cases h5 : 0 ≤ numsV true x.lc x.lm x.lp x.rc x.rm x.rp
         · rw [if_neg h1, if_neg h2, if_neg h3, if_neg h4, if_pos h5]; simp [h5]
         · by_cases h6 : 3 < x.ports.length ∨ (init = true ∧ 0 < x.ports.length)
           · rw [if_neg h1, if_neg h2, if_neg h3, if_neg h4, if_neg h5, if_pos h6]
             constructor
             · intro h; simp at h
             · intro h; exact absurd h6 h.2.2.2.2.2.1
           · rw [if_neg h1, if_neg h2, if_neg h3, if_neg h4, if_neg h5, if_neg h6]
             have e1 : isName x.name = true := by simpa using h1
             have e2 : a.any (fun c => c.name.toList == x.name.toList) = false := by simpa using h2
             have e3 : isImage x.image = true := by simpa using h3
             by_cases h7 : (portsFrom a 0 [] x.ports).1 = 0
             · rw [if_neg (by simpa using h7)]
               exact ⟨fun h => ⟨e1, e2, e3, h4, h5, h6, h7, h⟩, fun h => h.2.2.2.2.2.2.2⟩
             · rw [if_pos h7]
               exact ⟨fun h => absurd h h7, fun h => h.2.2.2.2.2.2.1⟩
theorem check_ok (S : Spc) : (checkV S).1 = 0 ↔ isName S.name = true ∧ (labelsV t_labels S.labels).1 = 0 ∧ S.init.length ≤ 3 ∧ (ctrsFrom t_init true 0 [] S.init).1 = 0 ∧ (1 ≤ S.main.length ∧ S.main.length ≤ 4) ∧ (ctrsFrom t_main false 0 S.init S.main).1 = 0 ∧ (tailV S).1 = 0 := by
 unfold checkV
 by_cases h1 : isName S.name = false
 · rw [if_pos h1, h1]; simp
 · have e1 : isName S.name = true := by simpa using h1
   rw [if_neg h1]
   by_cases h2 : (labelsV t_labels S.labels).1 = 0
   · rw [if_neg (by simpa using h2)]
     by_cases h3 : 3 < S.init.length
     · rw [if_pos h3]
       exact ⟨fun h => by simp at h, fun h => absurd h.2.2.1 (by omega)⟩
     · rw [if_neg h3]
       by_cases h4 : (ctrsFrom t_init true 0 [] S.init).1 = 0
       · rw [if_neg (by simpa using h4)]
         by_cases h5 : S.main.length < 1 ∨ 4 < S.main.length
         · rw [if_pos h5]
           exact ⟨fun h => by simp at h, fun h => absurd h.2.2.2.2.1 (by omega)⟩
         · rw [if_neg h5]
           by_cases h6 : (ctrsFrom t_main false 0 S.init S.main).1 = 0
           · rw [if_neg (by simpa using h6)]
             exact ⟨fun h => ⟨e1, h2, by omega, h4, by omega, h6, h⟩, fun h => h.2.2.2.2.2.2⟩
           · rw [if_pos h6]
             exact ⟨fun h => absurd h h6, fun h => h.2.2.2.2.2.1⟩
       · rw [if_pos h4]
         exact ⟨fun h => absurd h h4, fun h => h.2.2.2.1⟩
   · rw [if_pos h2]
     exact ⟨fun h => absurd h h2, fun h => h.2.1⟩
end Sd
end Go.Proofs.YtljbpelogjmciaaGreatDoor
set_option linter.unusedVariables false
set_option linter.unusedSimpArgs false
namespace Go.Proofs.YtljbpelogjmciaaGreatDoor
open TextPure Sd
namespace SpecOwn
theorem ctrs_each {name : ByteArray} {init : Bool} : ∀ (l : List Ctr) (i : Nat) {a : List Ctr}, (ctrsFrom name init i a l).1 = 0 → ∀ x ∈ l, ∃ a', (oneV x a' init).1 = 0
 | [], _, _, _, x, hx => by cases hx
 | y :: l, i, a, h, x, hx => by
  rw [ctrsFrom] at h
  split at h
  · rename_i h1
    exact absurd h h1
  · rename_i h1
    rcases List.mem_cons.1 hx with rfl | hx
    · exact ⟨a, by simpa using h1⟩
    · exact ctrs_each l (i + 1) h x hx
end SpecOwn
end Go.Proofs.YtljbpelogjmciaaGreatDoor
