/-
  A region that draws its order and may be guarded, by a condition on what is done already. No condition.
-/
import Derived.Test.YtpllcnpmjnmcfaaDoorRc5
set_option linter.unusedVariables false
set_option linter.unusedSimpArgs false
namespace Go.Proofs.YtpllcnpmjnmcfaaDoor
open Go.RowKit
namespace Back
variable {P : Program} {Q : Exit → Act → World → Prop}
theorem wp_region_g {id : Nat} {ops : Array Oper} {a0 : Act} {w0 : World} (hm : P.follows .mixedOrders = true) (hback : ∀ i o, ops[i]? = some o → ∀ e ∈ o.after, Region.binds .any e = true → e.on < i)
    (I : (Nat → Bool) → Act → World → Prop) (h0 : I (fun _ => false) a0 w0.drew)
    (hstep : ∀ (s : Nat → Bool) i o a w, ops[i]? = some o → s i = false → (∀ e ∈ o.after, Region.binds .any e = true → s e.on = true) → I s a w → (Region.wanted o (yielded ops a.tmps) = true ∧ o.wp P a w (fun a' w' => I (fun j => s j || j == i) a' w') Q) ∨ (Region.wanted o (yielded ops a.tmps) = false ∧ I (fun j => s j || j == i) (a.put o.dst undef) w))
    (hend : ∀ s a w, (∀ i, i < ops.size → s i = true) → I s a w → Q .normal a w) : (Code.region id ops true).wp P Q a0 w0 := by
  have main : ∀ (fuel : Nat) (listed : Array Bool) (s : Nat → Bool) (a : Act) (w : World), listed.size = ops.size → (∀ i, i < ops.size → listed.getD i true = s i ∧ listed.getD i false = s i) → ((List.range ops.size).filter fun j => !s j).length ≤ fuel → I s a w → wpAny P .any ops Q fuel listed a w := by
    intro fuel
    induction fuel with
    | zero =>
      intro listed s a w hz hl hf hi
      have hall : ∀ i, i < ops.size → s i = true := fun i h => by
        cases hs : s i with
        | true => rfl
        | false =>
          have : i ∈ (List.range ops.size).filter fun j => !s j := List.mem_filter.2 ⟨List.mem_range.2 h, by rw [hs]; rfl⟩
          rw [List.eq_nil_of_length_eq_zero (Nat.le_zero.1 hf)] at this
          cases this
      refine ⟨List.eq_nil_iff_forall_not_mem.2 fun i h => ?_, hend s a w hall hi⟩
      obtain ⟨h1, o, ho, _⟩ := mem_ready.1 h
      have hlt := (Array.getElem?_eq_some_iff.1 ho).1
      rw [(hl i hlt).1, hall i hlt] at h1
      cases h1
    | succ fuel ih =>
      intro listed s a w hz hl hf hi
      refine ⟨fun hr => hend s a w (fun i => ?_) hi, fun i h => ?_⟩
      · induction i using Nat.strongRecOn with
        | _ i hin =>
          intro hlt
          cases hs : s i with
          | true => rfl
          | false =>
            have : i ∈ Region.ready .any ops listed := mem_ready.2 ⟨by rw [(hl i hlt).1]; exact hs, _, Array.getElem?_eq_getElem hlt, fun e he hb => by
              have h1 := hback i _ (Array.getElem?_eq_getElem hlt) e he hb
              rw [(hl e.on (by omega)).2]
              exact hin e.on h1 (by omega)⟩
            rw [hr] at this
            cases this
      · obtain ⟨h1, o, ho, hd⟩ := mem_ready.1 h
        have hlt := (Array.getElem?_eq_some_iff.1 ho).1
        rw [(hl i hlt).1] at h1
        have hstep' := hstep s i o a w ho h1 (fun e he hb => by have h2 := hback i o ho e he hb; rw [← (hl e.on (by omega)).2]; exact hd e he hb) hi
        have next : ∀ a' w', I (fun j => s j || j == i) a' w' → wpAny P .any ops Q fuel (listed.setIfInBounds i true) a' w' := by
          intro a' w' hi'
          refine ih _ (fun j => s j || j == i) a' w' (by simpa using hz) (fun j hj => ?_) ?_ hi'
          · have h3 := hl j hj
            simp only [Array.getD_eq_getD_getElem?] at h3 ⊢
            by_cases e : i = j
            · subst e; simp [show i < listed.size by omega]
            · rw [Array.getElem?_setIfInBounds_ne e, h3.1, h3.2]
              simp [Ne.symm e]
          · have e : ((List.range ops.size).filter fun j => !(s j || j == i)) = ((List.range ops.size).filter fun j => !s j).filter fun j => !(j == i) := by
              rw [List.filter_filter]
              refine List.filter_congr fun j _ => ?_
              cases s j <;> simp
            have hm : i ∈ (List.range ops.size).filter fun j => !s j := List.mem_filter.2 ⟨List.mem_range.2 hlt, by rw [h1]; rfl⟩
            have : (((List.range ops.size).filter fun j => !s j).filter fun j => !(j == i)).length < ((List.range ops.size).filter fun j => !s j).length := by
              exact List.length_filter_lt_length_iff_exists.2 ⟨i, hm, by simp⟩
            rw [e]; omega
        unfold wpOp
        simp only [ho]
        rcases hstep' with ⟨hw, hwp⟩ | ⟨hw, hi'⟩
        · rw [if_pos hw]
          exact .inl (Oper.wp_mono (fun a' w' hi' => next a' w' hi') hwp)
        · rw [if_neg (by rw [hw]; simp)]
          exact next _ _ hi'
  exact wp_region_any hm (main _ _ (fun _ => false) a0 _ (by simp) (fun i h => by simp [Array.getD_eq_getD_getElem?, h]) (Nat.le_trans (List.length_filter_le _ _) (by simp)) h0)
end Back
end Go.Proofs.YtpllcnpmjnmcfaaDoor
