/-
 A message that was read: it is not too much (what check_code asks), and it lies in memory of the call's own. Plain lemmas for tell.Of.
-/
import Derived.Test.YtalnncgomlibbaaGreatDoorTellEv
import Derived.Test.YtalnncgomlibbaaGreatDoorTellMay
import Derived.Test.YtalnncgomlibbaaGreatDoorTellPut2
set_option linter.unusedVariables false
set_option linter.unusedSimpArgs false
namespace Go.Proofs.YtalnncgomlibbaaGreatDoor
open Go.ChangeShapes Go.WideShapes Go.ChangeAt Go.RowKit Go.Lib
open LebMath WirePure Sd Wire SpecOwn SpecRef Book Pk
namespace Tl
theorem pod_light {p : Pd} (h : podC.ok p) : LightP p := by
 have h := pod_parts h
 have hl := spec_light h.spec
 have h8 : p.spec.main.length ≤ 8 := hl.1.2.2.2
 exact ⟨hl, by have := h.len; omega⟩
theorem zeroP_light : LightP zeroP :=
 ⟨⟨⟨by decide, by decide, by decide, by decide⟩, fun x hx => (by simp [zeroP, zeroS] at hx), fun x hx => (by simp [zeroP, zeroS] at hx), fun x hx => (by simp [zeroP, zeroS] at hx)⟩, by decide⟩
theorem reply_light {y : Rp} (h : replyC.ok y) : LightR y := by
 have h := reply_parts h
 exact ⟨by have := h.data; omega, by have := h.np; omega, by have := h.nu; omega, fun p hp => pod_light (h.pods p hp)⟩
theorem zeroR_light : LightR zeroR := ⟨by decide, by decide, by decide, fun p hp => (by simp [zeroR] at hp)⟩
theorem event_light {e : Ev} (h : eventC.ok e) : LightP e.pod := by
 have h2 : (podIfC e.kind).ok e.pod := h.1.2
 unfold podIfC at h2
 split at h2
 · exact pod_light h2
 · have h3 : e.pod = zeroP := h2
   rw [h3]
   exact zeroP_light
theorem msg_light {m : Mg} (h : msgC.ok m) : LightM m := by
 have h2 : (bodyC m.kind).ok (m.reply, m.event) := h.1.2
 unfold bodyC at h2
 split at h2
 · have e : (m.reply, zeroE) = (m.reply, m.event) := h2.2
   injection e with _ e
   exact ⟨reply_light h2.1, by rw [← e]; exact zeroP_light⟩
 · split at h2
   · have e : (zeroR, m.event) = (m.reply, m.event) := h2.2
     injection e with e _
     exact ⟨by rw [← e]; exact zeroR_light, event_light h2.1⟩
   · have e : (m.reply, m.event) = (zeroR, zeroE) := h2
     injection e with e1 e2
     exact ⟨by rw [e1]; exact zeroR_light, by rw [e2]; exact zeroP_light⟩
theorem rp_zero (B : Nat) (w : World) : RpUp B zeroR w none none := ⟨PodsUp.nil _ _ _, UsesUp.nil _ _ _, by decide, by decide, by decide⟩
theorem RpUp.less {B B' : Nat} {y : Rp} {w : World} {PA UA : Option Addr} (h : RpUp B y w PA UA) (hB : B' ≤ B) : RpUp B' y w PA UA :=
 ⟨podsup_less h.pods hB, usesup_less h.use hB, h.np, h.nu, h.rev⟩
structure MgUp (B : Nat) (m : Mg) (w : World) (PA UA LA IA MA RA : Option Addr) : Prop where
 reply : RpUp B m.reply w PA UA
 pod : PodUp B m.event.pod w LA IA MA RA
 rev : m.event.rev < 18446744073709551616
theorem MgUp.in {B : Nat} {m : Mg} {w : World} {PA UA LA IA MA RA : Option Addr} {lc ic mc : Nat} (h : MgUp B m w PA UA LA IA MA RA) : m.In w PA UA LA lc IA ic MA mc RA := ⟨h.reply.in, h.pod.in, h.rev⟩
theorem MgUp.move {B : Nat} {m : Mg} {w v : World} {PA UA LA IA MA RA : Option Addr} (h : MgUp B m w PA UA LA IA MA RA) (hs : w.heap.size ≤ v.heap.size) (hb : ∀ i, B ≤ i → i < w.heap.size → v.heap[i]? = w.heap[i]?) : MgUp B m v PA UA LA IA MA RA := ⟨h.reply.move hs hb, h.pod.move hs hb, h.rev⟩
theorem mg_zero (B : Nat) (w : World) : MgUp B zeroM w none none none none none none := ⟨rp_zero _ _, pod_zero _ _, by decide⟩
theorem msg_rd (l : List UInt8) {x1 x2 : Int} {c1 c2 : Int} {l1 l2 : List UInt8} {b : Rp × Ev} {c3 : Int} {l3 : List UInt8} (q1 : mkindC.rd 0 l = (x1, c1, l1)) (q2 : uidC.rd c1 l1 = (x2, c2, l2)) (q3 : (bodyC x1).rd c2 l2 = (b, c3, l3)) :
 msgC.rd 0 l = (⟨x1, x2, b.1, b.2⟩, c3, l3) := by
 have e1 : (pairC mkindC uidC).rd 0 l = ((x1, x2), c2, l2) := by
  simp only [pairC, pairR, q1, q2]
 simp only [msgC, mapC, depC, depR, e1, q3]
end Tl
end Go.Proofs.YtalnncgomlibbaaGreatDoor
