/- A slice of bytes that comes in. No condition. -/
import Derived.Test.YtkecldmjjhhlgaaOctK
import Derived.ProofKit
import Derived.OpenShut
import Derived.Carry
namespace Go.Proofs.Ytkecldmjjhhlgaa.Oct
open Go.Proofs.Ytkecldmjjhhlgaa Go.ChangeShapes Go.WideShapes Go.ChangeAt Go.RowKit
section
variable {H : Type} {enc : TypeId × Value → H}
/-- A slice of bytes that comes in. -/
theorem open8n {W : World} {v : Value} {d : DataW H} {p : List MemPlace} (hval : Value.okWide Try.prog W .any 0 22 v) (h : DataW.Trod enc Try.prog W 0 (fun _ => true) true 22 v d p) :
    ∃ (A : Option Addr) (bs : List UInt8) (cap : Nat), v = .slice A bs.length cap ∧ Holds8 W.heap.size W A bs ∧ bs.length ≤ cap ∧ cap ≤ maxLen ∧ (A = none → cap = 0) := by
  obtain ⟨fuel, hf⟩ := h
  obtain ⟨a0, len0, cap0, rfl⟩ := okWide_slice Try.underlying22 hval
  rcases open_ints Try.underlying22 Try.underlying5 Try.cells5 hf with ⟨hx, _⟩ | ⟨a, len, cap, zs, hcs, _, hl, hm, hz, _, hcell, hwz⟩
  · simp [Value.cells] at hx
    obtain ⟨rfl, rfl, rfl⟩ := hx
    exact ⟨none, [], 0, rfl, .inl ⟨rfl, rfl⟩, by simp, by simp, fun _ => rfl⟩
  · simp [Value.cells] at hcs
    obtain ⟨rfl, rfl, rfl⟩ := hcs
    obtain ⟨hspot, hblk⟩ := okw_slice hval
    obtain ⟨b, off, spot⟩ := a
    simp only at hspot hblk
    subst hspot
    simp only [if_true] at hz
    have hlz : len0 ≤ zs.length := by omega
    have hlen : ((zs.take len0).map fun z => UInt8.ofNat z.toNat).length = len0 := by simp; omega
    refine ⟨some ⟨b, off, none⟩, (zs.take len0).map fun z => UInt8.ofNat z.toNat, cap0, by rw [hlen], .inr ⟨b, off, rfl, hblk, fun j hj => ?_⟩, by rw [hlen]; omega, hm, fun e => by cases e⟩
    have hj2 : j < len0 := by omega
    have hc := hcell j (by omega)
    rw [add_off] at hc
    rw [hc]
    have hw := byte_wf (hwz (zs[j]'(by omega)) (List.getElem_mem _))
    have e : zs.getD j 0 = zs[j]'(by omega) := by simp [List.getD, show j < zs.length by omega]
    rw [e]
    congr 2
    simp only [List.getElem_map, List.getElem_take]
    rw [UInt8.toNat_ofNat']
    omega
end
end Go.Proofs.Ytkecldmjjhhlgaa.Oct
