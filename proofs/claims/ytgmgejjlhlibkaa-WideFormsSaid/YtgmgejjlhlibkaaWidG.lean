/- Numbers as arguments, read. No condition. -/
import Derived.Test.YtgmgejjlhlibkaaWideE
import Derived.ChangeOld
namespace Go.Proofs.Ytgmgejjlhlibkaa
open Go.ChangeShapes Go.WideShapes Go.ChangeAt Go.RowKit
set_option linter.unusedVariables false

theorem own : ownKnob Try.prog.godebug = none := by kernel_rfl
theorem laidOut : laidOutB Try.prog = true := by kernel_rfl

/-- A number, read: its cells are its four words. -/
theorem isWide_of {H : Type} {enc : TypeId × Value → H} {w : World} {base : Nat} {spare : Nat → Bool} {held : Bool} {cs : Array Value} {d : DataW H} {ps : List MemPlace}
    (h : DataW.Trod enc Try.prog w base spare held 24 (.agg cs) d ps) : ∃ n, n < top ∧ cs = wcells n := by
  obtain ⟨fuel, hf⟩ := h
  have hc22 : Try.prog.cellsOf 22 = 1 := by kernel_rfl
  have hc24 : Try.prog.cellsOf 24 = 4 := by kernel_rfl
  have e1 : (Value.agg cs).cells.toList = cs.toList := rfl
  rw [e1] at hf
  obtain ⟨hl, hb⟩ := trod_ints Try.underlying24 Try.underlying22 hc22 hf
  rw [hc24] at hl
  have hw : ∀ i, i < 4 → ∃ n : Nat, cs.toList[i]? = some (.int .u64 (n : Int)) ∧ word n := by
    intro i hi
    obtain ⟨z, hz, hwf⟩ := hb i hi
    have hbd := bounds_u64 hwf
    refine ⟨z.toNat, ?_, ?_⟩
    · rw [hz, Int.toNat_of_nonneg hbd.1]
    · unfold word
      omega
  obtain ⟨a0, h0, k0⟩ := hw 0 (by omega)
  obtain ⟨a1, h1, k1⟩ := hw 1 (by omega)
  obtain ⟨a2, h2, k2⟩ := hw 2 (by omega)
  obtain ⟨a3, h3, k3⟩ := hw 3 (by omega)
  refine ⟨num4 a0 a1 a2 a3, num4_lt _ _ _ _ k0 k1 k2 k3, ?_⟩
  rw [wcells_num4 k0 k1 k2 k3]
  obtain ⟨l⟩ := cs
  simp only at hl h0 h1 h2 h3
  match l, hl with
  | [c0, c1, c2, c3], _ =>
    simp at h0 h1 h2 h3
    subst h0 h1 h2 h3
    rfl

/-- A value of an array type is an aggregate. -/
theorem okWide_array {P : Program} {w : World} {r : Reach} {base : Nat} {t e : TypeId} {n : Nat} {v : Value} (ht : P.underlying t = some (.array n e)) (h : Value.okWide P w r base t v) : ∃ cs, v = .agg cs := by
  unfold Value.okWide at h
  rw [ht] at h
  obtain ⟨cs, hv, _⟩ := h
  exact ⟨cs, hv⟩

end Go.Proofs.Ytgmgejjlhlibkaa
