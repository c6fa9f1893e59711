/- TxOrders is true at every two outpoints. No condition. -/
import Derived.Test.YtpcneodkcdpldaaOrdB
import Derived.ProofKit
import Derived.OpenShut
import Derived.ChangeOld
namespace Go.Proofs.Ytpcneodkcdpldaa
open Go.ChangeShapes Go.WideShapes Go.ChangeAt Go.RowKit
set_option linter.unusedVariables false

theorem own : ownKnob Try.prog.godebug = none := by kernel_rfl
theorem laidOut : laidOutB Try.prog = true := by kernel_rfl

theorem isOut_of {H : Type} {enc : TypeId × Value → H} {w : World} {base : Nat} {spare : Nat → Bool} {held : Bool} {cs : Array Value} {d : DataW H} {ps : List MemPlace}
    (h : DataW.Trod enc Try.prog w base spare held 26 (.agg cs) d ps) : ∃ xs n, IsOut cs xs n := by
  obtain ⟨fuel, hf⟩ := h
  obtain ⟨y0, y1, m, _, hl, h0, h1⟩ := trod_struct2 Try.underlying26 hf
  have hc26 : Try.prog.cellsOf 26 = 33 := by kernel_rfl
  have hc23 : Try.prog.cellsOf 23 = 32 := by kernel_rfl
  have hc24 : Try.prog.cellsOf 24 = 1 := by kernel_rfl
  have hc5 : Try.prog.cellsOf 5 = 1 := by kernel_rfl
  have e1 : (Value.agg cs).cells.toList = cs.toList := rfl
  rw [e1] at hl h0 h1
  rw [hc26] at hl
  simp only [hc23, hc24, List.drop_zero] at h0 h1
  obtain ⟨_, hb⟩ := trod_ints Try.underlying23 Try.underlying5 hc5 h0
  obtain ⟨n, hn, _, _⟩ := DataW.trod_int Try.underlying24 h1
  have hsz : cs.size = 33 := by simpa using hl
  have hx : ∀ i, i < 32 → ∃ z, cs[i]? = some (.int .u8 z) ∧ isByte z := by
    intro i hi
    obtain ⟨z, hz, hw⟩ := hb i hi
    refine ⟨z, ?_, ?_⟩
    · rw [List.getElem?_take_of_lt hi] at hz
      simpa using hz
    · have := bounds_u8 hw
      exact this
  have hnn : cs[32]? = some (.int .u32 n) := by
    have h3 : ((cs.toList.drop 32).take 1)[0]? = some (.int .u32 n) := by rw [hn]; rfl
    simpa using h3
  refine ⟨(List.range 32).map fun i => intOf ((cs[i]?).getD undef), n, hsz, by simp, ?_, ?_, hnn⟩
  · intro x hxm
    obtain ⟨i, hi, rfl⟩ := List.mem_map.1 hxm
    obtain ⟨z, hz, hw⟩ := hx i (List.mem_range.1 hi)
    rw [hz]
    exact hw
  · intro j x hj
    have hjl : j < 32 := by
      have := (List.getElem?_eq_some_iff.1 hj).1
      simpa using this
    obtain ⟨z, hz, _⟩ := hx j hjl
    rw [List.getElem?_map, List.getElem?_range hjl] at hj
    simp [hz, intOf] at hj
    rw [hz, hj]

set_option maxRecDepth 100000 in
theorem lifted (os : Os) (started : os.Started) (H : Type) (enc : TypeId × Value → H) :
    ReturnsInHanded {} Try.checked os 3 .any (Rows.txOrdersSpec.pre6 enc Try.prog Try.f3 Rows.txOrdersRow.domain false) (Rows.txOrdersSpec.post enc Try.prog Try.f3 false true false false) := by
  refine returnsInHanded_of_change (C := Try.checked) own started (by kernel_rfl) Try.func3
    (ChangeSpec.witness6 (enc := enc) (C := Try.checked) false ⟨#[], #[.agg ((Array.replicate 32 (.int .u8 0)).push (.int .u32 0)), .agg ((Array.replicate 32 (.int .u8 0)).push (.int .u32 0))], []⟩ 8 (by kernel_rfl) (by kernel_rfl) (by kernel_rfl) (by kernel_rfl)) ?_
  intro W base args ds gs before hval0 hW hcnd _
  have hval : ∀ (j : Nat) t v, Try.f3.params[j]? = some t → args[j]? = some v → Value.okWide Try.prog W .any base t v := hval0
  have hW' := hW
  obtain ⟨p, q, hA0, hV, rfl, hfz, hnd⟩ := hW
  have hA : DataW.TrodAll enc Try.prog W 0 (fun _ => true) true Try.f3.params.toList args.toList ds p := hA0
  rw [Try.params3] at hA hval
  obtain ⟨v0, vs0, d0, ds0, p0, q0, hargs, rfl, rfl, h0, r0⟩ := trodAll_cons hA
  obtain ⟨v1, vs1, d1, ds1, p1, q1, rfl, rfl, rfl, h1, r1⟩ := trodAll_cons r0
  obtain ⟨rfl, rfl, rfl⟩ := trodAll_nil r1
  obtain rfl : args = #[v0, v1] := by cases args; simp_all
  obtain ⟨rfl, rfl⟩ := trodVars_none hV
  obtain ⟨cs, rfl, hs0⟩ := okWide_struct Try.underlying26 (hval 0 26 v0 rfl rfl)
  obtain ⟨cs', rfl, hs1⟩ := okWide_struct Try.underlying26 (hval 1 26 v1 rfl rfl)
  have k0 := h0
  have k1 := h1
  have lt0 : ∀ x ∈ p0, x.block < W.heap.size := by obtain ⟨m, hm⟩ := k0; exact DataW.trod_lt m _ _ _ hm
  have lt1 : ∀ x ∈ p1, x.block < W.heap.size := by obtain ⟨m, hm⟩ := k1; exact DataW.trod_lt m _ _ _ hm
  obtain ⟨xs, n, hc⟩ := isOut_of k0
  obtain ⟨ys, m, hd⟩ := isOut_of k1
  clear hA0 hval0
  refine (orders_any cs cs' xs ys n m W hc hd).mono fun e W' ⟨he, bel⟩ => ?_
  subst he
  exact ⟨_, rfl, _, _, _, [], _, [], hW', trodAll_mk1 (shut_bool Try.underlying4 _), (trodAll_cons_mk (Below.trod laidOut (by kernel_rfl) (of_decide_eq_true (by kernel_rfl)) k0 bel lt0) (trodAll_cons_mk (Below.trod laidOut (by kernel_rfl) (of_decide_eq_true (by kernel_rfl)) k1 bel lt1) trodAll_mk0)), rfl, bel.frame _, fun h => by cases h⟩

theorem over : Rows.txOrdersRow.holds Try.pinned (OpenSpec.ofChange Rows.txOrdersSpec) :=
  OpenClaim.holds_of_wide 3 Try.f3 rfl rfl rfl rfl rfl rfl rfl ⟨rfl, rfl, rfl, rfl, rfl⟩ rfl rfl rfl rfl rfl (by kernel_rfl) Try.func3 (by kernel_rfl)
    (of_decide_eq_true (by kernel_rfl)) (by unfold Func.isWrapper; first | (rw [if_pos (by decide +kernel)]; kernel_rfl) | (rw [if_neg (by decide +kernel)]; exact ⟨rfl, rfl⟩))
    (fun os started H enc _ => lifted os started H enc)

/-- TxOrders is true at every two outpoints. -/
theorem orders_proved : Rows.TxOrdersSaid := over
#print axioms orders_proved
end Go.Proofs.Ytpcneodkcdpldaa
