/- OpsBack is true at every input. No condition. -/
import Derived.Test.YtkecldmjjhhlgaaOpsI
namespace Go.Proofs.Ytkecldmjjhhlgaa.Oct
open Go.Proofs.Ytkecldmjjhhlgaa Go.ChangeShapes Go.WideShapes Go.ChangeAt Go.RowKit Go.Shelf
set_option maxRecDepth 100000 in
set_option maxHeartbeats 1000000 in
theorem opsBack_walk (s : List UInt8) (A : Option Addr) (c : Nat) (hsc : s.length ≤ c) (hcm : c ≤ 9223372036854775807) (l : List PV) (LA : Option Addr) (cl : Nat) (w : World) (h : Holds8 w.heap.size w A s) (hl : PvsAt w.heap.size w LA l) (hsm : ∀ p ∈ l, p.b.length ≤ 140737488351232) (hll : l.length ≤ 9223372036854775807) :
    Calls Try.prog 6 #[.slice A s.length c, .slice LA l.length cl] w fun e w' => e = .returned (.bool true) ∧ Below w.heap.size w w' := by
  have H := Lib.hid h
  have HL := Lib.hid hl
  have HSL := Lib.hid hsm
  clear h hl hsm
  by_cases hbig : 5000 < s.length
  · have d1 : (5000 : Int) < (s.length : Int) := by omega
    clear hbig hsc hcm
    go_enter Try.func6, Try.ntmps6
    go_wp2_with (go_at_call 26; refine (alive_any _).mono ?_; rintro e w1 ⟨rfl, hb1⟩)
    go_ret
    exact ⟨rfl, hb1⟩
  · by_cases hgr : greatP l = true
    · have d1 : decide ((5000 : Int) < (s.length : Int)) = false := by simp; omega
      have HGR := Lib.hid hgr
      clear hbig hsc hcm hgr
      go_enter Try.func6, Try.ntmps6
      go_wp2_with (first
        | (go_at_call 26; refine (alive_any _).mono ?_; rintro e w1 ⟨rfl, hb⟩; have HB1 := Lib.hid hb; clear hb; have HG := Lib.hid (great_any l LA cl w.heap.size _ (HL.out.later HB1.out) HSL.out hll); rw [HGR.out] at HG)
        | (go_at_call 16; refine HG.out.mono ?_; rintro e wg ⟨rfl, rfl⟩; clear HG))
      go_ret
      exact ⟨rfl, HB1.out⟩
    · have HGF := Lib.hid (show greatP l = false by simpa using hgr)
      have hq : greatP l = false := by simpa using hgr
      unfold greatP at hq
      simp only [Bool.or_eq_false_iff, decide_eq_false_iff_not] at hq
      have hl100 : l.length ≤ 100 := by omega
      have hj := join_len l
      have hJ0 : (joinB (l.map PV.is)).length ≤ 100000 := by omega
      have hs5 : s.length ≤ 5000 := by omega
      clear hgr hbig hq hj
      have hmm : (l.map PV.is).length = l.length := List.length_map ..
      have hsp : splitL ([] : List UInt8) = some [] := by unfold splitL; rfl
      cases hs : splitL s with
      | none =>
        cases hv : (l.map PV.is).all validB with
        | false => exact back_nb s A c hsc hcm l LA cl w H HL HSL hs5 hll HGF hl100 _ (Lib.hid rfl) hJ0 (Lib.hid hs) (Lib.hid hv)
        | true =>
          have q1 := join_split _ hv []
          have q2 := join_split _ hv s
          rw [List.append_nil, hsp] at q1
          rw [hs] at q2
          exact back_nv s A c hsc hcm l LA cl w H HL HSL hs5 hll HGF hl100 _ (Lib.hid rfl) hJ0 (Lib.hid hs) (Lib.hid hv) (Lib.hid (by rw [q1]; simp)) (Lib.hid (by rw [q2]; rfl)) hJ0 (Lib.hid fun r hr => same_true hr) _ (Lib.hid rfl)
      | some L =>
        have HSJ := Lib.hid (split_join s.length s L (Nat.le_refl _) hs)
        cases hv : (l.map PV.is).all validB with
        | false => exact back_sb s A c hsc hcm l LA cl w H HL HSL hs5 hll HGF hl100 _ (Lib.hid rfl) hJ0 L (Lib.hid hs) HSJ (Lib.hid hv)
        | true =>
          have q1 := join_split _ hv []
          have q2 := join_split _ hv s
          rw [List.append_nil, hsp] at q1
          rw [hs] at q2
          exact back_sv s A c hsc hcm l LA cl w H HL HSL hs5 hll HGF hl100 _ (Lib.hid rfl) hJ0 L (Lib.hid hs) HSJ (Lib.hid hv) (Lib.hid (by rw [q1]; simp)) (Lib.hid (by rw [q2]; rfl)) hJ0 (Lib.hid fun r hr => same_true hr) _ (Lib.hid rfl)
set_option maxRecDepth 100000 in
theorem back_lifted (os : Os) (started : os.Started) (H : Type) (enc : TypeId × Value → H) :
    ReturnsInHanded {} Try.checked os 6 .any (Rows.opsBackSpec.pre6 enc Try.prog Try.f6 Rows.opsBackRow.domain false) (Rows.opsBackSpec.post enc Try.prog Try.f6 false true false false) := by
  refine returnsInHanded_of_change_sized (C := Try.checked) own started (by kernel_rfl) Try.func6
    (ChangeSpec.witness6 (enc := enc) (C := Try.checked) false ⟨#[], #[.slice none 0 0, .slice none 0 0], []⟩ 8 (by kernel_rfl) (by kernel_rfl) (by kernel_rfl) (by kernel_rfl)) ?_
  intro W base args ds gs before hval0 hW hcnd hsize _
  have hval : ∀ (j : Nat) t v, Try.f6.params[j]? = some t → args[j]? = some v → Value.okWide Try.prog W .any base t v := hval0
  have hW' := hW
  obtain ⟨p, q, hA0, hV, rfl, hfz, hnd⟩ := hW
  have hA : DataW.TrodAll enc Try.prog W 0 (fun _ => true) true Try.f6.params.toList args.toList ds p := hA0
  rw [Try.params6] at hA hval
  obtain ⟨v0, vs0, d0, ds0, p0, q0, hargs, rfl, rfl, h0, r0⟩ := trodAll_cons hA
  obtain ⟨v1, vs1, d1, ds1, p1, q1, rfl, rfl, rfl, h1, r1⟩ := trodAll_cons r0
  obtain ⟨rfl, rfl, rfl⟩ := trodAll_nil r1
  obtain rfl : args = #[v0, v1] := by cases args; simp_all
  obtain ⟨rfl, rfl⟩ := trodVars_none hV
  have k0 := h0
  have lt0 : ∀ x ∈ p0, x.block < W.heap.size := by obtain ⟨m, hm⟩ := k0; exact DataW.trod_lt m _ _ _ hm
  have k1 := h1
  have lt1 : ∀ x ∈ p1, x.block < W.heap.size := by obtain ⟨m, hm⟩ := k1; exact DataW.trod_lt m _ _ _ hm
  obtain ⟨A0, bs0, cap0, rfl, hh0, hlen0, hcap0⟩ := open8n (hval 0 22 v0 rfl rfl) k0
  have hw1 : ∀ m ∈ d1.weights Try.prog 23, m ≤ reachBytes := fun m hm => by
    have q := List.all_eq_true.1 hsize m (DataW.weights_mem_each (j := 1) (t := 23) (d := d1) rfl rfl m hm)
    simpa using q
  obtain ⟨A1, l1, cap1, rfl, hh1, hsm1, hlen1, hnil1, hcap1⟩ := open_pvs (hval 1 23 v1 rfl rfl) k1 hw1
  clear hA0 hval0 hsize hw1
  refine (opsBack_walk bs0 A0 cap0 hlen0 (by have := hcap0.1; unfold maxLen at this; omega) l1 A1 cap1 W hh0 hh1 hsm1 (by unfold maxLen at hcap1; omega)).mono fun e W' ⟨he, bel⟩ => ?_
  subst he
  exact ⟨_, rfl, _, _, _, [], _, [], hW', trodAll_mk1 (shut_bool Try.underlying4 _), (trodAll_cons_mk (Below.trod laidOut (by kernel_rfl) (of_decide_eq_true (by kernel_rfl)) k0 bel lt0) (trodAll_cons_mk (Below.trod laidOut (by kernel_rfl) (of_decide_eq_true (by kernel_rfl)) k1 bel lt1) trodAll_mk0)), rfl, bel.frame _, fun h => by cases h⟩

theorem back_over : Rows.opsBackRow.holds Try.pinned (OpenSpec.ofChange Rows.opsBackSpec) :=
  OpenClaim.holds_of_wide 6 Try.f6 rfl rfl rfl rfl rfl rfl rfl ⟨rfl, rfl, rfl, rfl, rfl⟩ rfl rfl rfl rfl rfl (by kernel_rfl) Try.func6 (by kernel_rfl)
    (of_decide_eq_true (by kernel_rfl)) (by unfold Func.isWrapper; first | (rw [if_pos (by decide +kernel)]; kernel_rfl) | (rw [if_neg (by decide +kernel)]; exact ⟨rfl, rfl⟩))
    (fun os started H enc _ => back_lifted os started H enc)

/-- A script is its operations, joined; operations that may be, joined, are split as they were, and so is what stands behind them: any script and operations. No condition. -/
theorem back_proved : Rows.OpsBackSaid := back_over
#print axioms back_proved
end Go.Proofs.Ytkecldmjjhhlgaa.Oct
