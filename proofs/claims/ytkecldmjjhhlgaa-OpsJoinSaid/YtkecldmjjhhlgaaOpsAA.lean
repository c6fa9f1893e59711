/- OpsJoin is true at every input. No condition. -/
import Derived.Test.YtkecldmjjhhlgaaOpsZ
namespace Go.Proofs.Ytkecldmjjhhlgaa.Oct
open Go.Proofs.Ytkecldmjjhhlgaa Go.ChangeShapes Go.WideShapes Go.ChangeAt Go.RowKit Go.Shelf
set_option maxRecDepth 100000 in
set_option maxHeartbeats 2000000 in
theorem opsJoin_walk (l m : List PV) (LA MA : Option Addr) (cl cm : Nat) (p : List UInt8) (A : Option Addr) (c : Nat) (w : World) (hl : PvsAt w.heap.size w LA l) (hm : PvsAt w.heap.size w MA m) (hp : Holds8 w.heap.size w A p) (hsl : ∀ q ∈ l, q.b.length ≤ 140737488351232) (hsm : ∀ q ∈ m, q.b.length ≤ 140737488351232) (hll : l.length ≤ 9223372036854775807) (hlm : m.length ≤ 9223372036854775807) :
    Calls Try.prog 4 #[.slice LA l.length cl, .slice MA m.length cm, .slice A p.length c] w fun e w' => e = .returned (.bool true) ∧ Below w.heap.size w w' := by
  have HG1 := great_any l LA cl w.heap.size w hl hsl hll
  have HG2 := great_any m MA cm w.heap.size w hm hsm hlm
  cases hg1 : greatP l with
  | true =>
    rw [hg1] at HG1
    have HGA := Lib.hid HG1
    clear HG1 HG2 hl hm hp hsl hsm hg1
    go_enter Try.func4, Try.ntmps4
    go_wp2_with (go_at_call 16; refine HGA.out.mono ?_; rintro e wg ⟨rfl, rfl⟩; clear HGA)
    go_ret
    exact ⟨rfl, Below.refl _ _⟩
  | false =>
    cases hg2 : greatP m with
    | true =>
      rw [hg1] at HG1
      rw [hg2] at HG2
      have HGA := Lib.hid HG1
      have HGB := Lib.hid HG2
      clear HG1 HG2 hl hm hp hsl hsm hg1 hg2
      go_enter Try.func4, Try.ntmps4
      go_wp2_with (first
        | (go_at_call 16; (with_reducible refine HGA.out.mono ?_); rintro e wg ⟨rfl, rfl⟩; clear HGA)
        | (go_at_call 16; (with_reducible refine HGB.out.mono ?_); rintro e wg ⟨rfl, rfl⟩; clear HGB))
      go_ret
      exact ⟨rfl, Below.refl _ _⟩
    | false =>
      by_cases hbig : 70000 < p.length
      · rw [hg1] at HG1
        rw [hg2] at HG2
        have HGA := Lib.hid HG1
        have HGB := Lib.hid HG2
        have d1 : (70000 : Int) < (p.length : Int) := by omega
        clear HG1 HG2 hl hm hp hsl hsm hg1 hg2 hbig
        go_enter Try.func4, Try.ntmps4
        go_wp2_with (first
          | (go_at_call 16; (with_reducible refine HGA.out.mono ?_); rintro e wg ⟨rfl, rfl⟩; clear HGA)
          | (go_at_call 16; (with_reducible refine HGB.out.mono ?_); rintro e wg ⟨rfl, rfl⟩; clear HGB))
        go_ret
        exact ⟨rfl, Below.refl _ _⟩
      · have q1 := hg1
        have q2 := hg2
        unfold greatP at q1 q2
        simp only [Bool.or_eq_false_iff, decide_eq_false_iff_not] at q1 q2
        have hj := join_len l
        exact opsJoin_main l m LA MA cl cm p A c w (Lib.hid hl) (Lib.hid hm) (Lib.hid hp) (Lib.hid hsl) (Lib.hid hsm) (Lib.hid hg1) (Lib.hid hg2) (by omega) (by omega) (Lib.hid (by omega)) p.length (Lib.hid rfl) (by omega)
set_option maxRecDepth 100000 in
theorem join_lifted (os : Os) (started : os.Started) (H : Type) (enc : TypeId × Value → H) :
    ReturnsInHanded {} Try.checked os 4 .any (Rows.opsJoinSpec.pre6 enc Try.prog Try.f4 Rows.opsJoinRow.domain false) (Rows.opsJoinSpec.post enc Try.prog Try.f4 false true false false) := by
  refine returnsInHanded_of_change_sized (C := Try.checked) own started (by kernel_rfl) Try.func4
    (ChangeSpec.witness6 (enc := enc) (C := Try.checked) false ⟨#[], #[.slice none 0 0, .slice none 0 0, .slice none 0 0], []⟩ 8 (by kernel_rfl) (by kernel_rfl) (by kernel_rfl) (by kernel_rfl)) ?_
  intro W base args ds gs before hval0 hW hcnd hsize _
  have hval : ∀ (j : Nat) t v, Try.f4.params[j]? = some t → args[j]? = some v → Value.okWide Try.prog W .any base t v := hval0
  have hW' := hW
  obtain ⟨p, q, hA0, hV, rfl, hfz, hnd⟩ := hW
  have hA : DataW.TrodAll enc Try.prog W 0 (fun _ => true) true Try.f4.params.toList args.toList ds p := hA0
  rw [Try.params4] at hA hval
  obtain ⟨v0, vs0, d0, ds0, p0, q0, hargs, rfl, rfl, h0, r0⟩ := trodAll_cons hA
  obtain ⟨v1, vs1, d1, ds1, p1, q1, rfl, rfl, rfl, h1, r1⟩ := trodAll_cons r0
  obtain ⟨v2, vs2, d2, ds2, p2, q2, rfl, rfl, rfl, h2, r2⟩ := trodAll_cons r1
  obtain ⟨rfl, rfl, rfl⟩ := trodAll_nil r2
  obtain rfl : args = #[v0, v1, v2] := by cases args; simp_all
  obtain ⟨rfl, rfl⟩ := trodVars_none hV
  have k0 := h0
  have lt0 : ∀ x ∈ p0, x.block < W.heap.size := by obtain ⟨m, hm⟩ := k0; exact DataW.trod_lt m _ _ _ hm
  have k1 := h1
  have lt1 : ∀ x ∈ p1, x.block < W.heap.size := by obtain ⟨m, hm⟩ := k1; exact DataW.trod_lt m _ _ _ hm
  have k2 := h2
  have lt2 : ∀ x ∈ p2, x.block < W.heap.size := by obtain ⟨m, hm⟩ := k2; exact DataW.trod_lt m _ _ _ hm
  have hw0 : ∀ m ∈ d0.weights Try.prog 23, m ≤ reachBytes := fun m hm => by
    have q := List.all_eq_true.1 hsize m (DataW.weights_mem_each (j := 0) (t := 23) (d := d0) rfl rfl m hm)
    simpa using q
  obtain ⟨A0, l0, cap0, rfl, hh0, hsm0, hlen0, hnil0, hcap0⟩ := open_pvs (hval 0 23 v0 rfl rfl) k0 hw0
  have hw1 : ∀ m ∈ d1.weights Try.prog 23, m ≤ reachBytes := fun m hm => by
    have q := List.all_eq_true.1 hsize m (DataW.weights_mem_each (j := 1) (t := 23) (d := d1) rfl rfl m hm)
    simpa using q
  obtain ⟨A1, l1, cap1, rfl, hh1, hsm1, hlen1, hnil1, hcap1⟩ := open_pvs (hval 1 23 v1 rfl rfl) k1 hw1
  obtain ⟨A2, bs2, cap2, rfl, hh2, hlen2, hcap2⟩ := open8n (hval 2 22 v2 rfl rfl) k2
  clear hA0 hval0 hsize hw0 hw1
  refine (opsJoin_walk l0 l1 A0 A1 cap0 cap1 bs2 A2 cap2 W hh0 hh1 hh2 hsm0 hsm1 (by unfold maxLen at hcap0; omega) (by unfold maxLen at hcap1; omega)).mono fun e W' ⟨he, bel⟩ => ?_
  subst he
  exact ⟨_, rfl, _, _, _, [], _, [], hW', trodAll_mk1 (shut_bool Try.underlying4 _), (trodAll_cons_mk (Below.trod laidOut (by kernel_rfl) (of_decide_eq_true (by kernel_rfl)) k0 bel lt0) (trodAll_cons_mk (Below.trod laidOut (by kernel_rfl) (of_decide_eq_true (by kernel_rfl)) k1 bel lt1) (trodAll_cons_mk (Below.trod laidOut (by kernel_rfl) (of_decide_eq_true (by kernel_rfl)) k2 bel lt2) trodAll_mk0))), rfl, bel.frame _, fun h => by cases h⟩

theorem join_over : Rows.opsJoinRow.holds Try.pinned (OpenSpec.ofChange Rows.opsJoinSpec) :=
  OpenClaim.holds_of_wide 4 Try.f4 rfl rfl rfl rfl rfl rfl rfl ⟨rfl, rfl, rfl, rfl, rfl⟩ rfl rfl rfl rfl rfl (by kernel_rfl) Try.func4 (by kernel_rfl)
    (of_decide_eq_true (by kernel_rfl)) (by unfold Func.isWrapper; first | (rw [if_pos (by decide +kernel)]; kernel_rfl) | (rw [if_neg (by decide +kernel)]; exact ⟨rfl, rfl⟩))
    (fun os started H enc _ => join_lifted os started H enc)

/-- Any operations' script, or the error, what each pushes, whether two lists are the same, and the operation that pushes any bytes, are the reference's; what is handed in stays: any operations and bytes. No condition. -/
theorem join_proved : Rows.OpsJoinSaid := join_over
#print axioms join_proved
end Go.Proofs.Ytkecldmjjhhlgaa.Oct
