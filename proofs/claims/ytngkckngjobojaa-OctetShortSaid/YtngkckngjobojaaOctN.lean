/- OctetShort is true at every input. No condition. -/
import Derived.Test.YtngkckngjobojaaOctM1
import Derived.Test.YtngkckngjobojaaOctM2
import Derived.Test.YtngkckngjobojaaOctM3
import Derived.Test.YtngkckngjobojaaOctOpen
namespace Go.Proofs.Ytngkckngjobojaa.Oct
open Go.Proofs.Ytngkckngjobojaa Go.ChangeShapes Go.WideShapes Go.ChangeAt Go.RowKit

theorem szOf_num {bs : List UInt8} (h : (szOf bs).2.2 = true) : cmpL (szOf bs).1 = (szOf bs).2.1 := by
  have h1 := congrArg List.length (size_back h)
  rw [sizeB_length, List.length_take] at h1
  have := (szOf_le h).1
  omega
set_option maxRecDepth 100000 in
theorem short_walk (bs : List UInt8) (A : Option Addr) (c : Nat) (most : Int) (hm : most ≤ 9223372036854775807) (w : World) (hh : Holds8 w.heap.size w A bs) (hA : A = none → c = 0) (hc : bs.length ≤ c) :
    Calls Try.prog 7 #[.slice A bs.length c, .int .i64 most] w fun e w' => e = .returned (.bool true) ∧ Below w.heap.size w w' := by
  by_cases hbig : 20000 < bs.length
  · have d1 : (20000 : Int) < (bs.length : Int) := by omega
    clear hbig hh
    go_enter Try.func7, Try.ntmps7
    go_wp2_with (go_at_call 31; refine (alive_any _).mono ?_; rintro e w1 ⟨rfl, hb1⟩)
    go_ret
    exact ⟨rfl, hb1⟩
  · have hl : bs.length ≤ 20000 := by omega
    have hN := szOf_lt bs
    cases hok : (szOf bs).2.2 with
    | false =>
      refine short_no bs A c most hm w hh hA hc hl (0 : Nat) [] bs bs [] [] (by decide) ?_ ?_ (by simp) (Nat.le_refl _) (Nat.le_refl _) rfl rfl ?_ ?_ (by simp) (by simp)
      · unfold eyeSizeR; rw [hok]; rfl
      · unfold bytesR; rw [if_neg (by rw [hok]; simp)]
      · simp
      · simp
    | true =>
      have hle := szOf_le hok
      have hback := size_back hok
      have hnum := szOf_num hok
      have hc9 : cmpL (szOf bs).1 ≤ 9 := by unfold cmpL; (repeat' split) <;> omega
      have hsl := sizeB_length (szOf bs).1
      have e1 : eyeSizeR bs = ((szOf bs).1, 0, bs.drop (szOf bs).2.1) := by unfold eyeSizeR; rw [hok, if_pos rfl]
      have t1 : sizeB (szOf bs).1 = bs.take (bs.length - (bs.drop (szOf bs).2.1).length) := by rw [hback, List.length_drop]; congr 1; omega
      by_cases hgood : 0 ≤ most ∧ ((szOf bs).1 : Int) ≤ most ∧ (szOf bs).1 ≤ bs.length - (szOf bs).2.1
      · have e2 : bytesR bs most = ((bs.drop (szOf bs).2.1).take (szOf bs).1, 0, (bs.drop (szOf bs).2.1).drop (szOf bs).1) := by unfold bytesR; rw [if_pos ⟨hok, hgood⟩]
        have hxl : ((bs.drop (szOf bs).2.1).take (szOf bs).1).length = (szOf bs).1 := by rw [List.length_take, List.length_drop]; omega
        refine short_ok bs A c most hm w hh hA hc hl (szOf bs).1 _ _ _ (sizeB (szOf bs).1) (sizeB ((bs.drop (szOf bs).2.1).take (szOf bs).1).length ++ (bs.drop (szOf bs).2.1).take (szOf bs).1) hN e1 e2 (by rw [hxl]; omega) (by rw [List.length_drop]; omega) (by simp only [List.length_drop]; omega) rfl rfl t1 ?_ (by rw [hsl]; omega) (by rw [hxl, List.length_append, hsl, hxl]; omega) hsl hxl.symm (by rw [hxl]; omega)
        rw [hxl, hback]
        simp only [List.length_drop]
        rw [show bs.length - (bs.length - (szOf bs).2.1 - (szOf bs).1) = (szOf bs).2.1 + (szOf bs).1 by omega, List.take_add]
      · have e2 : bytesR bs most = ([], 10, bs) := by unfold bytesR; rw [if_neg (fun hq => hgood hq.2)]
        exact short_half bs A c most hm w hh hA hc hl (szOf bs).1 _ _ _ (sizeB (szOf bs).1) [] hN e1 e2 (by simp) (by rw [List.length_drop]; omega) (Nat.le_refl _) rfl rfl t1 (by simp) (by rw [hsl]; omega) (by simp) hsl

set_option maxRecDepth 100000 in
theorem short_lifted (os : Os) (started : os.Started) (H : Type) (enc : TypeId × Value → H) :
    ReturnsInHanded {} Try.checked os 7 .any (Rows.octetShortSpec.pre6 enc Try.prog Try.f7 Rows.octetShortRow.domain false) (Rows.octetShortSpec.post enc Try.prog Try.f7 false true false false) := by
  refine returnsInHanded_of_change (C := Try.checked) own started (by kernel_rfl) Try.func7
    (ChangeSpec.witness6 (enc := enc) (C := Try.checked) false ⟨#[], #[.slice none 0 0, .int .i64 0], []⟩ 8 (by kernel_rfl) (by kernel_rfl) (by kernel_rfl) (by kernel_rfl)) ?_
  intro W base args ds gs before hval0 hW hcnd _
  have hval : ∀ (j : Nat) t v, Try.f7.params[j]? = some t → args[j]? = some v → Value.okWide Try.prog W .any base t v := hval0
  have hW' := hW
  obtain ⟨p, q, hA0, hV, rfl, hfz, hnd⟩ := hW
  have hA : DataW.TrodAll enc Try.prog W 0 (fun _ => true) true Try.f7.params.toList args.toList ds p := hA0
  rw [Try.params7] at hA hval
  obtain ⟨v0, vs0, d0, ds0, p0, q0, hargs, rfl, rfl, h0, r0⟩ := trodAll_cons hA
  obtain ⟨v1, vs1, d1, ds1, p1, q1, rfl, rfl, rfl, h1, r1⟩ := trodAll_cons r0
  obtain ⟨rfl, rfl, rfl⟩ := trodAll_nil r1
  obtain rfl : args = #[v0, v1] := by cases args; simp_all
  obtain ⟨rfl, rfl⟩ := trodVars_none hV
  have k0 := h0
  have lt0 : ∀ x ∈ p0, x.block < W.heap.size := by obtain ⟨m, hm⟩ := k0; exact DataW.trod_lt m _ _ _ hm
  have k1 := h1
  have lt1 : ∀ x ∈ p1, x.block < W.heap.size := by obtain ⟨m, hm⟩ := k1; exact DataW.trod_lt m _ _ _ hm
  obtain ⟨A0, bs0, cap0, rfl, hh0, hlen0, hcap0⟩ := open8n (hval 0 25 v0 rfl rfl) k0
  obtain ⟨z1, rfl, rfl, rfl, wz1⟩ := open_int Try.underlying3 (hval 1 3 v1 rfl rfl) h1
  have hz1 := bounds_i64 wz1
  clear hA0 hval0
  refine (short_walk bs0 A0 cap0 z1 (by omega) W hh0 hcap0.2 hlen0).mono fun e W' ⟨he, bel⟩ => ?_
  subst he
  exact ⟨_, rfl, _, _, _, [], _, [], hW', trodAll_mk1 (shut_bool Try.underlying4 _), (trodAll_cons_mk (Below.trod laidOut (by kernel_rfl) (of_decide_eq_true (by kernel_rfl)) k0 bel lt0) (trodAll_cons_mk (Below.trod laidOut (by kernel_rfl) (of_decide_eq_true (by kernel_rfl)) k1 bel lt1) trodAll_mk0)), rfl, bel.frame _, fun h => by cases h⟩

theorem short_over : Rows.octetShortRow.holds Try.pinned (OpenSpec.ofChange Rows.octetShortSpec) :=
  OpenClaim.holds_of_wide 7 Try.f7 rfl rfl rfl rfl rfl rfl rfl ⟨rfl, rfl, rfl, rfl, rfl⟩ rfl rfl rfl rfl rfl (by kernel_rfl) Try.func7 (by kernel_rfl)
    (of_decide_eq_true (by kernel_rfl)) (by unfold Func.isWrapper; first | (rw [if_pos (by decide +kernel)]; kernel_rfl) | (rw [if_neg (by decide +kernel)]; exact ⟨rfl, rfl⟩))
    (fun os started H enc _ => short_lifted os started H enc)

/-- What is read of any bytes as a size, or a byte string, is what a pen writes for it: whatever bytes and length come in. No condition. -/
theorem short_proved : Rows.OctetShortSaid := short_over
#print axioms short_proved
end Go.Proofs.Ytngkckngjobojaa.Oct
