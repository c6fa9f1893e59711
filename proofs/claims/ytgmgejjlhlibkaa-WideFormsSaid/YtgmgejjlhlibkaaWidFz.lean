/- WideForms is true at every input. No condition. -/
import Derived.Test.YtgmgejjlhlibkaaWidF
import Derived.ChangeMaps5
namespace Go.Proofs.Ytgmgejjlhlibkaa
set_option linter.unusedVariables false
set_option linter.unusedSimpArgs false
open Go.ChangeShapes Go.WideShapes Go.ChangeAt Go.RowKit Go.Shelf Oct Go.ChangeMaps

theorem read_both (bs : List UInt8) : ∃ x e, readV bs = .tuple #[.agg (wcells x), .int .i64 e] := by
  unfold readV
  split
  · exact ⟨_, _, rfl⟩
  · exact ⟨_, _, rfl⟩
theorem parse_both (s : ByteArray) : ∃ x e, parseV s = .tuple #[.agg (wcells x), .int .i64 e] := by
  unfold parseV parsed
  split
  · split
    · exact ⟨_, _, rfl⟩
    · exact ⟨_, _, rfl⟩
  · exact ⟨_, _, rfl⟩
theorem read_allF (A : Option Addr) (bs : List UInt8) (c : Nat) (w : World) (hh : Holds8 w.heap.size w A bs) :
    Calls Try.prog 12 #[.slice A bs.length c] w fun e w' => e = .returned (readV bs) ∧ Below w.heap.size w w' := by
  unfold readV
  by_cases h : bs.length = 32
  · rw [if_pos h]
    exact read_any A bs c h w hh
  · rw [if_neg h]
    exact read_short A _ c (by simp; omega) w
set_option maxRecDepth 100000 in
set_option maxHeartbeats 2000000 in
theorem forms_any (a b n : Nat) (ha : a < top) (hb : b < top) (hn : word n) (bs : List UInt8) (cap : Nat) (A : Option Addr) (s : ByteArray) (w : World) (hI : Holds8 w.heap.size w A bs) :
    Calls Try.prog 3 #[.agg (wcells a), .agg (wcells b), .slice A bs.length cap, .string s, .int .u64 (n : Int)] w fun e w' => e = .returned (.bool true) ∧ Below w.heap.size w w' := by
  by_cases h1 : 100 < bs.length
  · have d : (100 : Int) < (bs.length : Int) := by omega
    clear h1
    have hB : Below w.heap.size w ((w.alloc (.cells (wcells a) 24)).alloc (.cells (wcells b) 24)) := ((Below.refl _ _).alloc (Nat.le_refl _) _).alloc (by simp) _
    go_enter Try.func3, Try.ntmps3
    go_wp2
    go_ret
    exact ⟨rfl, hB⟩
  by_cases h2 : 200 < s.size
  · have d1 : decide ((100 : Int) < (bs.length : Int)) = false := by simp; omega
    have d2 : (200 : Int) < (s.size : Int) := by omega
    clear h1 h2
    have hB : Below w.heap.size w ((w.alloc (.cells (wcells a) 24)).alloc (.cells (wcells b) 24)) := ((Below.refl _ _).alloc (Nat.le_refl _) _).alloc (by simp) _
    go_enter Try.func3, Try.ntmps3
    go_wp2
    go_ret
    exact ⟨rfl, hB⟩
  obtain ⟨x, e1, hr⟩ := read_both bs
  obtain ⟨y, e2, hp⟩ := parse_both s
  have R1 := fun A c w h => read_allF A bs c w h
  have R2 := fun A c w h => rRead_all A bs c w h
  have P1 := parse_all s
  have P2 := rParse_all s
  rw [hr] at R1 R2
  rw [hp] at P1 P2
  exact forms_words a b x y n (n : Int) e1 e2 _ _ bs cap A s _ w P1 P2 (of_any n hn) (rOf_any n hn) (digits_any a ha) (rDigits_any a ha) (len_any a ha) (rLen_any a ha) (compare_any a b ha hb) (rCompare_any a b ha hb) R1 R2 (bytes_row a ha) (rBytes_row a ha) hI (by omega) (by omega)

set_option maxRecDepth 100000 in
theorem formsW_lifted (os : Os) (started : os.Started) (H : Type) (enc : TypeId × Value → H) :
    ReturnsInHanded {} Try.checked os 3 .any (Rows.wideFormsSpec.pre6 enc Try.prog Try.f3 Rows.wideFormsRow.domain false) (Rows.wideFormsSpec.post enc Try.prog Try.f3 false true false false) := by
  refine returnsInHanded_of_change (C := Try.checked) Go.Proofs.Ytgmgejjlhlibkaa.own started (by kernel_rfl) Try.func3
    (ChangeSpec.witness6 (enc := enc) (C := Try.checked) false ⟨#[], #[.agg #[.int .u64 0, .int .u64 0, .int .u64 0, .int .u64 0], .agg #[.int .u64 0, .int .u64 0, .int .u64 0, .int .u64 0], .slice none 0 0, .string ⟨#[]⟩, .int .u64 0], []⟩ 8 (by kernel_rfl) (by kernel_rfl) (by kernel_rfl) (by kernel_rfl)) ?_
  intro W base args ds gs before hval0 hW hcnd _
  have hval : ∀ (j : Nat) t v, Try.f3.params[j]? = some t → args[j]? = some v → Value.okWide Try.prog W .any base t v := hval0
  have hW' := hW
  obtain ⟨p, q, hA0, hV, rfl, hfz, hnd⟩ := hW
  have hA : DataW.TrodAll enc Try.prog W 0 (fun _ => true) true Try.f3.params.toList args.toList ds p := hA0
  rw [Try.params3] at hA hval
  obtain ⟨v0, vs0, d0, ds0, p0, q0, hargs, rfl, rfl, h0, r0⟩ := trodAll_cons hA
  obtain ⟨v1, vs1, d1, ds1, p1, q1, rfl, rfl, rfl, h1, r1⟩ := trodAll_cons r0
  obtain ⟨v2, vs2, d2, ds2, p2, q2, rfl, rfl, rfl, h2, r2⟩ := trodAll_cons r1
  obtain ⟨v3, vs3, d3, ds3, p3, q3, rfl, rfl, rfl, h3, r3⟩ := trodAll_cons r2
  obtain ⟨v4, vs4, d4, ds4, p4, q4, rfl, rfl, rfl, h4, r4⟩ := trodAll_cons r3
  obtain ⟨rfl, rfl, rfl⟩ := trodAll_nil r4
  obtain rfl : args = #[v0, v1, v2, v3, v4] := by cases args; simp_all
  obtain ⟨rfl, rfl⟩ := trodVars_none hV
  have k0 := h0
  have lt0 : ∀ x ∈ p0, x.block < W.heap.size := by obtain ⟨m, hm⟩ := k0; exact DataW.trod_lt m _ _ _ hm
  have k1 := h1
  have lt1 : ∀ x ∈ p1, x.block < W.heap.size := by obtain ⟨m, hm⟩ := k1; exact DataW.trod_lt m _ _ _ hm
  have k2 := h2
  have lt2 : ∀ x ∈ p2, x.block < W.heap.size := by obtain ⟨m, hm⟩ := k2; exact DataW.trod_lt m _ _ _ hm
  have k3 := h3
  have lt3 : ∀ x ∈ p3, x.block < W.heap.size := by obtain ⟨m, hm⟩ := k3; exact DataW.trod_lt m _ _ _ hm
  have k4 := h4
  have lt4 : ∀ x ∈ p4, x.block < W.heap.size := by obtain ⟨m, hm⟩ := k4; exact DataW.trod_lt m _ _ _ hm
  obtain ⟨cs0, rfl⟩ := okWide_array Try.underlying24 (hval 0 24 v0 rfl rfl)
  obtain ⟨z0, hz0, rfl⟩ := isWide_of k0
  obtain ⟨cs1, rfl⟩ := okWide_array Try.underlying24 (hval 1 24 v1 rfl rfl)
  obtain ⟨z1, hz1, rfl⟩ := isWide_of k1
  obtain ⟨A2, bs2, cap2, rfl, hh2, hlen2, hcap2⟩ := open8 (hval 2 25 v2 rfl rfl) k2
  obtain ⟨s3, rfl, rfl, rfl, ws3⟩ := open_string Try.underlying9 (hval 3 9 v3 rfl rfl) h3
  obtain ⟨z4, rfl, rfl, rfl, wz4⟩ := open_int Try.underlying22 (hval 4 22 v4 rfl rfl) h4
  have hz4 := bounds_u64 wz4
  clear hA0 hval0
  obtain ⟨k, rfl⟩ : ∃ k : Nat, z4 = (k : Int) := ⟨z4.toNat, by omega⟩
  refine (forms_any z0 z1 k hz0 hz1 (by unfold word; omega) bs2 cap2 A2 s3 W hh2).mono fun e W' ⟨he, bel⟩ => ?_
  subst he
  exact ⟨_, rfl, _, _, _, [], _, [], hW', trodAll_mk1 (shut_bool Try.underlying4 _), (trodAll_cons_mk (Below.trod Go.Proofs.Ytgmgejjlhlibkaa.laidOut (by kernel_rfl) (of_decide_eq_true (by kernel_rfl)) k0 bel lt0) (trodAll_cons_mk (Below.trod Go.Proofs.Ytgmgejjlhlibkaa.laidOut (by kernel_rfl) (of_decide_eq_true (by kernel_rfl)) k1 bel lt1) (trodAll_cons_mk (Below.trod Go.Proofs.Ytgmgejjlhlibkaa.laidOut (by kernel_rfl) (of_decide_eq_true (by kernel_rfl)) k2 bel lt2) (trodAll_cons_mk (Below.trod Go.Proofs.Ytgmgejjlhlibkaa.laidOut (by kernel_rfl) (of_decide_eq_true (by kernel_rfl)) k3 bel lt3) (trodAll_cons_mk (Below.trod Go.Proofs.Ytgmgejjlhlibkaa.laidOut (by kernel_rfl) (of_decide_eq_true (by kernel_rfl)) k4 bel lt4) trodAll_mk0))))), rfl, bel.frame _, fun h => by cases h⟩

theorem formsW_over : Rows.wideFormsRow.holds Try.pinned (OpenSpec.ofChange Rows.wideFormsSpec) :=
  OpenClaim.holds_of_wide 3 Try.f3 rfl rfl rfl rfl rfl rfl rfl ⟨rfl, rfl, rfl, rfl, rfl⟩ rfl rfl rfl rfl rfl (by kernel_rfl) Try.func3 (by kernel_rfl)
    (of_decide_eq_true (by kernel_rfl)) (by unfold Func.isWrapper; first | (rw [if_pos (by decide +kernel)]; kernel_rfl) | (rw [if_neg (by decide +kernel)]; exact ⟨rfl, rfl⟩))
    (fun os started H enc _ => formsW_lifted os started H enc)

/-- WideForms is true at every input. -/
theorem formsW_proved : Rows.WideFormsSaid := formsW_over
#print axioms formsW_proved
end Go.Proofs.Ytgmgejjlhlibkaa
