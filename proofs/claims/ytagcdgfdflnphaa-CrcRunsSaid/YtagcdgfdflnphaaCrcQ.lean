/- CrcRuns is true at every input. No condition. -/
import Derived.Test.YtagcdgfdflnphaaCrcP
import Derived.Test.YtagcdgfdflnphaaCrcH
import Derived.Test.YtagcdgfdflnphaaOctOpenI
namespace Go.Proofs.Ytagcdgfdflnphaa.Oct
open Go.Proofs.Ytagcdgfdflnphaa Go.ChangeShapes Go.WideShapes Go.ChangeAt Go.RowKit Go.Shelf

theorem xor_mul_pow (a b k : Nat) : (a ^^^ b) * 2 ^ k = a * 2 ^ k ^^^ b * 2 ^ k := by
  apply Nat.eq_of_testBit_eq
  intro i
  simp only [Nat.testBit_xor, Nat.testBit_mul_two_pow]
  by_cases h : k ≤ i <;> simp [h]
theorem leNum_flip (ys : List UInt8) (j o : Nat) (ho : o < 8) (hj : j < ys.length) : leNum (ys.set j (ys[j] ^^^ UInt8.ofNat (2 ^ o))) = leNum ys ^^^ 2 ^ (8 * j + o) := by
  have h256 : 2 ^ o < 256 := by
    have : 2 ^ o ≤ 2 ^ 7 := Nat.pow_le_pow_right (by decide) (by omega)
    simp only [Nat.reducePow] at this
    omega
  induction ys generalizing j with
  | nil => simp at hj
  | cons x l ih =>
    have hx := UInt8.toNat_lt x
    have ex : leNum (x :: l) = x.toNat ^^^ (leNum l * 2 ^ 8) := by
      rw [← add_xor _ _ 8 (by simpa using hx)]
      simp only [leNum, Nat.reducePow]
      omega
    cases j with
    | zero =>
      simp only [List.set_cons_zero, List.getElem_cons_zero, Nat.mul_zero, Nat.zero_add]
      have hy := UInt8.toNat_lt (x ^^^ UInt8.ofNat (2 ^ o))
      have e2 : leNum ((x ^^^ UInt8.ofNat (2 ^ o)) :: l) = (x ^^^ UInt8.ofNat (2 ^ o)).toNat ^^^ (leNum l * 2 ^ 8) := by
        rw [← add_xor _ _ 8 (by simpa using hy)]
        simp only [leNum, Nat.reducePow]
        omega
      rw [e2, ex, UInt8.toNat_xor, UInt8.toNat_ofNat', Nat.mod_eq_of_lt (by simpa using h256), Nat.xor_assoc, Nat.xor_comm (2 ^ o), ← Nat.xor_assoc]
    | succ j =>
      have hj2 : j < l.length := by simpa using hj
      simp only [List.set_cons_succ, List.getElem_cons_succ]
      have e2 : leNum (x :: l.set j (l[j] ^^^ UInt8.ofNat (2 ^ o))) = x.toNat ^^^ (leNum (l.set j (l[j] ^^^ UInt8.ofNat (2 ^ o))) * 2 ^ 8) := by
        rw [← add_xor _ _ 8 (by simpa using hx)]
        simp only [leNum, Nat.reducePow]
        omega
      rw [e2, ih j hj2, ex, xor_mul_pow, ← Nat.xor_assoc, show 8 * (j + 1) + o = 8 * j + o + 8 by omega, Nat.pow_add 2 (8 * j + o) 8]
theorem bits_next (t q f : Nat) (N : Nat) : N ^^^ ((t % 2 ^ (q + 1)) * 2 ^ f) = if t / 2 ^ q % 2 = 1 then N ^^^ ((t % 2 ^ q) * 2 ^ f) ^^^ 2 ^ (f + q) else N ^^^ ((t % 2 ^ q) * 2 ^ f) := by
  have hm : t % 2 ^ (q + 1) = t % 2 ^ q + 2 ^ q * (t / 2 ^ q % 2) := by rw [Nat.pow_succ, Nat.mod_mul]
  split
  · rename_i h
    rw [hm, h, Nat.mul_one, show 2 ^ q = 1 * 2 ^ q by omega, add_xor _ 1 q (by rw [Nat.one_mul]; exact Nat.mod_lt _ (Nat.pow_pos (by decide))), Nat.one_mul, xor_mul_pow, ← Nat.xor_assoc, Nat.pow_add, Nat.mul_comm (2 ^ q) (2 ^ f)]
  · rename_i h
    rw [hm, show t / 2 ^ q % 2 = 0 by omega, Nat.mul_zero, Nat.add_zero]

theorem vals_set (ys : List UInt8) (k : Nat) (x : UInt8) : vals (ys.set k x) = (vals ys).set k (.int .u8 (x.toNat : Int)) := by unfold vals; rw [List.map_set]
/-- One byte of a row of the call's own is stored. -/
theorem own_store {W : World} {base g n cap : Nat} {ys : List UInt8} (h : W.ownsRow base 5 1 (.slice (some ⟨g, 0, none⟩) n cap) n (vals ys)) (k : Nat) (x : UInt8) : (W.setCell ⟨g, k, none⟩ (.int .u8 (x.toNat : Int))).ownsRow base 5 1 (.slice (some ⟨g, 0, none⟩) n cap) n (vals (ys.set k x)) := by
  rw [vals_set]
  exact (h.stored k _).1
set_option maxRecDepth 100000 in
set_option maxHeartbeats 2000000 in
theorem runs_walk (bs : List UInt8) (A : Option Addr) (c x t : Nat) (hx : x < 65536) (ht : t < 4294967296) (w : World) (h : Holds8 w.heap.size w A bs) (hl : bs.length ≤ 3000) :
    Calls Try.prog 6 #[.slice A bs.length c, .int .u16 (x : Int), .int .u32 (t : Int)] w fun e w' => e = .returned (.bool true) ∧ Below w.heap.size w w' := by
  have d1 : decide ((3000 : Int) < (bs.length : Int)) = false := by simp; omega
  have H := Lib.hid h
  obtain ⟨M, hM⟩ : ∃ M, bs ++ leB 4 (onS 0 bs) = M := ⟨_, rfl⟩
  have hml : M.length = bs.length + 4 := by rw [← hM, List.length_append, leB_length]
  have hbm := bare_mark bs
  rw [hM] at hbm
  have hmk := fun (W : World) hW => mark_any bs (by omega) A c W hW
  rw [hM] at hmk
  have hb1 := fun (W : World) AA cc hA hW => bare_any M (by omega) AA cc hA W hW
  rw [hbm] at hb1
  obtain ⟨f, hf⟩ : ∃ f, x % (8 * M.length - 31) = f := ⟨_, rfl⟩
  have hfl : f ≤ 8 * bs.length := by have := Nat.mod_lt x (show 0 < 8 * M.length - 31 by omega); omega
  have e1 : (x : Int) % (8 * (M.length : Int) - 31) = (f : Int) := by
    rw [show 8 * (M.length : Int) - 31 = ((8 * M.length - 31 : Nat) : Int) by omega, ← hf]
    exact (Int.natCast_emod x _).symm
  have z1 : (8 * (M.length : Int) - 31 == 0) = false := by simp; omega
  have ht2 := fun (ys : List UInt8) hyl hy => bare_turned bs ys t f ht hfl hyl hy
  rw [hM] at ht2
  have hlen : (M.length : Int) = (bs.length : Int) + 4 := by omega
  have HML := Lib.hid hml
  have HMK := Lib.hid hmk
  have HB1 := Lib.hid hb1
  have HT := Lib.hid ht2
  have hm3 : M.length ≤ 3004 := by omega
  have hm4 : 4 ≤ M.length := by omega
  have hfM : f + 32 ≤ 8 * M.length := by omega
  have ne1 : ((M.length : Int) != (bs.length : Int) + 4) = false := by simp; omega
  clear hM hbm hmk hb1 hf ht2 h hml hlen
  go_enter Try.func6, Try.ntmps6
  go_wp2_with (first
    | (go_at_call 18; refine (alive_any _).mono ?_; rintro e w1 ⟨rfl, hb1⟩; have n1 := hb1.size)
    | (go_at_call 13; refine (HMK.out _ (H.out.later hb1)).mono ?_; rintro e w2 ⟨v, rfl, hr2, hb2⟩; obtain ⟨X, cx, rfl, hx2, _, hX, hax⟩ := own_open hr2; have n2 := hb2.size)
    | (go_at_call 14; (with_reducible refine (HB1.out _ _ _ hX hx2).mono ?_); rintro e w3 ⟨v, rfl, hr3, hb3⟩; obtain ⟨Y, cy, rfl, hy3, _, _, _⟩ := own_open hr3; have n3 := hb3.size; have hsy := str_of hy3 cy; have hsb := str_of ((((H.out.later hb1).later hb2).later hb3)) c))
  rw [e1]
  have hlo : leNum M = leNum M ^^^ (t % 2 ^ 0 * 2 ^ f) := by rw [Nat.pow_zero, Nat.mod_one, Nat.zero_mul, Nat.xor_zero]
  have hr3' := Lib.hid (ownsRow_below hr2 hb3)
  have HB3 := Lib.hid ((hb1.trans (hb2.mono n1)).trans (hb3.mono (Nat.le_trans n1 n2)))
  clear hb1 hb2 hb3 hr2 hx2 hy3 hr3 hsy hsb e1 z1 ne1
  go_loopw [12] (fun i wr => ∃ (q : Nat) (ys : List UInt8), q ≤ 32 ∧ i = .int .i64 (q : Int) ∧ ys.length = M.length ∧ wr.ownsRow w1.heap.size 5 1 (.slice X M.length cx) M.length (vals ys) ∧ leNum ys = leNum M ^^^ (t % 2 ^ q * 2 ^ f) ∧ Below w1.heap.size w3 wr) (fun i _ => 32 - (intOf i).toNat)
  case atStart => exact ⟨0, M, by decide, rfl, rfl, hr3'.out, hlo, Below.refl _ _⟩
  case round =>
    obtain ⟨q, ys, hq, rfl, hyl, hrow, hnum, hB⟩ := hrel
    by_cases hlt : q < 32
    · obtain ⟨g, cg, hXe, hgb, hgl, hgc, hgcell, hgf⟩ := own_form hyl (by omega) hrow
      rw [hyl] at hXe
      obtain ⟨j, hj⟩ : ∃ j, (f + q) / 8 = j := ⟨_, rfl⟩
      obtain ⟨o, ho⟩ : ∃ o, (f + q) % 8 = o := ⟨_, rfl⟩
      have ho8 : o < 8 := by omega
      have hjl : j < M.length := by omega
      have ej : ((f : Int) + (q : Int)) / 8 = (j : Int) := by omega
      have eo : ((f : Int) + (q : Int)) % 8 = (o : Int) := by omega
      have hcq := hgcell j (by omega)
      rw [Nat.zero_add] at hcq
      have hfq := hgf j
      have hflip := leNum_flip ys j o ho8 (by omega)
      obtain ⟨y, hy⟩ : ∃ y, ys[j]'(by omega) = y := ⟨_, rfl⟩
      rw [hy] at hcq hflip
      have hub := UInt8.toNat_lt y
      obtain ⟨y2, hy2⟩ : ∃ y2 : UInt8, y ^^^ UInt8.ofNat (2 ^ o) = y2 := ⟨_, rfl⟩
      rw [hy2, show 8 * j + o = f + q by omega, hnum] at hflip
      have hnext := bits_next t q f (leNum M)
      have hXd := Lib.hid hXe
      rw [hXe] at hrow ⊢
      have HS := Lib.hid (own_store hrow j y2)
      have HL := Lib.hid (show (ys.set j y2).length = M.length by rw [List.length_set]; exact hyl)
      have HBS := Lib.hid (hB.setCell (p := ⟨g, j, none⟩) hgb (.int .u8 (y2.toNat : Int)))
      obtain ⟨b, hbit⟩ : ∃ b, t / 2 ^ q % 2 = b := ⟨_, rfl⟩
      rw [hbit] at hnext
      have hFL := Lib.hid hflip
      have hNX := Lib.hid hnext
      have HROW := Lib.hid hrow
      have HYL := Lib.hid hyl
      have HNUM := Lib.hid hnum
      clear hgcell hgf hy hrow hyl hXe hflip hnext hnum hj ho
      have ex2 : bits .xor .u8 (y.toNat : Int) (2 ^ o % 256) = (y2.toNat : Int) := by
        have h256 : 2 ^ o < 256 := by
          have : 2 ^ o ≤ 2 ^ 7 := Nat.pow_le_pow_right (by decide) (by omega)
          simp only [Nat.reducePow] at this
          omega
        have e : ((2 : Int) ^ o % 256) = ((2 ^ o : Nat) : Int) := by
          rw [show ((2 : Int) ^ o) = ((2 ^ o : Nat) : Int) by simp]
          generalize 2 ^ o = p at h256 ⊢
          omega
        rw [e, u8_xor_nat y.toNat (2 ^ o) hub h256, ← hy2, UInt8.toNat_xor, UInt8.toNat_ofNat', Nat.mod_eq_of_lt (by simpa using h256)]
      have ea : bits .and .u32 ((t : Int) / 2 ^ q) 1 = (b : Int) := by
        have h1 : (t : Int) / 2 ^ q = ((t / 2 ^ q : Nat) : Int) := by simp
        have h2 := u32_and_nat (t / 2 ^ q) 1 (Nat.lt_of_le_of_lt (Nat.div_le_self _ _) ht) (by decide)
        rw [h1]
        refine h2.trans ?_
        rw [Nat.and_one_is_mod, hbit]
      clear hy2 hbit
      by_cases hb1 : b = 1
      · have eb : (bits .and .u32 ((t : Int) / 2 ^ q) 1 == 1) = true := by rw [ea, hb1]; rfl
        have HN2 := Lib.hid (show leNum (ys.set j y2) = leNum M ^^^ (t % 2 ^ (q + 1) * 2 ^ f) by rw [hFL.out, hNX.out, if_pos hb1])
        clear hb1 ea
        go_wp2
        refine ⟨⟨q + 1, ys.set j y2, by omega, by go_num, HL.out, HS.out, HN2.out, HBS.out⟩, ?_⟩
        simp [intOf]
        omega
      · have eb : (bits .and .u32 ((t : Int) / 2 ^ q) 1 == 1) = false := by
          rw [ea]
          simp only [beq_eq_false_iff_ne]
          omega
        have HN2 := Lib.hid (show leNum ys = leNum M ^^^ (t % 2 ^ (q + 1) * 2 ^ f) by rw [HNUM.out, hNX.out, if_neg hb1])
        clear hb1 ea
        go_wp2
        refine ⟨⟨q + 1, ys, by omega, by go_num, HYL.out, HROW.out, HN2.out, hB⟩, ?_⟩
        simp [intOf]
        omega
    · have hq32 : q = 32 := by omega
      have hn2 : leNum ys = leNum M ^^^ (t * 2 ^ f) := by
        rw [hnum, hq32, Nat.mod_eq_of_lt (show t < 2 ^ 32 by simpa using ht)]
      have hiff := HT.out ys (by rw [hyl, HML.out]) hn2
      obtain ⟨D, E, hD⟩ : ∃ D E, bareR ys = (D, E) := ⟨_, _, rfl⟩
      rw [hD] at hiff
      simp only at hiff
      have hbr := fun (W : World) AA cc hA hW => bare_any ys (by omega) AA cc hA W hW
      rw [hD, hyl] at hbr
      have HBR := Lib.hid hbr
      have hh := own_holds hyl hrow
      rw [hyl] at hh
      have HHY : Hid (Holds8 wr.heap.size wr X ys) := Lib.hid (by
        obtain ⟨A', c', e, hx, _⟩ := hh
        injection e with e1 _ _
        rw [e1]
        exact hx)
      obtain ⟨B, hBe⟩ : ∃ B, ((E : Int) == 0) = B := ⟨_, rfl⟩
      have hBt : ((t : Int) == 0) = B := by
        rw [← hBe]
        by_cases ht0 : t = 0
        · rw [hiff.2 ht0, ht0]; rfl
        · have hE : E ≠ 0 := fun h => ht0 (hiff.1 h)
          rw [show ((E : Int) == 0) = false by simpa using hE]
          simp only [beq_eq_false_iff_ne]
          omega
      have hlt2 : decide ((q : Int) < 32) = false := by simp; omega
      have HBW := Lib.hid (HB3.out.trans (hB.mono n1))
      clear hq32 hn2 hiff hD hbr hh hyl hnum hrow hlt hB
      cases B with
      | true =>
        go_wp2_with (go_at_call 14; (with_reducible refine (HBR.out _ _ _ hX HHY.out).mono ?_); rintro e w4 ⟨v, rfl, hr4, hb4⟩)
        go_ret
        exact ⟨rfl, HBW.out.trans (hb4.mono HBW.out.size)⟩
      | false =>
        go_wp2_with (go_at_call 14; (with_reducible refine (HBR.out _ _ _ hX HHY.out).mono ?_); rintro e w4 ⟨v, rfl, hr4, hb4⟩)
        go_ret
        exact ⟨rfl, HBW.out.trans (hb4.mono HBW.out.size)⟩

theorem runs_all (bs : List UInt8) (A : Option Addr) (c x t : Nat) (hx : x < 65536) (ht : t < 4294967296) (w : World) (h : Holds8 w.heap.size w A bs) :
    Calls Try.prog 6 #[.slice A bs.length c, .int .u16 (x : Int), .int .u32 (t : Int)] w fun e w' => e = .returned (.bool true) ∧ Below w.heap.size w w' := by
  by_cases hl : bs.length ≤ 3000
  · exact runs_walk bs A c x t hx ht w h hl
  · have d1 : (3000 : Int) < (bs.length : Int) := by omega
    clear hl h
    go_enter Try.func6, Try.ntmps6
    go_wp2_with (go_at_call 18; refine (alive_any _).mono ?_; rintro e w1 ⟨rfl, hb1⟩)
    go_ret
    exact ⟨rfl, hb1⟩

set_option maxRecDepth 100000 in
theorem runs_lifted (os : Os) (started : os.Started) (H : Type) (enc : TypeId × Value → H) :
    ReturnsInHanded {} Try.checked os 6 .any (Rows.crcRunsSpec.pre6 enc Try.prog Try.f6 Rows.crcRunsRow.domain false) (Rows.crcRunsSpec.post enc Try.prog Try.f6 false true false false) := by
  refine returnsInHanded_of_change (C := Try.checked) own started (by kernel_rfl) Try.func6
    (ChangeSpec.witness6 (enc := enc) (C := Try.checked) false ⟨#[], #[.slice none 0 0, .int .u16 0, .int .u32 0], []⟩ 8 (by kernel_rfl) (by kernel_rfl) (by kernel_rfl) (by kernel_rfl)) ?_
  intro W base args ds gs before hval0 hW hcnd _
  have hval : ∀ (j : Nat) t v, Try.f6.params[j]? = some t → args[j]? = some v → Value.okWide Try.prog W .any base t v := hval0
  have hW' := hW
  obtain ⟨p, q, hA0, hV, rfl, hfz, hnd⟩ := hW
  have hA : DataW.TrodAll enc Try.prog W 0 (fun _ => true) true Try.f6.params.toList args.toList ds p := hA0
  rw [Try.params6] at hA hval
  obtain ⟨v0, vs0, d0, ds0, p0, q0, hargs, rfl, rfl, h0, r0⟩ := trodAll_cons hA
  obtain ⟨v1, vs1, d1, ds1, p1, q1, rfl, rfl, rfl, h1, r1⟩ := trodAll_cons r0
  obtain ⟨v2, vs2, d2, ds2, p2, q2, rfl, rfl, rfl, h2, r2⟩ := trodAll_cons r1
  obtain ⟨rfl, rfl, rfl⟩ := trodAll_nil r2
  obtain rfl : args = #[v0, v1, v2] := by cases args; simp_all
  obtain ⟨rfl, rfl⟩ := trodVars_none hV
  have k0 := h0
  have lt0 : ∀ x ∈ p0, x.block < W.heap.size := by obtain ⟨m, hm⟩ := k0; exact DataW.trod_lt m _ _ _ hm
  have k1 := h1
  have lt1 : ∀ x ∈ p1, x.block < W.heap.size := by obtain ⟨m, hm⟩ := k1; exact DataW.trod_lt m _ _ _ hm
  have k2 := h2
  have lt2 : ∀ x ∈ p2, x.block < W.heap.size := by obtain ⟨m, hm⟩ := k2; exact DataW.trod_lt m _ _ _ hm
  obtain ⟨A0, bs0, cap0, rfl, hh0, hlen0, hcap0⟩ := open8n (hval 0 22 v0 rfl rfl) k0
  obtain ⟨z1, rfl, rfl, rfl, wz1⟩ := open_int Try.underlying37 (hval 1 37 v1 rfl rfl) h1
  have hz1 := bounds_u16 wz1
  obtain ⟨z2, rfl, rfl, rfl, wz2⟩ := open_int Try.underlying23 (hval 2 23 v2 rfl rfl) h2
  have hz2 := bounds_u32 wz2
  obtain ⟨x1, rfl⟩ : ∃ x : Nat, z1 = (x : Int) := ⟨z1.toNat, by omega⟩
  obtain ⟨x2, rfl⟩ : ∃ x : Nat, z2 = (x : Int) := ⟨z2.toNat, by omega⟩
  clear hA0 hval0
  refine (runs_all bs0 A0 cap0 x1 x2 (by omega) (by omega) W hh0).mono fun e W' ⟨he, bel⟩ => ?_
  subst he
  exact ⟨_, rfl, _, _, _, [], _, [], hW', trodAll_mk1 (shut_bool Try.underlying4 _), (trodAll_cons_mk (Below.trod laidOut (by kernel_rfl) (of_decide_eq_true (by kernel_rfl)) k0 bel lt0) (trodAll_cons_mk (Below.trod laidOut (by kernel_rfl) (of_decide_eq_true (by kernel_rfl)) k1 bel lt1) (trodAll_cons_mk (Below.trod laidOut (by kernel_rfl) (of_decide_eq_true (by kernel_rfl)) k2 bel lt2) trodAll_mk0))), rfl, bel.frame _, fun h => by cases h⟩

theorem runs_over : Rows.crcRunsRow.holds Try.pinned (OpenSpec.ofChange Rows.crcRunsSpec) :=
  OpenClaim.holds_of_wide 6 Try.f6 rfl rfl rfl rfl rfl rfl rfl ⟨rfl, rfl, rfl, rfl, rfl⟩ rfl rfl rfl rfl rfl (by kernel_rfl) Try.func6 (by kernel_rfl)
    (of_decide_eq_true (by kernel_rfl)) (by unfold Func.isWrapper; first | (rw [if_pos (by decide +kernel)]; kernel_rfl) | (rw [if_neg (by decide +kernel)]; exact ⟨rfl, rfl⟩))
    (fun os started H enc _ => runs_lifted os started H enc)

/-- Marked bytes are bare again, and with bits turned within 32 that follow one another they are not marked: whatever bytes, place and bits come in. No condition. -/
theorem runs_proved : Rows.CrcRunsSaid := runs_over
#print axioms runs_proved
end Go.Proofs.Ytagcdgfdflnphaa.Oct
