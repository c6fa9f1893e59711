/- NumBack is true at every input. No condition. -/
import Derived.Test.YtbhopgklnddelaaNumM
namespace Go.Proofs.Ytbhopgklnddelaa
open Go.RowKit

/-- The bytes of a number below 2^39 are five at most. -/
theorem encB_five (n : Int) (h : n.natAbs ≤ 549755813887) : (encB n).length ≤ 5 := by
  by_cases hn : n = 0
  · subst hn; rw [encB_zero]; simp
  · obtain ⟨l, x, e, hx, hv, _⟩ := encB_form n hn
    rw [e, List.length_append]
    rcases Nat.lt_or_ge 4 l.length with h3 | h3
    · exfalso
      rcases hx with hx | ⟨l', y, rfl, hy⟩
      · have h4 : 256 ^ 5 * 1 ≤ 256 ^ l.length * (x.toNat % 128) := Nat.mul_le_mul (Nat.pow_le_pow_right (by decide) h3) (by omega)
        have : (256 : Nat) ^ 5 = 1099511627776 := by decide
        omega
      · rw [List.length_append] at h3
        simp only [List.length_cons, List.length_nil] at h3
        rw [valN_append] at hv
        simp only [valN, Nat.mul_zero, Nat.add_zero] at hv
        have h4 : 256 ^ 4 * 128 ≤ 256 ^ l'.length * y.toNat := Nat.mul_le_mul (Nat.pow_le_pow_right (by decide) (by omega)) hy
        have : (256 : Nat) ^ 4 = 4294967296 := by decide
        omega
    · simp
      exact h3

set_option maxRecDepth 100000 in
set_option maxHeartbeats 2000000 in
theorem back_small_bad (n : Int) (h1 : -2147483647 ≤ n) (h2 : n ≤ 2147483647) (bs : List UInt8) (cap : Nat) (hcap : bs.length ≤ cap) (Ad : Option Addr) (hl : bs.length ≤ 100) (w : World) (hI : Holds8 w.heap.size w Ad bs) (hb : okB bs = false) : Calls Try.prog 6 #[.int .i64 n, .slice Ad bs.length cap] w fun e w' => e = .returned (.bool true) ∧ Below w.heap.size w w' := by
  have hlm : bs.length ≤ maxLen := by unfold maxLen; omega
  have dl : decide ((100 : Int) < (bs.length : Int)) = false := by simp; omega
  have HI := Lib.hid hI
  have HDB := Lib.hid (fun n₀ w => decode_any n₀ w bs hlm)
  have HTB := Lib.hid (fun c A w h => true_any bs hlm c A w h)
  have HCAP := Lib.hid hcap
  clear hI hlm hl hcap
  have HR := Lib.hid (show decR bs = 0 by unfold decR; rw [hb]; rfl)
  have HR2 := Lib.hid (show decE bs = 110 by unfold decE; rw [hb]; rfl)
  clear hb
  have HE := Lib.hid (encode_yes n (by omega) (by omega))
  have hok := (okB_encB n).2 ⟨h1, h2⟩
  have hlen := encB_length n 4 (by omega)
  have h4 : (encB n).length ≤ 4 := by
    unfold okB at hok
    rw [Bool.and_eq_true, decide_eq_true_eq] at hok
    exact hok.1
  have hok := (okB_encB n).2 ⟨h1, h2⟩
  have HDN := Lib.hid (fun n₀ w => decode_any n₀ w (encB n) (by unfold maxLen; omega))
  have HTN := Lib.hid (fun c A w h => true_any (encB n) (by unfold maxLen; omega) c A w h)
  have HN1 := Lib.hid (show decR (encB n) = n by unfold decR; rw [if_pos hok, decV_encB])
  have HN2 := Lib.hid (show decE (encB n) = 0 by unfold decE; rw [if_pos hok])
  have HT3 := Lib.hid (show trueB (encB n) = (n != 0) by rw [trueB_encB, Bool.eq_iff_iff]; simp)
  have d5 : decide ((5 : Int) < ((encB n).length : Int)) = false := by simp; omega
  have d4 : decide ((4 : Int) < ((encB n).length : Int)) = false := by simp; omega
  clear hok hlen h4
  have g1 : decide (-2147483647 ≤ n) = true := by simpa using h1
  have g2 : decide (n ≤ 2147483647) = true := by simpa using h2
  go_enter Try.func6, Try.ntmps6
  go_wp2_with (first
    | (go_at_call 28; refine Calls.mono (alive_any _) ?_; rintro e w1 ⟨rfl, hb1⟩; have HI1 := Lib.hid (HI.out.later hb1); have HB1 := Lib.hid hb1; clear hb1)
    | ((with_reducible refine Calls.mono (HE.out _) ?_); rintro e w2 ⟨A2, c2, rfl, hh2, _, hb2⟩; have HI2 := Lib.hid (HI1.out.later hb2); have HB2 := Lib.hid (HB1.out.trans (hb2.mono HB1.out.size)); have HH2 := Lib.hid hh2; clear hb2 hh2; have tok : True := trivial)
    | (go_at_call 12; have _t := tok; refine Calls.mono (HDN.out _ _ _ _ HH2.out) ?_; rintro e w3 ⟨rfl, rfl⟩; rw [HN1.out, HN2.out]; clear tok)
    | ((with_reducible refine Calls.mono (HTN.out _ _ _ HH2.out) ?_); rintro e w4 ⟨rfl, hb4⟩; have HI4 := Lib.hid (HI2.out.later hb4); have HB4 := Lib.hid (HB2.out.trans (hb4.mono HB2.out.size)); clear hb4; rw [HT3.out])
    | (go_at_call 12; refine Calls.mono (HDB.out _ _ _ _ HI4.out) ?_; rintro e w5 ⟨rfl, rfl⟩; rw [HR.out, HR2.out]))
  go_ret
  exact ⟨rfl, HB4.out⟩

set_option maxRecDepth 100000 in
set_option maxHeartbeats 2000000 in
theorem back_small_ok (n : Int) (h1 : -2147483647 ≤ n) (h2 : n ≤ 2147483647) (bs : List UInt8) (cap : Nat) (hcap : bs.length ≤ cap) (Ad : Option Addr) (hl : bs.length ≤ 100) (w : World) (hI : Holds8 w.heap.size w Ad bs) (v : Int) (hb : okB bs = true) (hv : decV bs = v) : Calls Try.prog 6 #[.int .i64 n, .slice Ad bs.length cap] w fun e w' => e = .returned (.bool true) ∧ Below w.heap.size w w' := by
  have hlm : bs.length ≤ maxLen := by unfold maxLen; omega
  have dl : decide ((100 : Int) < (bs.length : Int)) = false := by simp; omega
  have HI := Lib.hid hI
  have HDB := Lib.hid (fun n₀ w => decode_any n₀ w bs hlm)
  have HTB := Lib.hid (fun c A w h => true_any bs hlm c A w h)
  have HCAP := Lib.hid hcap
  clear hI hlm hl hcap
  have hev := enc_is hb hv
  have hvs := (okB_encB v).1 (by rw [hev]; exact hb)
  have HEV := Lib.hid (encode_yes v (by omega) (by omega))
  have HBV := Lib.hid hev
  have HTV := Lib.hid (show trueB bs = (v != 0) by rw [← hev, trueB_encB, Bool.eq_iff_iff]; simp)
  have HR := Lib.hid (show decR bs = v by unfold decR; rw [if_pos hb, hv])
  have HR2 := Lib.hid (show decE bs = 0 by unfold decE; rw [if_pos hb])
  clear hb hv hev hvs
  have HE := Lib.hid (encode_yes n (by omega) (by omega))
  have hok := (okB_encB n).2 ⟨h1, h2⟩
  have hlen := encB_length n 4 (by omega)
  have h4 : (encB n).length ≤ 4 := by
    unfold okB at hok
    rw [Bool.and_eq_true, decide_eq_true_eq] at hok
    exact hok.1
  have hok := (okB_encB n).2 ⟨h1, h2⟩
  have HDN := Lib.hid (fun n₀ w => decode_any n₀ w (encB n) (by unfold maxLen; omega))
  have HTN := Lib.hid (fun c A w h => true_any (encB n) (by unfold maxLen; omega) c A w h)
  have HN1 := Lib.hid (show decR (encB n) = n by unfold decR; rw [if_pos hok, decV_encB])
  have HN2 := Lib.hid (show decE (encB n) = 0 by unfold decE; rw [if_pos hok])
  have HT3 := Lib.hid (show trueB (encB n) = (n != 0) by rw [trueB_encB, Bool.eq_iff_iff]; simp)
  have d5 : decide ((5 : Int) < ((encB n).length : Int)) = false := by simp; omega
  have d4 : decide ((4 : Int) < ((encB n).length : Int)) = false := by simp; omega
  clear hok hlen h4
  have g1 : decide (-2147483647 ≤ n) = true := by simpa using h1
  have g2 : decide (n ≤ 2147483647) = true := by simpa using h2
  go_enter Try.func6, Try.ntmps6
  go_wp2_with (first
    | (go_at_call 28; refine Calls.mono (alive_any _) ?_; rintro e w1 ⟨rfl, hb1⟩; have HI1 := Lib.hid (HI.out.later hb1); have HB1 := Lib.hid hb1; clear hb1)
    | ((with_reducible refine Calls.mono (HE.out _) ?_); rintro e w2 ⟨A2, c2, rfl, hh2, _, hb2⟩; have HI2 := Lib.hid (HI1.out.later hb2); have HB2 := Lib.hid (HB1.out.trans (hb2.mono HB1.out.size)); have HH2 := Lib.hid hh2; clear hb2 hh2; have tok : True := trivial)
    | (go_at_call 12; have _t := tok; refine Calls.mono (HDN.out _ _ _ _ HH2.out) ?_; rintro e w3 ⟨rfl, rfl⟩; rw [HN1.out, HN2.out]; clear tok)
    | ((with_reducible refine Calls.mono (HTN.out _ _ _ HH2.out) ?_); rintro e w4 ⟨rfl, hb4⟩; have HI4 := Lib.hid (HI2.out.later hb4); have HB4 := Lib.hid (HB2.out.trans (hb4.mono HB2.out.size)); clear hb4; rw [HT3.out])
    | (go_at_call 12; refine Calls.mono (HDB.out _ _ _ _ HI4.out) ?_; rintro e w5 ⟨rfl, rfl⟩; rw [HR.out, HR2.out])
    | ((with_reducible refine Calls.mono (HEV.out _) ?_); rintro e w6 ⟨A6, c6, rfl, hh6, _, hb6⟩; rw [HBV.out] at hh6; have HI6 := Lib.hid (HI4.out.later hb6); have q1 := str_of hh6 c6; have q2 := str_of HI6.out cap; have HB6 := Lib.hid (HB4.out.trans (hb6.mono HB4.out.size)); clear hb6 hh6; rw [HBV.out])
    | ((with_reducible refine Calls.mono (HTB.out _ _ _ HI6.out) ?_); rintro e w7 ⟨rfl, hb7⟩; have HB7 := Lib.hid (HB6.out.trans (hb7.mono HB6.out.size)); clear hb7; rw [HTV.out]))
  go_ret
  exact ⟨rfl, HB7.out⟩

set_option maxRecDepth 100000 in
set_option maxHeartbeats 2000000 in
theorem back_big_bad (n : Int) (h0 : -549755813887 ≤ n ∧ n ≤ 549755813887) (h1 : ¬ (-2147483647 ≤ n ∧ n ≤ 2147483647)) (bs : List UInt8) (cap : Nat) (hcap : bs.length ≤ cap) (Ad : Option Addr) (hl : bs.length ≤ 100) (w : World) (hI : Holds8 w.heap.size w Ad bs) (hb : okB bs = false) : Calls Try.prog 6 #[.int .i64 n, .slice Ad bs.length cap] w fun e w' => e = .returned (.bool true) ∧ Below w.heap.size w w' := by
  have hlm : bs.length ≤ maxLen := by unfold maxLen; omega
  have dl : decide ((100 : Int) < (bs.length : Int)) = false := by simp; omega
  have HI := Lib.hid hI
  have HDB := Lib.hid (fun n₀ w => decode_any n₀ w bs hlm)
  have HTB := Lib.hid (fun c A w h => true_any bs hlm c A w h)
  have HCAP := Lib.hid hcap
  clear hI hlm hl hcap
  have HR := Lib.hid (show decR bs = 0 by unfold decR; rw [hb]; rfl)
  have HR2 := Lib.hid (show decE bs = 110 by unfold decE; rw [hb]; rfl)
  clear hb
  have HE := Lib.hid (encode_yes n h0.1 h0.2)
  have hok : okB (encB n) = false := by
    rw [← Bool.not_eq_true, okB_encB]
    exact h1
  have hlen := encB_length n 5 (by omega)
  have hL5 := magL_length 5 n.natAbs (by omega)
  have h5 : (encB n).length ≤ 5 := encB_five n (by omega)
  have HDN := Lib.hid (fun n₀ w => decode_any n₀ w (encB n) (by unfold maxLen; omega))
  have HTN := Lib.hid (fun c A w h => true_any (encB n) (by unfold maxLen; omega) c A w h)
  have HN1 := Lib.hid (show decR (encB n) = 0 by unfold decR; rw [hok]; rfl)
  have HN2 := Lib.hid (show decE (encB n) = 110 by unfold decE; rw [hok]; rfl)
  have HT3 := Lib.hid (show trueB (encB n) = (n != 0) by rw [trueB_encB, Bool.eq_iff_iff]; simp)
  have d5 : decide ((5 : Int) < ((encB n).length : Int)) = false := by simp; omega
  clear hok hlen hL5 h5
  by_cases g1 : -2147483647 ≤ n
  · have g2 : decide (n ≤ 2147483647) = false := by simp; omega
    clear h0 h1
    go_enter Try.func6, Try.ntmps6
    go_wp2_with (first
      | (go_at_call 28; refine Calls.mono (alive_any _) ?_; rintro e w1 ⟨rfl, hb1⟩; have HI1 := Lib.hid (HI.out.later hb1); have HB1 := Lib.hid hb1; clear hb1)
      | ((with_reducible refine Calls.mono (HE.out _) ?_); rintro e w2 ⟨A2, c2, rfl, hh2, _, hb2⟩; have HI2 := Lib.hid (HI1.out.later hb2); have HB2 := Lib.hid (HB1.out.trans (hb2.mono HB1.out.size)); have HH2 := Lib.hid hh2; clear hb2 hh2; have tok : True := trivial)
      | (go_at_call 12; have _t := tok; refine Calls.mono (HDN.out _ _ _ _ HH2.out) ?_; rintro e w3 ⟨rfl, rfl⟩; rw [HN1.out, HN2.out]; clear tok)
      | ((with_reducible refine Calls.mono (HTN.out _ _ _ HH2.out) ?_); rintro e w4 ⟨rfl, hb4⟩; have HI4 := Lib.hid (HI2.out.later hb4); have HB4 := Lib.hid (HB2.out.trans (hb4.mono HB2.out.size)); clear hb4; rw [HT3.out])
      | (go_at_call 12; refine Calls.mono (HDB.out _ _ _ _ HI4.out) ?_; rintro e w5 ⟨rfl, rfl⟩; rw [HR.out, HR2.out]))
    go_ret
    exact ⟨rfl, HB4.out⟩
  · have g2 : decide (-2147483647 ≤ n) = false := by simp; omega
    clear h0 h1 g1
    go_enter Try.func6, Try.ntmps6
    go_wp2_with (first
      | (go_at_call 28; refine Calls.mono (alive_any _) ?_; rintro e w1 ⟨rfl, hb1⟩; have HI1 := Lib.hid (HI.out.later hb1); have HB1 := Lib.hid hb1; clear hb1)
      | ((with_reducible refine Calls.mono (HE.out _) ?_); rintro e w2 ⟨A2, c2, rfl, hh2, _, hb2⟩; have HI2 := Lib.hid (HI1.out.later hb2); have HB2 := Lib.hid (HB1.out.trans (hb2.mono HB1.out.size)); have HH2 := Lib.hid hh2; clear hb2 hh2; have tok : True := trivial)
      | (go_at_call 12; have _t := tok; refine Calls.mono (HDN.out _ _ _ _ HH2.out) ?_; rintro e w3 ⟨rfl, rfl⟩; rw [HN1.out, HN2.out]; clear tok)
      | ((with_reducible refine Calls.mono (HTN.out _ _ _ HH2.out) ?_); rintro e w4 ⟨rfl, hb4⟩; have HI4 := Lib.hid (HI2.out.later hb4); have HB4 := Lib.hid (HB2.out.trans (hb4.mono HB2.out.size)); clear hb4; rw [HT3.out])
      | (go_at_call 12; refine Calls.mono (HDB.out _ _ _ _ HI4.out) ?_; rintro e w5 ⟨rfl, rfl⟩; rw [HR.out, HR2.out]))
    go_ret
    exact ⟨rfl, HB4.out⟩

set_option maxRecDepth 100000 in
set_option maxHeartbeats 2000000 in
theorem back_big_ok (n : Int) (h0 : -549755813887 ≤ n ∧ n ≤ 549755813887) (h1 : ¬ (-2147483647 ≤ n ∧ n ≤ 2147483647)) (bs : List UInt8) (cap : Nat) (hcap : bs.length ≤ cap) (Ad : Option Addr) (hl : bs.length ≤ 100) (w : World) (hI : Holds8 w.heap.size w Ad bs) (v : Int) (hb : okB bs = true) (hv : decV bs = v) : Calls Try.prog 6 #[.int .i64 n, .slice Ad bs.length cap] w fun e w' => e = .returned (.bool true) ∧ Below w.heap.size w w' := by
  have hlm : bs.length ≤ maxLen := by unfold maxLen; omega
  have dl : decide ((100 : Int) < (bs.length : Int)) = false := by simp; omega
  have HI := Lib.hid hI
  have HDB := Lib.hid (fun n₀ w => decode_any n₀ w bs hlm)
  have HTB := Lib.hid (fun c A w h => true_any bs hlm c A w h)
  have HCAP := Lib.hid hcap
  clear hI hlm hl hcap
  have hev := enc_is hb hv
  have hvs := (okB_encB v).1 (by rw [hev]; exact hb)
  have HEV := Lib.hid (encode_yes v (by omega) (by omega))
  have HBV := Lib.hid hev
  have HTV := Lib.hid (show trueB bs = (v != 0) by rw [← hev, trueB_encB, Bool.eq_iff_iff]; simp)
  have HR := Lib.hid (show decR bs = v by unfold decR; rw [if_pos hb, hv])
  have HR2 := Lib.hid (show decE bs = 0 by unfold decE; rw [if_pos hb])
  clear hb hv hev hvs
  have HE := Lib.hid (encode_yes n h0.1 h0.2)
  have hok : okB (encB n) = false := by
    rw [← Bool.not_eq_true, okB_encB]
    exact h1
  have hlen := encB_length n 5 (by omega)
  have hL5 := magL_length 5 n.natAbs (by omega)
  have h5 : (encB n).length ≤ 5 := encB_five n (by omega)
  have HDN := Lib.hid (fun n₀ w => decode_any n₀ w (encB n) (by unfold maxLen; omega))
  have HTN := Lib.hid (fun c A w h => true_any (encB n) (by unfold maxLen; omega) c A w h)
  have HN1 := Lib.hid (show decR (encB n) = 0 by unfold decR; rw [hok]; rfl)
  have HN2 := Lib.hid (show decE (encB n) = 110 by unfold decE; rw [hok]; rfl)
  have HT3 := Lib.hid (show trueB (encB n) = (n != 0) by rw [trueB_encB, Bool.eq_iff_iff]; simp)
  have d5 : decide ((5 : Int) < ((encB n).length : Int)) = false := by simp; omega
  clear hok hlen hL5 h5
  by_cases g1 : -2147483647 ≤ n
  · have g2 : decide (n ≤ 2147483647) = false := by simp; omega
    clear h0 h1
    go_enter Try.func6, Try.ntmps6
    go_wp2_with (first
      | (go_at_call 28; refine Calls.mono (alive_any _) ?_; rintro e w1 ⟨rfl, hb1⟩; have HI1 := Lib.hid (HI.out.later hb1); have HB1 := Lib.hid hb1; clear hb1)
      | ((with_reducible refine Calls.mono (HE.out _) ?_); rintro e w2 ⟨A2, c2, rfl, hh2, _, hb2⟩; have HI2 := Lib.hid (HI1.out.later hb2); have HB2 := Lib.hid (HB1.out.trans (hb2.mono HB1.out.size)); have HH2 := Lib.hid hh2; clear hb2 hh2; have tok : True := trivial)
      | (go_at_call 12; have _t := tok; refine Calls.mono (HDN.out _ _ _ _ HH2.out) ?_; rintro e w3 ⟨rfl, rfl⟩; rw [HN1.out, HN2.out]; clear tok)
      | ((with_reducible refine Calls.mono (HTN.out _ _ _ HH2.out) ?_); rintro e w4 ⟨rfl, hb4⟩; have HI4 := Lib.hid (HI2.out.later hb4); have HB4 := Lib.hid (HB2.out.trans (hb4.mono HB2.out.size)); clear hb4; rw [HT3.out])
      | (go_at_call 12; refine Calls.mono (HDB.out _ _ _ _ HI4.out) ?_; rintro e w5 ⟨rfl, rfl⟩; rw [HR.out, HR2.out])
      | ((with_reducible refine Calls.mono (HEV.out _) ?_); rintro e w6 ⟨A6, c6, rfl, hh6, _, hb6⟩; rw [HBV.out] at hh6; have HI6 := Lib.hid (HI4.out.later hb6); have q1 := str_of hh6 c6; have q2 := str_of HI6.out cap; have HB6 := Lib.hid (HB4.out.trans (hb6.mono HB4.out.size)); clear hb6 hh6; rw [HBV.out])
      | ((with_reducible refine Calls.mono (HTB.out _ _ _ HI6.out) ?_); rintro e w7 ⟨rfl, hb7⟩; have HB7 := Lib.hid (HB6.out.trans (hb7.mono HB6.out.size)); clear hb7; rw [HTV.out]))
    go_ret
    exact ⟨rfl, HB7.out⟩
  · have g2 : decide (-2147483647 ≤ n) = false := by simp; omega
    clear h0 h1 g1
    go_enter Try.func6, Try.ntmps6
    go_wp2_with (first
      | (go_at_call 28; refine Calls.mono (alive_any _) ?_; rintro e w1 ⟨rfl, hb1⟩; have HI1 := Lib.hid (HI.out.later hb1); have HB1 := Lib.hid hb1; clear hb1)
      | ((with_reducible refine Calls.mono (HE.out _) ?_); rintro e w2 ⟨A2, c2, rfl, hh2, _, hb2⟩; have HI2 := Lib.hid (HI1.out.later hb2); have HB2 := Lib.hid (HB1.out.trans (hb2.mono HB1.out.size)); have HH2 := Lib.hid hh2; clear hb2 hh2; have tok : True := trivial)
      | (go_at_call 12; have _t := tok; refine Calls.mono (HDN.out _ _ _ _ HH2.out) ?_; rintro e w3 ⟨rfl, rfl⟩; rw [HN1.out, HN2.out]; clear tok)
      | ((with_reducible refine Calls.mono (HTN.out _ _ _ HH2.out) ?_); rintro e w4 ⟨rfl, hb4⟩; have HI4 := Lib.hid (HI2.out.later hb4); have HB4 := Lib.hid (HB2.out.trans (hb4.mono HB2.out.size)); clear hb4; rw [HT3.out])
      | (go_at_call 12; refine Calls.mono (HDB.out _ _ _ _ HI4.out) ?_; rintro e w5 ⟨rfl, rfl⟩; rw [HR.out, HR2.out])
      | ((with_reducible refine Calls.mono (HEV.out _) ?_); rintro e w6 ⟨A6, c6, rfl, hh6, _, hb6⟩; rw [HBV.out] at hh6; have HI6 := Lib.hid (HI4.out.later hb6); have q1 := str_of hh6 c6; have q2 := str_of HI6.out cap; have HB6 := Lib.hid (HB4.out.trans (hb6.mono HB4.out.size)); clear hb6 hh6; rw [HBV.out])
      | ((with_reducible refine Calls.mono (HTB.out _ _ _ HI6.out) ?_); rintro e w7 ⟨rfl, hb7⟩; have HB7 := Lib.hid (HB6.out.trans (hb7.mono HB6.out.size)); clear hb7; rw [HTV.out]))
    go_ret
    exact ⟨rfl, HB7.out⟩

set_option maxRecDepth 100000 in
set_option maxHeartbeats 2000000 in
theorem back_no_bad (n : Int) (h0 : n < -549755813887 ∨ 549755813887 < n) (bs : List UInt8) (cap : Nat) (hcap : bs.length ≤ cap) (Ad : Option Addr) (hl : bs.length ≤ 100) (w : World) (hI : Holds8 w.heap.size w Ad bs) (hb : okB bs = false) : Calls Try.prog 6 #[.int .i64 n, .slice Ad bs.length cap] w fun e w' => e = .returned (.bool true) ∧ Below w.heap.size w w' := by
  have hlm : bs.length ≤ maxLen := by unfold maxLen; omega
  have dl : decide ((100 : Int) < (bs.length : Int)) = false := by simp; omega
  have HI := Lib.hid hI
  have HDB := Lib.hid (fun n₀ w => decode_any n₀ w bs hlm)
  have HTB := Lib.hid (fun c A w h => true_any bs hlm c A w h)
  have HCAP := Lib.hid hcap
  clear hI hlm hl hcap
  have HR := Lib.hid (show decR bs = 0 by unfold decR; rw [hb]; rfl)
  have HR2 := Lib.hid (show decE bs = 110 by unfold decE; rw [hb]; rfl)
  clear hb
  have HE := Lib.hid (encode_no n h0)
  clear h0
  go_enter Try.func6, Try.ntmps6
  go_wp2_with (first
    | (go_at_call 28; refine Calls.mono (alive_any _) ?_; rintro e w1 ⟨rfl, hb1⟩; have HI1 := Lib.hid (HI.out.later hb1); have HB1 := Lib.hid hb1; clear hb1)
    | ((with_reducible refine Calls.mono (HE.out _) ?_); rintro e w2 ⟨rfl, rfl⟩)
    | (go_at_call 12; refine Calls.mono (HDB.out _ _ _ _ HI1.out) ?_; rintro e w5 ⟨rfl, rfl⟩; rw [HR.out, HR2.out]))
  go_ret
  exact ⟨rfl, HB1.out⟩

set_option maxRecDepth 100000 in
set_option maxHeartbeats 2000000 in
theorem back_no_ok (n : Int) (h0 : n < -549755813887 ∨ 549755813887 < n) (bs : List UInt8) (cap : Nat) (hcap : bs.length ≤ cap) (Ad : Option Addr) (hl : bs.length ≤ 100) (w : World) (hI : Holds8 w.heap.size w Ad bs) (v : Int) (hb : okB bs = true) (hv : decV bs = v) : Calls Try.prog 6 #[.int .i64 n, .slice Ad bs.length cap] w fun e w' => e = .returned (.bool true) ∧ Below w.heap.size w w' := by
  have hlm : bs.length ≤ maxLen := by unfold maxLen; omega
  have dl : decide ((100 : Int) < (bs.length : Int)) = false := by simp; omega
  have HI := Lib.hid hI
  have HDB := Lib.hid (fun n₀ w => decode_any n₀ w bs hlm)
  have HTB := Lib.hid (fun c A w h => true_any bs hlm c A w h)
  have HCAP := Lib.hid hcap
  clear hI hlm hl hcap
  have hev := enc_is hb hv
  have hvs := (okB_encB v).1 (by rw [hev]; exact hb)
  have HEV := Lib.hid (encode_yes v (by omega) (by omega))
  have HBV := Lib.hid hev
  have HTV := Lib.hid (show trueB bs = (v != 0) by rw [← hev, trueB_encB, Bool.eq_iff_iff]; simp)
  have HR := Lib.hid (show decR bs = v by unfold decR; rw [if_pos hb, hv])
  have HR2 := Lib.hid (show decE bs = 0 by unfold decE; rw [if_pos hb])
  clear hb hv hev hvs
  have HE := Lib.hid (encode_no n h0)
  clear h0
  go_enter Try.func6, Try.ntmps6
  go_wp2_with (first
    | (go_at_call 28; refine Calls.mono (alive_any _) ?_; rintro e w1 ⟨rfl, hb1⟩; have HI1 := Lib.hid (HI.out.later hb1); have HB1 := Lib.hid hb1; clear hb1)
    | ((with_reducible refine Calls.mono (HE.out _) ?_); rintro e w2 ⟨rfl, rfl⟩)
    | (go_at_call 12; refine Calls.mono (HDB.out _ _ _ _ HI1.out) ?_; rintro e w5 ⟨rfl, rfl⟩; rw [HR.out, HR2.out])
    | ((with_reducible refine Calls.mono (HEV.out _) ?_); rintro e w6 ⟨A6, c6, rfl, hh6, _, hb6⟩; rw [HBV.out] at hh6; have HI6 := Lib.hid (HI1.out.later hb6); have q1 := str_of hh6 c6; have q2 := str_of HI6.out cap; have HB6 := Lib.hid (HB1.out.trans (hb6.mono HB1.out.size)); clear hb6 hh6; rw [HBV.out])
    | ((with_reducible refine Calls.mono (HTB.out _ _ _ HI6.out) ?_); rintro e w7 ⟨rfl, hb7⟩; have HB7 := Lib.hid (HB6.out.trans (hb7.mono HB6.out.size)); clear hb7; rw [HTV.out]))
  go_ret
  exact ⟨rfl, HB7.out⟩

set_option maxRecDepth 100000 in
theorem back_long (n : Int) (bs : List UInt8) (cap : Nat) (Ad : Option Addr) (hl : 100 < bs.length) (hm : bs.length ≤ maxLen) (w : World) : Calls Try.prog 6 #[.int .i64 n, .slice Ad bs.length cap] w fun e w' => e = .returned (.bool true) ∧ Below w.heap.size w w' := by
  unfold maxLen at hm
  have dl : decide ((100 : Int) < (bs.length : Int)) = true := by simp; omega
  clear hl
  go_enter Try.func6, Try.ntmps6
  go_wp2_with (go_at_call 28; refine Calls.mono (alive_any _) ?_; rintro e w1 ⟨rfl, hb1⟩)
  go_ret
  exact ⟨rfl, hb1⟩

theorem back_walk (n : Int) (bs : List UInt8) (cap : Nat) (hcap : bs.length ≤ cap) (Ad : Option Addr) (hm : bs.length ≤ maxLen) (w : World) (hI : Holds8 w.heap.size w Ad bs) : Calls Try.prog 6 #[.int .i64 n, .slice Ad bs.length cap] w fun e w' => e = .returned (.bool true) ∧ Below w.heap.size w w' := by
  by_cases hl : bs.length ≤ 100
  · by_cases hs : -2147483647 ≤ n ∧ n ≤ 2147483647
    · by_cases hb : okB bs = true
      · exact back_small_ok n hs.1 hs.2 bs cap hcap Ad hl w hI _ hb rfl
      · exact back_small_bad n hs.1 hs.2 bs cap hcap Ad hl w hI (by simpa using hb)
    · by_cases hr : -549755813887 ≤ n ∧ n ≤ 549755813887
      · by_cases hb : okB bs = true
        · exact back_big_ok n hr hs bs cap hcap Ad hl w hI _ hb rfl
        · exact back_big_bad n hr hs bs cap hcap Ad hl w hI (by simpa using hb)
      · by_cases hb : okB bs = true
        · exact back_no_ok n (by omega) bs cap hcap Ad hl w hI _ hb rfl
        · exact back_no_bad n (by omega) bs cap hcap Ad hl w hI (by simpa using hb)
  · exact back_long n bs cap Ad (by omega) hm w

open Go.ChangeShapes Go.WideShapes Go.ChangeAt
set_option maxRecDepth 100000 in
theorem back_lifted (os : Os) (started : os.Started) (H : Type) (enc : TypeId × Value → H) :
    ReturnsInHanded {} Try.checked os 6 .any (Rows.numBackSpec.pre6 enc Try.prog Try.f6 Rows.numBackRow.domain false) (Rows.numBackSpec.post enc Try.prog Try.f6 false true false false) := by
  refine returnsInHanded_of_change (C := Try.checked) own started (by kernel_rfl) Try.func6
    (ChangeSpec.witness6 (enc := enc) (C := Try.checked) false ⟨#[], #[.int .i64 0, .slice none 0 0], []⟩ 8 (by kernel_rfl) (by kernel_rfl) (by kernel_rfl) (by kernel_rfl)) ?_
  intro W base args ds gs before hval0 hW hcnd _
  have hval : ∀ (j : Nat) t v, Try.f6.params[j]? = some t → args[j]? = some v → Value.okWide Try.prog W .any base t v := hval0
  have hW' := hW
  obtain ⟨p, q, hA0, hV, rfl, hfz, hnd⟩ := hW
  have hA : DataW.TrodAll enc Try.prog W 0 (fun _ => true) true Try.f6.params.toList args.toList ds p := hA0
  rw [Try.params6] at hA hval
  obtain ⟨v0, vs0, d0, ds0, p0, q0, hargs, rfl, rfl, h0, r0⟩ := trodAll_cons hA
  obtain ⟨v1, vs1, d1, ds1, p1, q1, rfl, rfl, rfl, h1, r1⟩ := trodAll_cons r0
  obtain ⟨rfl, rfl, rfl⟩ := trodAll_nil r1
  obtain rfl : args = #[v0, v1] := by cases args; simp_all
  obtain ⟨rfl, rfl⟩ := trodVars_none hV
  have k0 := h0
  have lt0 : ∀ x ∈ p0, x.block < W.heap.size := by obtain ⟨m, hm⟩ := k0; exact DataW.trod_lt m _ _ _ hm
  have k1 := h1
  have lt1 : ∀ x ∈ p1, x.block < W.heap.size := by obtain ⟨m, hm⟩ := k1; exact DataW.trod_lt m _ _ _ hm
  obtain ⟨z0, rfl, rfl, rfl, wz0⟩ := open_int Try.underlying2 (hval 0 2 v0 rfl rfl) h0
  have hz0 := bounds_i64 wz0
  obtain ⟨A1, bs1, cap1, rfl, hh1, hlen1, hcap1⟩ := open8 (hval 1 22 v1 rfl rfl) k1
  clear hA0 hval0
  refine (back_walk z0 bs1 cap1 hlen1 A1 (Nat.le_trans hlen1 hcap1) W hh1).mono fun e W' ⟨he, bel⟩ => ?_
  subst he
  exact ⟨_, rfl, _, _, _, [], _, [], hW', trodAll_mk1 (shut_bool Try.underlying4 _), (trodAll_cons_mk (Below.trod laidOut (by kernel_rfl) (of_decide_eq_true (by kernel_rfl)) k0 bel lt0) (trodAll_cons_mk (Below.trod laidOut (by kernel_rfl) (of_decide_eq_true (by kernel_rfl)) k1 bel lt1) trodAll_mk0)), rfl, bel.frame _, fun h => by cases h⟩

theorem back_over : Rows.numBackRow.holds Try.pinned (OpenSpec.ofChange Rows.numBackSpec) :=
  OpenClaim.holds_of_wide 6 Try.f6 rfl rfl rfl rfl rfl rfl rfl ⟨rfl, rfl, rfl, rfl, rfl⟩ rfl rfl rfl rfl rfl (by kernel_rfl) Try.func6 (by kernel_rfl)
    (of_decide_eq_true (by kernel_rfl)) (by unfold Func.isWrapper; first | (rw [if_pos (by decide +kernel)]; kernel_rfl) | (rw [if_neg (by decide +kernel)]; exact ⟨rfl, rfl⟩))
    (fun os started H enc _ => back_lifted os started H enc)

/-- NumBack is true at every input. -/
theorem back_proved : Rows.NumBackSaid := back_over
#print axioms back_proved
end Go.Proofs.Ytbhopgklnddelaa
