/- Contracts of purserref11.Encode, True and Flag. No condition. -/
import Derived.Test.YtbhopgklnddelaaNumV
import Derived.Test.YtbhopgklnddelaaNumL
namespace Go.Proofs.Ytbhopgklnddelaa
open Go.RowKit Go.Shelf

set_option maxRecDepth 100000 in
theorem refFlag_any (b : Bool) (w : World) : Calls Try.prog 17 #[.bool b] w (NewBytes w (encB (tv b))) := by
  have C := Lib.hid (refBytes_any (tv b) (by cases b <;> decide) (by cases b <;> decide))
  go_enter Try.func17, Try.ntmps17
  go_wp2_with (first
    | (go_at_call 33; refine (flag33 b _).mono ?_; rintro e w1 ⟨rfl, rfl⟩)
    | (go_at_call 30; refine Calls.mono (C.out _) ?_; rintro e w1 ⟨A, c, rfl, hh, hfr, hb⟩))
  go_ret
  exact ⟨A, c, rfl, hh, hfr, hb⟩

set_option maxRecDepth 100000 in
theorem refEncode_yes (n : Int) (h1 : -549755813887 ≤ n) (h2 : n ≤ 549755813887) (w : World) : Calls Try.prog 11 #[.int .i64 n] w (EncPost w n) := by
  have C := Lib.hid (refBytes_any n (by omega) (by omega))
  have d1 : decide (n ≤ -549755813888) = false := by simp; omega
  have d2 : decide (549755813888 ≤ n) = false := by simp; omega
  clear h1 h2
  go_enter Try.func11, Try.ntmps11
  go_wp2_with (go_at_call 30; refine Calls.mono (C.out _) ?_; rintro e w1 ⟨A, c, rfl, hh, hfr, hb⟩)
  go_ret2
  exact ⟨A, c, rfl, hh, hfr, hb⟩
set_option maxRecDepth 100000 in
theorem refEncode_no (n : Int) (h : n < -549755813887 ∨ 549755813887 < n) (w : World) : Calls Try.prog 11 #[.int .i64 n] w fun e w' => e = .returned (.tuple #[.slice none 0 0, .int .i64 110]) ∧ w = w' := by
  by_cases h1 : n < -549755813887
  · have d1 : decide (n ≤ -549755813888) = true := by simp; omega
    clear h h1
    go_enter Try.func11, Try.ntmps11
    go_wp2
    go_ret2
    exact ⟨rfl, rfl⟩
  · have d1 : decide (n ≤ -549755813888) = false := by simp; omega
    have d2 : decide (549755813888 ≤ n) = true := by simp; omega
    clear h h1
    go_enter Try.func11, Try.ntmps11
    go_wp2
    go_ret2
    exact ⟨rfl, rfl⟩

theorem true_no {bs : List UInt8} (h : ∀ j (hj : j < bs.length), bs[j].toNat = 0 ∨ (bs[j].toNat = 128 ∧ j + 1 = bs.length)) : trueB bs = false := by
  rw [← Bool.not_eq_true, trueB_iff]
  rintro ⟨j, hj, h1, h2⟩
  simp only at h1 h2
  rcases h j hj with h0 | ⟨h0, h3⟩
  · exact h1 h0
  · rcases h2 with h2 | h2
    · exact h2 h0
    · exact h2 h3

set_option maxRecDepth 100000 in
set_option maxHeartbeats 1000000 in
theorem refTrue_any (bs : List UInt8) (hm : bs.length ≤ maxLen) (cap : Nat) (A : Option Addr) (n₀ : Nat) (w : World) (hI : Holds8 n₀ w A bs) :
    Calls Try.prog 15 #[.slice A bs.length cap] w fun e w' => e = .returned (.bool (trueB bs)) ∧ w = w' := by
  unfold maxLen at hm
  have HI := Lib.hid hI
  clear hI
  go_enter Try.func15, Try.ntmps15
  go_wp2
  go_loop [3] (fun i => ∃ k : Nat, k ≤ bs.length ∧ i = .int .i64 k ∧ (∀ j (hj : j < bs.length), j < k → bs[j].toNat = 0)) (fun i => bs.length - (intOf i).toNat)
  case atStart => exact ⟨0, by omega, rfl, fun j hj h => by omega⟩
  case round =>
    obtain ⟨k, hk, rfl, hz⟩ := hrel
    by_cases hlt : k < bs.length
    · obtain ⟨b, off, rfl, hb, hc⟩ := HI.out.at_ hlt
      obtain ⟨x, hx⟩ : ∃ x, bs[k] = x := ⟨_, rfl⟩
      have hub := UInt8.toNat_lt x
      have HZ := Lib.hid hz
      have HX := Lib.hid hx
      rw [hx] at hc
      clear hz hx
      by_cases h0 : x.toNat = 0
      · have e1 : ((x.toNat : Int) == 128) = false := by simp; omega
        have e2 : ((x.toNat : Int) != 0) = false := by simp [h0]
        have H0 := Lib.hid h0
        clear h0
        go_wp2
        go_round
        case rel =>
          exact ⟨k + 1, by omega, by go_num, fun j hj h => by
            by_cases e : j = k
            · subst e; rw [HX.out]; exact H0.out
            · exact HZ.out j hj (by omega)⟩
        case measure => simp [intOf]; omega
      · have e2 : ((x.toNat : Int) != 0) = true := by rw [bne_iff_ne]; omega
        by_cases h1 : x.toNat = 128
        · have e1 : ((x.toNat : Int) == 128) = true := by simp [h1]
          by_cases hkl : k + 1 = bs.length
          · have e3 : ((k : Int) == (bs.length : Int) - 1) = true := by simp; omega
            have HF := Lib.hid (true_no (bs := bs) fun j hj => by
              by_cases e : j = k
              · subst e; exact .inr ⟨by rw [HX.out]; exact h1, hkl⟩
              · exact .inl (HZ.out j hj (by omega)))
            clear h0 h1 hkl
            go_wp2
            go_ret
            exact ⟨by rw [HF.out]; rfl, rfl⟩
          · have e3 : ((k : Int) == (bs.length : Int) - 1) = false := by simp; omega
            have HF := Lib.hid ((trueB_iff bs).2 ⟨k, hlt, by show bs[k].toNat ≠ 0; rw [HX.out]; exact h0, .inr hkl⟩)
            clear h0 h1 hkl
            go_wp2
            go_ret
            exact ⟨by rw [HF.out]; rfl, rfl⟩
        · have e1 : ((x.toNat : Int) == 128) = false := by simp; omega
          have HF := Lib.hid ((trueB_iff bs).2 ⟨k, hlt, by show bs[k].toNat ≠ 0; rw [HX.out]; exact h0, .inl (by show bs[k].toNat ≠ 128; rw [HX.out]; exact h1)⟩)
          clear h0 h1
          go_wp2
          go_ret
          exact ⟨by rw [HF.out]; rfl, rfl⟩
    · have HF := Lib.hid (true_no (bs := bs) fun j hj => .inl (hz j hj (by omega)))
      clear hz
      go_wp2
      go_ret
      exact ⟨by rw [HF.out]; rfl, rfl⟩
end Go.Proofs.Ytbhopgklnddelaa
