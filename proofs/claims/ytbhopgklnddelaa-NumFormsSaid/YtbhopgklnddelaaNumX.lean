/- The contract of purserref11.Decode. No condition beyond the memory's reach. -/
import Derived.Test.YtbhopgklnddelaaNumW
import Derived.Test.YtbhopgklnddelaaReg2
namespace Go.Proofs.Ytbhopgklnddelaa
open Go.RowKit Go.Shelf

theorem last_split {bs : List UInt8} {k : Nat} (h : k + 1 = bs.length) : bs = bs.take k ++ [bs[k]] := by
  conv => lhs; rw [← List.take_length (l := bs), ← h, List.take_succ_eq_append_getElem (by omega)]
theorem decV_abs {l : List UInt8} {x : UInt8} : (decV (l ++ [x])).natAbs = valN l + 256 ^ l.length * (x.toNat % 128) := by
  rw [decV_snoc]
  split <;> omega
theorem decV_last {bs : List UInt8} {k : Nat} (h : k + 1 = bs.length) : (decV bs).natAbs = valN (bs.take k) + 256 ^ k * (bs[k].toNat % 128) := by
  conv => lhs; rw [last_split h]
  rw [decV_abs, List.length_take, Nat.min_eq_left (by omega)]
theorem decV_small {bs : List UInt8} (h : bs.length ≤ 4) : (decV bs).natAbs ≤ 2147483647 := by
  rcases List.eq_nil_or_concat bs with rfl | ⟨l, x, rfl⟩
  · decide
  · rw [List.concat_eq_append] at *
    rw [decV_abs]
    have hl : l.length ≤ 3 := by simpa using h
    have h1 := valN_lt l
    have h2 := pow256 _ hl
    have h3 : 256 ^ l.length * (x.toNat % 128) ≤ 256 ^ l.length * 127 := Nat.mul_le_mul_left _ (by omega)
    omega
theorem decV_sign (bs : List UInt8) : (128 ≤ (bs.getLastD 0).toNat → decV bs = -((decV bs).natAbs : Int)) ∧ (¬ 128 ≤ (bs.getLastD 0).toNat → decV bs = ((decV bs).natAbs : Int)) := by
  rcases List.eq_nil_or_concat bs with rfl | ⟨l, x, rfl⟩
  · exact ⟨fun h => absurd h (by decide), fun _ => rfl⟩
  · rw [List.concat_eq_append] at *
    rw [List.getLastD_concat, decV_abs, decV_snoc]
    exact ⟨fun h => by rw [if_pos h], fun h => by rw [if_neg h]⟩
theorem ok_iff {bs : List UInt8} (h : bs.length ≤ 4) : encB (decV bs) = bs ↔ okB bs = true :=
  ⟨fun e => by
    have h1 := (okB_encB (decV bs)).2 (by have := decV_small h; omega)
    rwa [e] at h1, encB_decV bs⟩
def midN (bs : List UInt8) (k : Nat) : Nat := if k < bs.length then valN (bs.take k) else (decV bs).natAbs
def midB (bs : List UInt8) (k : Nat) : Bool := if k < bs.length then false else decide (128 ≤ (bs.getLastD 0).toNat)
theorem mid_zero (bs : List UInt8) : midN bs 0 = 0 ∧ midB bs 0 = false := by
  unfold midN midB
  by_cases h : 0 < bs.length
  · rw [if_pos h, if_pos h]; exact ⟨rfl, rfl⟩
  · have : bs = [] := List.eq_nil_of_length_eq_zero (by omega)
    subst this
    exact ⟨rfl, rfl⟩
theorem mid_more {bs : List UInt8} {k : Nat} {x : UInt8} (hlt : k < bs.length) (hx : bs[k] = x) (h : k + 1 < bs.length) : midN bs (k + 1) = valN (bs.take k) + x.toNat * 256 ^ k ∧ midB bs (k + 1) = false := by
  unfold midN midB
  rw [if_pos h, if_pos h, valN_snoc bs k (by omega), hx]
  exact ⟨rfl, rfl⟩
theorem mid_done {bs : List UInt8} {k : Nat} {x : UInt8} (hlt : k < bs.length) (hx : bs[k] = x) (h : k + 1 = bs.length) : midN bs (k + 1) = valN (bs.take k) + (x.toNat % 128) * 256 ^ k ∧ midB bs (k + 1) = decide (128 ≤ x.toNat) := by
  unfold midN midB
  rw [if_neg (by omega), if_neg (by omega), decV_last h, Nat.mul_comm, hx]
  refine ⟨rfl, ?_⟩
  congr 2
  conv => lhs; rw [last_split h]
  rw [List.getLastD_concat, hx]
theorem take_lt (bs : List UInt8) (k : Nat) (h : k ≤ bs.length) : valN (bs.take k) < 256 ^ k := by
  have := valN_lt (bs.take k)
  rwa [List.length_take, Nat.min_eq_left h] at this

set_option maxRecDepth 100000 in
set_option maxHeartbeats 4000000 in
theorem refDecode_any (bs : List UInt8) (hm : bs.length ≤ maxLen) (cap : Nat) (A : Option Addr) (w : World) (hI : Holds8 w.heap.size w A bs) :
    Calls Try.prog 13 #[.slice A bs.length cap] w fun e w' => e = .returned (.tuple #[.int .i64 (decR bs), .int .i64 (decE bs)]) ∧ Below w.heap.size w w' := by
  unfold maxLen at hm
  by_cases h4 : bs.length ≤ 4
  · have d4 : decide ((4 : Int) < (bs.length : Int)) = false := by simp; omega
    have HI := Lib.hid hI
    clear hI
    go_enter Try.func13, Try.ntmps13
    go_wp2
    go_loop [4, 5, 6, 7] (fun n u b i => ∃ k : Nat, k ≤ bs.length ∧ i = .int .i64 (k : Int) ∧ n = .int .i64 (midN bs k : Int) ∧ u = .int .i64 ((256 ^ k : Nat) : Int) ∧ b = .bool (midB bs k)) (fun _ _ _ i => bs.length - (intOf i).toNat)
    case atStart => exact ⟨0, by omega, rfl, by rw [(mid_zero bs).1]; rfl, rfl, by rw [(mid_zero bs).2]⟩
    case round =>
      obtain ⟨k, hk, rfl, rfl, rfl, rfl⟩ := hrel
      by_cases hlt : k < bs.length
      · obtain ⟨b, off, rfl, hb, hc⟩ := HI.out.at_ hlt
        have hmn : midN bs k = valN (bs.take k) := by unfold midN; rw [if_pos hlt]
        have hmb : midB bs k = false := by unfold midB; rw [if_pos hlt]
        rw [hmn, hmb]
        have hvl := take_lt bs k (by omega)
        obtain ⟨x, hx⟩ : ∃ x, bs[k] = x := ⟨_, rfl⟩
        have hmore := mid_more hlt hx
        have hdone := mid_done hlt hx
        rw [hx] at hc
        have hub := UInt8.toNat_lt x
        obtain ⟨V, hV⟩ : ∃ V, valN (bs.take k) = V := ⟨_, rfl⟩
        rw [hV] at hvl hmore hdone
        rw [hV]
        clear hmn hmb hx hV
        have hk4 : k = 0 ∨ k = 1 ∨ k = 2 ∨ k = 3 := by omega
        rcases hk4 with hk3 | hk3 | hk3 | hk3
        · have hU : 256 ^ k = 1 := by rw [hk3]
          have HU := Lib.hid (show ((256 ^ (k + 1) : Nat) : Int) = 1 * 256 by rw [hk3]; rfl)
          rw [hU] at hvl hmore hdone ⊢
          have hV : V < 1 := hvl
          clear hvl hk3 hU
          by_cases hl : k + 1 = bs.length
          · have e1 : ((k : Int) == (bs.length : Int) - 1) = true := by simp; omega
            obtain ⟨q1, q2⟩ := hdone hl
            clear hmore hdone
            by_cases hx : 128 ≤ x.toNat
            · have e2 : decide ((128 : Int) ≤ (x.toNat : Int)) = true := by simp; omega
              have Q1 := Lib.hid (show (midN bs (k + 1) : Int) = (V : Int) + ((x.toNat : Int) - 128) * 1 by rw [q1, show x.toNat % 128 = x.toNat - 128 by omega]; omega)
              have Q2 := Lib.hid (show midB bs (k + 1) = true by rw [q2]; simpa using hx)
              clear q1 q2
              go_wp2
              go_round
              case rel => exact ⟨k + 1, by omega, by go_num, by rw [Q1.out]; first | done | exact val_int8 _ (by omega), by rw [HU.out]; first | done | exact val_int8 _ (by omega), by rw [Q2.out]⟩
              case measure => simp [intOf]; omega
            · have e2 : decide ((128 : Int) ≤ (x.toNat : Int)) = false := by simp; omega
              have Q1 := Lib.hid (show (midN bs (k + 1) : Int) = (V : Int) + (x.toNat : Int) * 1 by rw [q1, show x.toNat % 128 = x.toNat by omega]; omega)
              have Q2 := Lib.hid (show midB bs (k + 1) = false by rw [q2]; simpa using hx)
              clear q1 q2
              go_wp2
              go_round
              case rel => exact ⟨k + 1, by omega, by go_num, by rw [Q1.out]; first | done | exact val_int8 _ (by omega), by rw [HU.out]; first | done | exact val_int8 _ (by omega), by rw [Q2.out]⟩
              case measure => simp [intOf]; omega
          · have e1 : ((k : Int) == (bs.length : Int) - 1) = false := by simp; omega
            obtain ⟨q1, q2⟩ := hmore (by omega)
            clear hmore hdone
            have Q1 := Lib.hid (show (midN bs (k + 1) : Int) = (V : Int) + (x.toNat : Int) * 1 by rw [q1]; omega)
            have Q2 := Lib.hid q2
            clear q1 q2
            go_wp2
            go_round
            case rel => exact ⟨k + 1, by omega, by go_num, by rw [Q1.out]; first | done | exact val_int8 _ (by omega), by rw [HU.out]; first | done | exact val_int8 _ (by omega), by rw [Q2.out]⟩
            case measure => simp [intOf]; omega
        · have hU : 256 ^ k = 256 := by rw [hk3]
          have HU := Lib.hid (show ((256 ^ (k + 1) : Nat) : Int) = 256 * 256 by rw [hk3]; rfl)
          rw [hU] at hvl hmore hdone ⊢
          have hV : V < 256 := hvl
          clear hvl hk3 hU
          by_cases hl : k + 1 = bs.length
          · have e1 : ((k : Int) == (bs.length : Int) - 1) = true := by simp; omega
            obtain ⟨q1, q2⟩ := hdone hl
            clear hmore hdone
            by_cases hx : 128 ≤ x.toNat
            · have e2 : decide ((128 : Int) ≤ (x.toNat : Int)) = true := by simp; omega
              have Q1 := Lib.hid (show (midN bs (k + 1) : Int) = (V : Int) + ((x.toNat : Int) - 128) * 256 by rw [q1, show x.toNat % 128 = x.toNat - 128 by omega]; omega)
              have Q2 := Lib.hid (show midB bs (k + 1) = true by rw [q2]; simpa using hx)
              clear q1 q2
              go_wp2
              go_round
              case rel => exact ⟨k + 1, by omega, by go_num, by rw [Q1.out]; first | done | exact val_int8 _ (by omega), by rw [HU.out]; first | done | exact val_int8 _ (by omega), by rw [Q2.out]⟩
              case measure => simp [intOf]; omega
            · have e2 : decide ((128 : Int) ≤ (x.toNat : Int)) = false := by simp; omega
              have Q1 := Lib.hid (show (midN bs (k + 1) : Int) = (V : Int) + (x.toNat : Int) * 256 by rw [q1, show x.toNat % 128 = x.toNat by omega]; omega)
              have Q2 := Lib.hid (show midB bs (k + 1) = false by rw [q2]; simpa using hx)
              clear q1 q2
              go_wp2
              go_round
              case rel => exact ⟨k + 1, by omega, by go_num, by rw [Q1.out]; first | done | exact val_int8 _ (by omega), by rw [HU.out]; first | done | exact val_int8 _ (by omega), by rw [Q2.out]⟩
              case measure => simp [intOf]; omega
          · have e1 : ((k : Int) == (bs.length : Int) - 1) = false := by simp; omega
            obtain ⟨q1, q2⟩ := hmore (by omega)
            clear hmore hdone
            have Q1 := Lib.hid (show (midN bs (k + 1) : Int) = (V : Int) + (x.toNat : Int) * 256 by rw [q1]; omega)
            have Q2 := Lib.hid q2
            clear q1 q2
            go_wp2
            go_round
            case rel => exact ⟨k + 1, by omega, by go_num, by rw [Q1.out]; first | done | exact val_int8 _ (by omega), by rw [HU.out]; first | done | exact val_int8 _ (by omega), by rw [Q2.out]⟩
            case measure => simp [intOf]; omega
        · have hU : 256 ^ k = 65536 := by rw [hk3]
          have HU := Lib.hid (show ((256 ^ (k + 1) : Nat) : Int) = 65536 * 256 by rw [hk3]; rfl)
          rw [hU] at hvl hmore hdone ⊢
          have hV : V < 65536 := hvl
          clear hvl hk3 hU
          by_cases hl : k + 1 = bs.length
          · have e1 : ((k : Int) == (bs.length : Int) - 1) = true := by simp; omega
            obtain ⟨q1, q2⟩ := hdone hl
            clear hmore hdone
            by_cases hx : 128 ≤ x.toNat
            · have e2 : decide ((128 : Int) ≤ (x.toNat : Int)) = true := by simp; omega
              have Q1 := Lib.hid (show (midN bs (k + 1) : Int) = (V : Int) + ((x.toNat : Int) - 128) * 65536 by rw [q1, show x.toNat % 128 = x.toNat - 128 by omega]; omega)
              have Q2 := Lib.hid (show midB bs (k + 1) = true by rw [q2]; simpa using hx)
              clear q1 q2
              go_wp2
              go_round
              case rel => exact ⟨k + 1, by omega, by go_num, by rw [Q1.out]; first | done | exact val_int8 _ (by omega), by rw [HU.out]; first | done | exact val_int8 _ (by omega), by rw [Q2.out]⟩
              case measure => simp [intOf]; omega
            · have e2 : decide ((128 : Int) ≤ (x.toNat : Int)) = false := by simp; omega
              have Q1 := Lib.hid (show (midN bs (k + 1) : Int) = (V : Int) + (x.toNat : Int) * 65536 by rw [q1, show x.toNat % 128 = x.toNat by omega]; omega)
              have Q2 := Lib.hid (show midB bs (k + 1) = false by rw [q2]; simpa using hx)
              clear q1 q2
              go_wp2
              go_round
              case rel => exact ⟨k + 1, by omega, by go_num, by rw [Q1.out]; first | done | exact val_int8 _ (by omega), by rw [HU.out]; first | done | exact val_int8 _ (by omega), by rw [Q2.out]⟩
              case measure => simp [intOf]; omega
          · have e1 : ((k : Int) == (bs.length : Int) - 1) = false := by simp; omega
            obtain ⟨q1, q2⟩ := hmore (by omega)
            clear hmore hdone
            have Q1 := Lib.hid (show (midN bs (k + 1) : Int) = (V : Int) + (x.toNat : Int) * 65536 by rw [q1]; omega)
            have Q2 := Lib.hid q2
            clear q1 q2
            go_wp2
            go_round
            case rel => exact ⟨k + 1, by omega, by go_num, by rw [Q1.out]; first | done | exact val_int8 _ (by omega), by rw [HU.out]; first | done | exact val_int8 _ (by omega), by rw [Q2.out]⟩
            case measure => simp [intOf]; omega
        · have hU : 256 ^ k = 16777216 := by rw [hk3]
          have HU := Lib.hid (show ((256 ^ (k + 1) : Nat) : Int) = 16777216 * 256 by rw [hk3]; rfl)
          rw [hU] at hvl hmore hdone ⊢
          have hV : V < 16777216 := hvl
          clear hvl hk3 hU
          by_cases hl : k + 1 = bs.length
          · have e1 : ((k : Int) == (bs.length : Int) - 1) = true := by simp; omega
            obtain ⟨q1, q2⟩ := hdone hl
            clear hmore hdone
            by_cases hx : 128 ≤ x.toNat
            · have e2 : decide ((128 : Int) ≤ (x.toNat : Int)) = true := by simp; omega
              have Q1 := Lib.hid (show (midN bs (k + 1) : Int) = (V : Int) + ((x.toNat : Int) - 128) * 16777216 by rw [q1, show x.toNat % 128 = x.toNat - 128 by omega]; omega)
              have Q2 := Lib.hid (show midB bs (k + 1) = true by rw [q2]; simpa using hx)
              clear q1 q2
              go_wp2
              go_round
              case rel => exact ⟨k + 1, by omega, by go_num, by rw [Q1.out]; first | done | exact val_int8 _ (by omega), by rw [HU.out]; first | done | exact val_int8 _ (by omega), by rw [Q2.out]⟩
              case measure => simp [intOf]; omega
            · have e2 : decide ((128 : Int) ≤ (x.toNat : Int)) = false := by simp; omega
              have Q1 := Lib.hid (show (midN bs (k + 1) : Int) = (V : Int) + (x.toNat : Int) * 16777216 by rw [q1, show x.toNat % 128 = x.toNat by omega]; omega)
              have Q2 := Lib.hid (show midB bs (k + 1) = false by rw [q2]; simpa using hx)
              clear q1 q2
              go_wp2
              go_round
              case rel => exact ⟨k + 1, by omega, by go_num, by rw [Q1.out]; first | done | exact val_int8 _ (by omega), by rw [HU.out]; first | done | exact val_int8 _ (by omega), by rw [Q2.out]⟩
              case measure => simp [intOf]; omega
          · have e1 : ((k : Int) == (bs.length : Int) - 1) = false := by simp; omega
            obtain ⟨q1, q2⟩ := hmore (by omega)
            clear hmore hdone
            have Q1 := Lib.hid (show (midN bs (k + 1) : Int) = (V : Int) + (x.toNat : Int) * 16777216 by rw [q1]; omega)
            have Q2 := Lib.hid q2
            clear q1 q2
            go_wp2
            go_round
            case rel => exact ⟨k + 1, by omega, by go_num, by rw [Q1.out]; first | done | exact val_int8 _ (by omega), by rw [HU.out]; first | done | exact val_int8 _ (by omega), by rw [Q2.out]⟩
            case measure => simp [intOf]; omega
      · have hkl : k = bs.length := by omega
        have HN := Lib.hid (show midN bs k = (decV bs).natAbs by unfold midN; rw [if_neg hlt])
        have HB := Lib.hid (show midB bs k = decide (128 ≤ (bs.getLastD 0).toNat) by unfold midB; rw [if_neg hlt])
        rw [HN.out, HB.out]
        have HS := Lib.hid (decV_sign bs)
        have HD := Lib.hid (decV_small h4)
        by_cases h128 : 128 ≤ (bs.getLastD 0).toNat
        · have HV := Lib.hid (HS.out.1 h128)
          rw [show decide (128 ≤ (bs.getLastD 0).toNat) = true by simpa using h128]
          obtain ⟨M, hM⟩ : ∃ M, (decV bs).natAbs = M := ⟨_, rfl⟩
          rw [hM] at HV HD ⊢
          have hMb : M ≤ 2147483647 := HD.out
          clear hM
          have HRB := Lib.hid (refBytes_any (-(M : Int)) (by omega) (by omega))
          by_cases hok : okB bs = true
          · have HEN := Lib.hid (show encB (-(M : Int)) = bs by rw [← HV.out]; exact encB_decV bs hok)
            have HR := Lib.hid (show decR bs = (-(M : Int)) by unfold decR; rw [if_pos hok, HV.out])
            have HE := Lib.hid (show decE bs = 0 by unfold decE; rw [if_pos hok])
            clear hok
            go_wp2_with fail
            refine wp_region_tys 51 rfl [.is (.int .i64 (-(M : Int))), .bytes bs, .is (.string ⟨bs.toArray⟩), .is (.slice A bs.length cap), .is (.string ⟨bs.toArray⟩), .is (.bool false)] (by kernel_rfl) (by kernel_rfl) (by kernel_rfl) (by kernel_rfl) (by kernel_rfl) (by kernel_rfl) ⟨?ob0, ?ob1, ?ob2, ?ob3, ?ob4, ?ob5, trivial⟩ ?obend
            case ob0 =>
              intro vals W0 F hF hS hd
              have E4 : F.eval (.tmp 4) = .int .i64 (-(M : Int)) := hF.out_ (by kernel_rfl) rfl
              refine .inr ⟨wanted_none rfl, .inl ⟨.int .i64 (-(M : Int)), ?_, Ty.of_is rfl⟩⟩
              simp only [execOp, E4, Sem.run_pure]
            case ob1 =>
              intro vals W0 F hF hS hd
              have d0 : vals 0 = .int .i64 (-(M : Int)) := hd ⟨0, .data⟩ (Array.mem_of_getElem? (i := 0) rfl) rfl
              have E44 := eval_some (hF.own_ 0 rfl rfl (by decide)); rw [d0] at E44
              refine .inr ⟨wanted_none rfl, ?_⟩
              refine .inr ⟨30, #[.int .i64 (-(M : Int))], ?_, Calls.mono (HRB.out W0) ?_⟩
              · have Ec : ∀ v, F.eval (.const v) = v := fun _ => rfl; have Ef : ∀ f, F.eval (.func f) = .func (.func f) #[] #[] := fun _ => rfl; clear hF hd; generalize F.eval = ρ at E44 Ec Ef ⊢
                simp [execOp, go_sem, Ec, Ef, E44]
              rintro e W1 ⟨A5, c5, rfl, hh5, _, hb5⟩
              exact ⟨_, rfl, hb5, A5, c5, by rw [HEN.out], HEN.out ▸ hh5⟩
            case ob2 =>
              intro vals W0 F hF hS hd
              obtain ⟨A5, c5, hspec1, hh5⟩ := hd ⟨1, .data⟩ (Array.mem_of_getElem? (i := 0) rfl) rfl
              have d1 : vals 1 = .slice A5 bs.length c5 := hspec1
              have E45 := eval_some (hF.own_ 1 rfl rfl (by decide)); rw [d1] at E45
              refine .inr ⟨wanted_none rfl, ?_⟩
              refine .inl ⟨.string ⟨bs.toArray⟩, ?_, Ty.of_is rfl⟩
              have q := str_of hh5 c5
              have Ec : ∀ v, F.eval (.const v) = v := fun _ => rfl; have Ef : ∀ f, F.eval (.func f) = .func (.func f) #[] #[] := fun _ => rfl; clear hF hd; generalize F.eval = ρ at E45 Ec Ef ⊢
              simp [execOp, go_sem, Ec, E45, q]
            case ob3 =>
              intro vals W0 F hF hS hd
              have E0 : F.eval (.tmp 0) = .slice A bs.length cap := hF.out_ (by kernel_rfl) rfl
              refine .inr ⟨wanted_none rfl, .inl ⟨.slice A bs.length cap, ?_, Ty.of_is rfl⟩⟩
              simp only [execOp, E0, Sem.run_pure]
            case ob4 =>
              intro vals W0 F hF hS hd
              have d3 : vals 3 = .slice A bs.length cap := hd ⟨3, .data⟩ (Array.mem_of_getElem? (i := 0) rfl) rfl
              have E47 := eval_some (hF.own_ 3 rfl rfl (by decide)); rw [d3] at E47
              refine .inr ⟨wanted_none rfl, ?_⟩
              refine .inl ⟨.string ⟨bs.toArray⟩, ?_, Ty.of_is rfl⟩
              have q := str_of (HI.out.later hS) cap
              have Ec : ∀ v, F.eval (.const v) = v := fun _ => rfl; have Ef : ∀ f, F.eval (.func f) = .func (.func f) #[] #[] := fun _ => rfl; clear hF hd; generalize F.eval = ρ at E47 Ec Ef ⊢
              simp [execOp, go_sem, Ec, E47, q]
            case ob5 =>
              intro vals W0 F hF hS hd
              have d2 : vals 2 = .string ⟨bs.toArray⟩ := hd ⟨2, .data⟩ (Array.mem_of_getElem? (i := 0) rfl) rfl
              have d4 : vals 4 = .string ⟨bs.toArray⟩ := hd ⟨4, .data⟩ (Array.mem_of_getElem? (i := 1) rfl) rfl
              have E46 := eval_some (hF.own_ 2 rfl rfl (by decide)); rw [d2] at E46
              have E48 := eval_some (hF.own_ 4 rfl rfl (by decide)); rw [d4] at E48
              refine .inr ⟨wanted_none rfl, ?_⟩
              refine .inl ⟨.bool false, ?_, Ty.of_is rfl⟩
              have Ec : ∀ v, F.eval (.const v) = v := fun _ => rfl; have Ef : ∀ f, F.eval (.func f) = .func (.func f) #[] #[] := fun _ => rfl; clear hF hd; generalize F.eval = ρ at E46 E48 Ec Ef ⊢
              simp [execOp, go_sem, Ec, E46, E48]
            case obend =>
              intro vals W0 F hF hdef hS hT
              have d0 : vals 0 = .int .i64 (-(M : Int)) := hT 0 (by decide)
              have d3 : vals 3 = .slice A bs.length cap := hT 3 (by decide)
              have d5 : vals 5 = .bool false := hT 5 (by decide)
              rename_i K hK _
              refine hK _ _ ?_
              rw [hF.act]
              simp only [fin, Act.put, List.setIfInBounds_toArray, List.set_cons_succ, List.set_cons_zero, d0, d3, d5]
              clear hF hT d0 d3 d5
              go_wp2
              go_ret2
              exact ⟨by rw [HR.out, HE.out]; rfl, hS⟩
          · have HEN := Lib.hid (show ¬ encB (-(M : Int)) = bs by rw [← HV.out]; exact fun e => hok ((ok_iff h4).1 e))
            have HR := Lib.hid (show decR bs = 0 by unfold decR; rw [if_neg hok])
            have HE := Lib.hid (show decE bs = 110 by unfold decE; rw [if_neg hok])
            clear hok
            go_wp2_with fail
            refine wp_region_tys 51 rfl [.is (.int .i64 (-(M : Int))), .bytes (encB (-(M : Int))), .is (.string ⟨(encB (-(M : Int))).toArray⟩), .is (.slice A bs.length cap), .is (.string ⟨bs.toArray⟩), .is (.bool true)] (by kernel_rfl) (by kernel_rfl) (by kernel_rfl) (by kernel_rfl) (by kernel_rfl) (by kernel_rfl) ⟨?ob0, ?ob1, ?ob2, ?ob3, ?ob4, ?ob5, trivial⟩ ?obend
            case ob0 =>
              intro vals W0 F hF hS hd
              have E4 : F.eval (.tmp 4) = .int .i64 (-(M : Int)) := hF.out_ (by kernel_rfl) rfl
              refine .inr ⟨wanted_none rfl, .inl ⟨.int .i64 (-(M : Int)), ?_, Ty.of_is rfl⟩⟩
              simp only [execOp, E4, Sem.run_pure]
            case ob1 =>
              intro vals W0 F hF hS hd
              have d0 : vals 0 = .int .i64 (-(M : Int)) := hd ⟨0, .data⟩ (Array.mem_of_getElem? (i := 0) rfl) rfl
              have E44 := eval_some (hF.own_ 0 rfl rfl (by decide)); rw [d0] at E44
              refine .inr ⟨wanted_none rfl, ?_⟩
              refine .inr ⟨30, #[.int .i64 (-(M : Int))], ?_, Calls.mono (HRB.out W0) ?_⟩
              · have Ec : ∀ v, F.eval (.const v) = v := fun _ => rfl; have Ef : ∀ f, F.eval (.func f) = .func (.func f) #[] #[] := fun _ => rfl; clear hF hd; generalize F.eval = ρ at E44 Ec Ef ⊢
                simp [execOp, go_sem, Ec, Ef, E44]
              rintro e W1 ⟨A5, c5, rfl, hh5, _, hb5⟩
              exact ⟨_, rfl, hb5, A5, c5, rfl, hh5⟩
            case ob2 =>
              intro vals W0 F hF hS hd
              obtain ⟨A5, c5, hspec1, hh5⟩ := hd ⟨1, .data⟩ (Array.mem_of_getElem? (i := 0) rfl) rfl
              have d1 : vals 1 = .slice A5 (encB (-(M : Int))).length c5 := hspec1
              have E45 := eval_some (hF.own_ 1 rfl rfl (by decide)); rw [d1] at E45
              refine .inr ⟨wanted_none rfl, ?_⟩
              refine .inl ⟨.string ⟨(encB (-(M : Int))).toArray⟩, ?_, Ty.of_is rfl⟩
              have q := str_of hh5 c5
              have Ec : ∀ v, F.eval (.const v) = v := fun _ => rfl; have Ef : ∀ f, F.eval (.func f) = .func (.func f) #[] #[] := fun _ => rfl; clear hF hd; generalize F.eval = ρ at E45 Ec Ef ⊢
              simp [execOp, go_sem, Ec, E45, q]
            case ob3 =>
              intro vals W0 F hF hS hd
              have E0 : F.eval (.tmp 0) = .slice A bs.length cap := hF.out_ (by kernel_rfl) rfl
              refine .inr ⟨wanted_none rfl, .inl ⟨.slice A bs.length cap, ?_, Ty.of_is rfl⟩⟩
              simp only [execOp, E0, Sem.run_pure]
            case ob4 =>
              intro vals W0 F hF hS hd
              have d3 : vals 3 = .slice A bs.length cap := hd ⟨3, .data⟩ (Array.mem_of_getElem? (i := 0) rfl) rfl
              have E47 := eval_some (hF.own_ 3 rfl rfl (by decide)); rw [d3] at E47
              refine .inr ⟨wanted_none rfl, ?_⟩
              refine .inl ⟨.string ⟨bs.toArray⟩, ?_, Ty.of_is rfl⟩
              have q := str_of (HI.out.later hS) cap
              have Ec : ∀ v, F.eval (.const v) = v := fun _ => rfl; have Ef : ∀ f, F.eval (.func f) = .func (.func f) #[] #[] := fun _ => rfl; clear hF hd; generalize F.eval = ρ at E47 Ec Ef ⊢
              simp [execOp, go_sem, Ec, E47, q]
            case ob5 =>
              intro vals W0 F hF hS hd
              have d2 : vals 2 = .string ⟨(encB (-(M : Int))).toArray⟩ := hd ⟨2, .data⟩ (Array.mem_of_getElem? (i := 0) rfl) rfl
              have d4 : vals 4 = .string ⟨bs.toArray⟩ := hd ⟨4, .data⟩ (Array.mem_of_getElem? (i := 1) rfl) rfl
              have E46 := eval_some (hF.own_ 2 rfl rfl (by decide)); rw [d2] at E46
              have E48 := eval_some (hF.own_ 4 rfl rfl (by decide)); rw [d4] at E48
              refine .inr ⟨wanted_none rfl, ?_⟩
              refine .inl ⟨.bool true, ?_, Ty.of_is rfl⟩
              have Ec : ∀ v, F.eval (.const v) = v := fun _ => rfl; have Ef : ∀ f, F.eval (.func f) = .func (.func f) #[] #[] := fun _ => rfl; clear hF hd; generalize F.eval = ρ at E46 E48 Ec Ef ⊢
              have hne := HEN.out
              simp [execOp, go_sem, Ec, E46, E48, hne]
            case obend =>
              intro vals W0 F hF hdef hS hT
              have d0 : vals 0 = .int .i64 (-(M : Int)) := hT 0 (by decide)
              have d3 : vals 3 = .slice A bs.length cap := hT 3 (by decide)
              have d5 : vals 5 = .bool true := hT 5 (by decide)
              rename_i K hK _
              refine hK _ _ ?_
              rw [hF.act]
              simp only [fin, Act.put, List.setIfInBounds_toArray, List.set_cons_succ, List.set_cons_zero, d0, d3, d5]
              clear hF hT d0 d3 d5
              go_wp2
              go_ret2
              exact ⟨by rw [HR.out, HE.out]; rfl, hS⟩
        · have HV := Lib.hid (HS.out.2 h128)
          rw [show decide (128 ≤ (bs.getLastD 0).toNat) = false by simpa using h128]
          obtain ⟨M, hM⟩ : ∃ M, (decV bs).natAbs = M := ⟨_, rfl⟩
          rw [hM] at HV HD ⊢
          have hMb : M ≤ 2147483647 := HD.out
          clear hM
          have HRB := Lib.hid (refBytes_any ((M : Int)) (by omega) (by omega))
          by_cases hok : okB bs = true
          · have HEN := Lib.hid (show encB ((M : Int)) = bs by rw [← HV.out]; exact encB_decV bs hok)
            have HR := Lib.hid (show decR bs = ((M : Int)) by unfold decR; rw [if_pos hok, HV.out])
            have HE := Lib.hid (show decE bs = 0 by unfold decE; rw [if_pos hok])
            clear hok
            go_wp2_with fail
            refine wp_region_tys 51 rfl [.is (.int .i64 ((M : Int))), .bytes bs, .is (.string ⟨bs.toArray⟩), .is (.slice A bs.length cap), .is (.string ⟨bs.toArray⟩), .is (.bool false)] (by kernel_rfl) (by kernel_rfl) (by kernel_rfl) (by kernel_rfl) (by kernel_rfl) (by kernel_rfl) ⟨?ob0, ?ob1, ?ob2, ?ob3, ?ob4, ?ob5, trivial⟩ ?obend
            case ob0 =>
              intro vals W0 F hF hS hd
              have E4 : F.eval (.tmp 4) = .int .i64 ((M : Int)) := hF.out_ (by kernel_rfl) rfl
              refine .inr ⟨wanted_none rfl, .inl ⟨.int .i64 ((M : Int)), ?_, Ty.of_is rfl⟩⟩
              simp only [execOp, E4, Sem.run_pure]
            case ob1 =>
              intro vals W0 F hF hS hd
              have d0 : vals 0 = .int .i64 ((M : Int)) := hd ⟨0, .data⟩ (Array.mem_of_getElem? (i := 0) rfl) rfl
              have E44 := eval_some (hF.own_ 0 rfl rfl (by decide)); rw [d0] at E44
              refine .inr ⟨wanted_none rfl, ?_⟩
              refine .inr ⟨30, #[.int .i64 ((M : Int))], ?_, Calls.mono (HRB.out W0) ?_⟩
              · have Ec : ∀ v, F.eval (.const v) = v := fun _ => rfl; have Ef : ∀ f, F.eval (.func f) = .func (.func f) #[] #[] := fun _ => rfl; clear hF hd; generalize F.eval = ρ at E44 Ec Ef ⊢
                simp [execOp, go_sem, Ec, Ef, E44]
              rintro e W1 ⟨A5, c5, rfl, hh5, _, hb5⟩
              exact ⟨_, rfl, hb5, A5, c5, by rw [HEN.out], HEN.out ▸ hh5⟩
            case ob2 =>
              intro vals W0 F hF hS hd
              obtain ⟨A5, c5, hspec1, hh5⟩ := hd ⟨1, .data⟩ (Array.mem_of_getElem? (i := 0) rfl) rfl
              have d1 : vals 1 = .slice A5 bs.length c5 := hspec1
              have E45 := eval_some (hF.own_ 1 rfl rfl (by decide)); rw [d1] at E45
              refine .inr ⟨wanted_none rfl, ?_⟩
              refine .inl ⟨.string ⟨bs.toArray⟩, ?_, Ty.of_is rfl⟩
              have q := str_of hh5 c5
              have Ec : ∀ v, F.eval (.const v) = v := fun _ => rfl; have Ef : ∀ f, F.eval (.func f) = .func (.func f) #[] #[] := fun _ => rfl; clear hF hd; generalize F.eval = ρ at E45 Ec Ef ⊢
              simp [execOp, go_sem, Ec, E45, q]
            case ob3 =>
              intro vals W0 F hF hS hd
              have E0 : F.eval (.tmp 0) = .slice A bs.length cap := hF.out_ (by kernel_rfl) rfl
              refine .inr ⟨wanted_none rfl, .inl ⟨.slice A bs.length cap, ?_, Ty.of_is rfl⟩⟩
              simp only [execOp, E0, Sem.run_pure]
            case ob4 =>
              intro vals W0 F hF hS hd
              have d3 : vals 3 = .slice A bs.length cap := hd ⟨3, .data⟩ (Array.mem_of_getElem? (i := 0) rfl) rfl
              have E47 := eval_some (hF.own_ 3 rfl rfl (by decide)); rw [d3] at E47
              refine .inr ⟨wanted_none rfl, ?_⟩
              refine .inl ⟨.string ⟨bs.toArray⟩, ?_, Ty.of_is rfl⟩
              have q := str_of (HI.out.later hS) cap
              have Ec : ∀ v, F.eval (.const v) = v := fun _ => rfl; have Ef : ∀ f, F.eval (.func f) = .func (.func f) #[] #[] := fun _ => rfl; clear hF hd; generalize F.eval = ρ at E47 Ec Ef ⊢
              simp [execOp, go_sem, Ec, E47, q]
            case ob5 =>
              intro vals W0 F hF hS hd
              have d2 : vals 2 = .string ⟨bs.toArray⟩ := hd ⟨2, .data⟩ (Array.mem_of_getElem? (i := 0) rfl) rfl
              have d4 : vals 4 = .string ⟨bs.toArray⟩ := hd ⟨4, .data⟩ (Array.mem_of_getElem? (i := 1) rfl) rfl
              have E46 := eval_some (hF.own_ 2 rfl rfl (by decide)); rw [d2] at E46
              have E48 := eval_some (hF.own_ 4 rfl rfl (by decide)); rw [d4] at E48
              refine .inr ⟨wanted_none rfl, ?_⟩
              refine .inl ⟨.bool false, ?_, Ty.of_is rfl⟩
              have Ec : ∀ v, F.eval (.const v) = v := fun _ => rfl; have Ef : ∀ f, F.eval (.func f) = .func (.func f) #[] #[] := fun _ => rfl; clear hF hd; generalize F.eval = ρ at E46 E48 Ec Ef ⊢
              simp [execOp, go_sem, Ec, E46, E48]
            case obend =>
              intro vals W0 F hF hdef hS hT
              have d0 : vals 0 = .int .i64 ((M : Int)) := hT 0 (by decide)
              have d3 : vals 3 = .slice A bs.length cap := hT 3 (by decide)
              have d5 : vals 5 = .bool false := hT 5 (by decide)
              rename_i K hK _
              refine hK _ _ ?_
              rw [hF.act]
              simp only [fin, Act.put, List.setIfInBounds_toArray, List.set_cons_succ, List.set_cons_zero, d0, d3, d5]
              clear hF hT d0 d3 d5
              go_wp2
              go_ret2
              exact ⟨by rw [HR.out, HE.out]; rfl, hS⟩
          · have HEN := Lib.hid (show ¬ encB ((M : Int)) = bs by rw [← HV.out]; exact fun e => hok ((ok_iff h4).1 e))
            have HR := Lib.hid (show decR bs = 0 by unfold decR; rw [if_neg hok])
            have HE := Lib.hid (show decE bs = 110 by unfold decE; rw [if_neg hok])
            clear hok
            go_wp2_with fail
            refine wp_region_tys 51 rfl [.is (.int .i64 ((M : Int))), .bytes (encB ((M : Int))), .is (.string ⟨(encB ((M : Int))).toArray⟩), .is (.slice A bs.length cap), .is (.string ⟨bs.toArray⟩), .is (.bool true)] (by kernel_rfl) (by kernel_rfl) (by kernel_rfl) (by kernel_rfl) (by kernel_rfl) (by kernel_rfl) ⟨?ob0, ?ob1, ?ob2, ?ob3, ?ob4, ?ob5, trivial⟩ ?obend
            case ob0 =>
              intro vals W0 F hF hS hd
              have E4 : F.eval (.tmp 4) = .int .i64 ((M : Int)) := hF.out_ (by kernel_rfl) rfl
              refine .inr ⟨wanted_none rfl, .inl ⟨.int .i64 ((M : Int)), ?_, Ty.of_is rfl⟩⟩
              simp only [execOp, E4, Sem.run_pure]
            case ob1 =>
              intro vals W0 F hF hS hd
              have d0 : vals 0 = .int .i64 ((M : Int)) := hd ⟨0, .data⟩ (Array.mem_of_getElem? (i := 0) rfl) rfl
              have E44 := eval_some (hF.own_ 0 rfl rfl (by decide)); rw [d0] at E44
              refine .inr ⟨wanted_none rfl, ?_⟩
              refine .inr ⟨30, #[.int .i64 ((M : Int))], ?_, Calls.mono (HRB.out W0) ?_⟩
              · have Ec : ∀ v, F.eval (.const v) = v := fun _ => rfl; have Ef : ∀ f, F.eval (.func f) = .func (.func f) #[] #[] := fun _ => rfl; clear hF hd; generalize F.eval = ρ at E44 Ec Ef ⊢
                simp [execOp, go_sem, Ec, Ef, E44]
              rintro e W1 ⟨A5, c5, rfl, hh5, _, hb5⟩
              exact ⟨_, rfl, hb5, A5, c5, rfl, hh5⟩
            case ob2 =>
              intro vals W0 F hF hS hd
              obtain ⟨A5, c5, hspec1, hh5⟩ := hd ⟨1, .data⟩ (Array.mem_of_getElem? (i := 0) rfl) rfl
              have d1 : vals 1 = .slice A5 (encB ((M : Int))).length c5 := hspec1
              have E45 := eval_some (hF.own_ 1 rfl rfl (by decide)); rw [d1] at E45
              refine .inr ⟨wanted_none rfl, ?_⟩
              refine .inl ⟨.string ⟨(encB ((M : Int))).toArray⟩, ?_, Ty.of_is rfl⟩
              have q := str_of hh5 c5
              have Ec : ∀ v, F.eval (.const v) = v := fun _ => rfl; have Ef : ∀ f, F.eval (.func f) = .func (.func f) #[] #[] := fun _ => rfl; clear hF hd; generalize F.eval = ρ at E45 Ec Ef ⊢
              simp [execOp, go_sem, Ec, E45, q]
            case ob3 =>
              intro vals W0 F hF hS hd
              have E0 : F.eval (.tmp 0) = .slice A bs.length cap := hF.out_ (by kernel_rfl) rfl
              refine .inr ⟨wanted_none rfl, .inl ⟨.slice A bs.length cap, ?_, Ty.of_is rfl⟩⟩
              simp only [execOp, E0, Sem.run_pure]
            case ob4 =>
              intro vals W0 F hF hS hd
              have d3 : vals 3 = .slice A bs.length cap := hd ⟨3, .data⟩ (Array.mem_of_getElem? (i := 0) rfl) rfl
              have E47 := eval_some (hF.own_ 3 rfl rfl (by decide)); rw [d3] at E47
              refine .inr ⟨wanted_none rfl, ?_⟩
              refine .inl ⟨.string ⟨bs.toArray⟩, ?_, Ty.of_is rfl⟩
              have q := str_of (HI.out.later hS) cap
              have Ec : ∀ v, F.eval (.const v) = v := fun _ => rfl; have Ef : ∀ f, F.eval (.func f) = .func (.func f) #[] #[] := fun _ => rfl; clear hF hd; generalize F.eval = ρ at E47 Ec Ef ⊢
              simp [execOp, go_sem, Ec, E47, q]
            case ob5 =>
              intro vals W0 F hF hS hd
              have d2 : vals 2 = .string ⟨(encB ((M : Int))).toArray⟩ := hd ⟨2, .data⟩ (Array.mem_of_getElem? (i := 0) rfl) rfl
              have d4 : vals 4 = .string ⟨bs.toArray⟩ := hd ⟨4, .data⟩ (Array.mem_of_getElem? (i := 1) rfl) rfl
              have E46 := eval_some (hF.own_ 2 rfl rfl (by decide)); rw [d2] at E46
              have E48 := eval_some (hF.own_ 4 rfl rfl (by decide)); rw [d4] at E48
              refine .inr ⟨wanted_none rfl, ?_⟩
              refine .inl ⟨.bool true, ?_, Ty.of_is rfl⟩
              have Ec : ∀ v, F.eval (.const v) = v := fun _ => rfl; have Ef : ∀ f, F.eval (.func f) = .func (.func f) #[] #[] := fun _ => rfl; clear hF hd; generalize F.eval = ρ at E46 E48 Ec Ef ⊢
              have hne := HEN.out
              simp [execOp, go_sem, Ec, E46, E48, hne]
            case obend =>
              intro vals W0 F hF hdef hS hT
              have d0 : vals 0 = .int .i64 ((M : Int)) := hT 0 (by decide)
              have d3 : vals 3 = .slice A bs.length cap := hT 3 (by decide)
              have d5 : vals 5 = .bool true := hT 5 (by decide)
              rename_i K hK _
              refine hK _ _ ?_
              rw [hF.act]
              simp only [fin, Act.put, List.setIfInBounds_toArray, List.set_cons_succ, List.set_cons_zero, d0, d3, d5]
              clear hF hT d0 d3 d5
              go_wp2
              go_ret2
              exact ⟨by rw [HR.out, HE.out]; rfl, hS⟩
  · have d4 : (4 : Int) < (bs.length : Int) := by omega
    have HO := Lib.hid (show okB bs = false by unfold okB; simp; omega)
    have HR := Lib.hid (show decR bs = 0 by unfold decR; rw [HO.out]; rfl)
    have HE := Lib.hid (show decE bs = 110 by unfold decE; rw [HO.out]; rfl)
    clear h4 hI
    go_enter Try.func13, Try.ntmps13
    go_wp2
    go_ret2
    exact ⟨by rw [HR.out, HE.out]; rfl, Below.refl _ _⟩
end Go.Proofs.Ytbhopgklnddelaa
