/- The contract of purserref01.Number. No condition beyond its length. -/
import Derived.Test.YtngkckngjobojaaOctW
import Derived.Test.YtngkckngjobojaaReg3
namespace Go.Proofs.Ytngkckngjobojaa.Oct
open Go.Proofs.Ytngkckngjobojaa Go.RowKit Go.Shelf
set_option maxRecDepth 100000 in
set_option maxHeartbeats 2000000 in
theorem refNumber_any (bs : List UInt8) (h8 : bs.length ≤ 8) (n : Nat) (hn : n = bs.length) (A : Option Addr) (c n₀ : Nat) (w : World) (hh : Holds8 n₀ w A bs) (hw : n₀ ≤ w.heap.size) :
    Calls Try.prog 41 #[.slice A n c] w fun e w' => e = .returned (.int .u64 (leNum bs : Int)) ∧ Below w.heap.size w w' := by
  have HN := Lib.hid hn
  have HH := Lib.hid hh
  have hn8 : n ≤ 8 := by omega
  clear hn hh h8
  go_enter Try.func41, Try.ntmps41
  go_wp2
  go_loopw [3, 4] (fun s i wr => ∃ k : Nat, k ≤ n ∧ i = .int .i64 (k : Int) ∧ s = .int .u64 (leNum (bs.take k) : Int) ∧ Below w.heap.size w wr) (fun _ i _ => n - (intOf i).toNat)
  case atStart => exact ⟨0, Nat.zero_le _, rfl, rfl, Below.refl _ _⟩
  case round =>
    obtain ⟨k, hk, rfl, rfl, hB⟩ := hrel
    by_cases hlt : k < n
    · have hkb : k < bs.length := by rw [← HN.out]; exact hlt
      obtain ⟨b, off, rfl, hb, hc⟩ := (HH.out.below hB hw).at_ hkb
      have hsn : leNum (bs.take (k + 1)) = leNum (bs.take k) + bs[k].toNat * 256 ^ k := by
        rw [List.take_succ_eq_append_getElem hkb, leNum_snoc, List.length_take, Nat.min_eq_left (by omega)]
      have hlo : leNum (bs.take (k + 1)) < 256 ^ (k + 1) := by have := leNum_lt (bs.take (k + 1)); rwa [List.length_take, Nat.min_eq_left (by omega)] at this
      have hp8 : 256 ^ (k + 1) ≤ 256 ^ 8 := Nat.pow_le_pow_right (by decide) (by omega)
      have HPW := Lib.hid (power_any k (by omega))
      obtain ⟨x, hx⟩ : ∃ x, bs[k] = x := ⟨_, rfl⟩
      rw [hx] at hc hsn
      clear hx
      obtain ⟨s, hs⟩ : ∃ s, leNum (bs.take k) = s := ⟨_, rfl⟩
      rw [hs] at hsn ⊢
      clear hs
      rw [hsn] at hlo
      obtain ⟨P, hP⟩ : ∃ P, 256 ^ k = P := ⟨_, rfl⟩
      rw [hP] at hsn hlo HPW
      obtain ⟨M, hM⟩ : ∃ M, x.toNat * P = M := ⟨_, rfl⟩
      rw [hM] at hsn hlo
      have hMi : (x.toNat : Int) * (P : Int) = (M : Int) := by rw [← hM, Int.natCast_mul]
      have hbound : s + M < 18446744073709551616 := by
        have : (256 : Nat) ^ 8 = 18446744073709551616 := by decide
        omega
      have HS := Lib.hid hsn
      have hub := UInt8.toNat_lt x
      clear hsn hlo hp8 hP hM
      have hbw : b < wr.heap.size := Nat.lt_of_lt_of_le hb (Nat.le_trans hw hB.size)
      have HC := Lib.hid hc
      clear hc hb
      have hkn : (k : Int) < (n : Int) := by omega
      go_wp2_with fail
      refine wp_region_phased 22 rfl (fun _ _ W W' => Below W.heap.size W W') (fun _ W' => Below wr.heap.size wr W') [.is (.int .u64 (s : Int)), .is (.slice (some ⟨b, off, none⟩) n c), .is (.int .i64 (k : Int)), .is (.pointer (some ⟨b, off + k, none⟩)), .is (.int .u8 (x.toNat : Int)), .is (.int .u64 (x.toNat : Int)), .is (.int .i64 (k : Int)), .is (.int .u64 (P : Int)), .is (.int .u64 (M : Int)), .is (.int .u64 ((s + M : Nat) : Int)), .is (.int .u64 ((s + M : Nat) : Int))] [] [0, 0, 0, 0, 0, 0, 0, 0, 0, 0, 0] [0, 0, 0, 0, 0, 0, 0, 0, 0, 0, 0] (by kernel_rfl) (by kernel_rfl) (by kernel_rfl) (fun _ _ _ => Below.refl _ _) ((Below.refl _ _).drew) ⟨?ob0, ?ob1, ?ob2, ?ob3, ?ob4, ?ob5, ?ob6, ?ob7, ?ob8, ?ob9, ?ob10, trivial⟩ ?obend
      case ob0 =>
        intro p vals W1 F hF hlo hhi hI hd
        have hp : p = 0 := Nat.le_antisymm hhi hlo
        subst hp
        clear hlo hhi
        have E3 : F.eval (.tmp 3) = .int .u64 (s : Int) := hF.out_ (by kernel_rfl) rfl
        refine .inr ⟨wanted_none rfl, .inl ⟨.int .u64 (s : Int), ?_, hI, TyP.of_is rfl⟩⟩
        simp only [execOp, E3, Sem.run_pure]
      case ob1 =>
        intro p vals W1 F hF hlo hhi hI hd
        have hp : p = 0 := Nat.le_antisymm hhi hlo
        subst hp
        clear hlo hhi
        have E0 : F.eval (.tmp 0) = .slice (some ⟨b, off, none⟩) n c := hF.out_ (by kernel_rfl) rfl
        refine .inr ⟨wanted_none rfl, .inl ⟨.slice (some ⟨b, off, none⟩) n c, ?_, hI, TyP.of_is rfl⟩⟩
        simp only [execOp, E0, Sem.run_pure]
      case ob2 =>
        intro p vals W1 F hF hlo hhi hI hd
        have hp : p = 0 := Nat.le_antisymm hhi hlo
        subst hp
        clear hlo hhi
        have E4 : F.eval (.tmp 4) = .int .i64 (k : Int) := hF.out_ (by kernel_rfl) rfl
        refine .inr ⟨wanted_none rfl, .inl ⟨.int .i64 (k : Int), ?_, hI, TyP.of_is rfl⟩⟩
        simp only [execOp, E4, Sem.run_pure]
      case ob3 =>
        intro p vals W1 F hF hlo hhi hI hd
        have hp : p = 0 := Nat.le_antisymm hhi hlo
        subst hp
        clear hlo hhi
        have d1 : vals 1 = .slice (some ⟨b, off, none⟩) n c := hd ⟨1, .data⟩ (Array.mem_of_getElem? (i := 0) rfl) rfl (show (0 : Nat) ≤ 1000 by decide)
        have d2 : vals 2 = .int .i64 (k : Int) := hd ⟨2, .data⟩ (Array.mem_of_getElem? (i := 1) rfl) rfl (show (0 : Nat) ≤ 1000 by decide)
        have E12 := eval_some (hF.own_ 1 rfl rfl (by kernel_rfl) (by decide)); rw [d1] at E12
        have E13 := eval_some (hF.own_ 2 rfl rfl (by kernel_rfl) (by decide)); rw [d2] at E13
        refine .inr ⟨wanted_none rfl, .inl ⟨.pointer (some ⟨b, off + k, none⟩), ?_, hI, TyP.of_is rfl⟩⟩
        have Ec : ∀ v, F.eval (.const v) = v := fun _ => rfl; have Ef : ∀ f, F.eval (.func f) = .func (.func f) #[] #[] := fun _ => rfl; clear hF hd; generalize F.eval = ρ at E12 E13 Ec Ef ⊢
        simp [execOp, go_sem, Ec, E12, E13, hkn]
      case ob4 =>
        intro p vals W1 F hF hlo hhi hI hd
        have hp : p = 0 := Nat.le_antisymm hhi hlo
        subst hp
        clear hlo hhi
        have d3 : vals 3 = .pointer (some ⟨b, off + k, none⟩) := hd ⟨3, .data⟩ (Array.mem_of_getElem? (i := 0) rfl) rfl (show (0 : Nat) ≤ 1000 by decide)
        have E14 := eval_some (hF.own_ 3 rfl rfl (by kernel_rfl) (by decide)); rw [d3] at E14
        refine .inr ⟨wanted_none rfl, ?_⟩
        have hcl := (hI.cell (p := ⟨b, off + k, none⟩) hbw).trans HC.out
        refine .inl ⟨_, ?_, hI, TyP.of_is rfl⟩
        have Ec : ∀ v, F.eval (.const v) = v := fun _ => rfl; have Ef : ∀ f, F.eval (.func f) = .func (.func f) #[] #[] := fun _ => rfl; clear hF hd; generalize F.eval = ρ at E14 Ec Ef ⊢
        simp [execOp, go_sem, Ec, E14, hcl]
      case ob5 =>
        intro p vals W1 F hF hlo hhi hI hd
        have hp : p = 0 := Nat.le_antisymm hhi hlo
        subst hp
        clear hlo hhi
        have d4 : vals 4 = .int .u8 (x.toNat : Int) := hd ⟨4, .data⟩ (Array.mem_of_getElem? (i := 0) rfl) rfl (show (0 : Nat) ≤ 1000 by decide)
        have E15 := eval_some (hF.own_ 4 rfl rfl (by kernel_rfl) (by decide)); rw [d4] at E15
        refine .inr ⟨wanted_none rfl, ?_⟩
        have hx1 : IntKind.u64.wrap (x.toNat : Int) = (x.toNat : Int) := by rw [IntKind.wrap_u64]; omega
        refine .inl ⟨.int .u64 (x.toNat : Int), ?_, hI, TyP.of_is rfl⟩
        have Ec : ∀ v, F.eval (.const v) = v := fun _ => rfl; have Ef : ∀ f, F.eval (.func f) = .func (.func f) #[] #[] := fun _ => rfl; clear hF hd; generalize F.eval = ρ at E15 Ec Ef ⊢
        simp [execOp, go_sem, Ec, E15, hx1]
      case ob6 =>
        intro p vals W1 F hF hlo hhi hI hd
        have hp : p = 0 := Nat.le_antisymm hhi hlo
        subst hp
        clear hlo hhi
        have E4 : F.eval (.tmp 4) = .int .i64 (k : Int) := hF.out_ (by kernel_rfl) rfl
        refine .inr ⟨wanted_none rfl, .inl ⟨.int .i64 (k : Int), ?_, hI, TyP.of_is rfl⟩⟩
        simp only [execOp, E4, Sem.run_pure]
      case ob7 =>
        intro p vals W1 F hF hlo hhi hI hd
        have hp : p = 0 := Nat.le_antisymm hhi hlo
        subst hp
        clear hlo hhi
        have d6 : vals 6 = .int .i64 (k : Int) := hd ⟨6, .data⟩ (Array.mem_of_getElem? (i := 0) rfl) rfl (show (0 : Nat) ≤ 1000 by decide)
        have E17 := eval_some (hF.own_ 6 rfl rfl (by kernel_rfl) (by decide)); rw [d6] at E17
        refine .inr ⟨wanted_none rfl, ?_⟩
        refine .inr (.inr (.inl ⟨44, #[.int .i64 (k : Int)], ?_, (HPW.out _).mono ?_⟩))
        · have Ec : ∀ v, F.eval (.const v) = v := fun _ => rfl; have Ef : ∀ f, F.eval (.func f) = .func (.func f) #[] #[] := fun _ => rfl; clear hF hd; generalize F.eval = ρ at E17 Ec Ef ⊢
          simp [execOp, go_sem, Ec, Ef, E17]
        rintro e W2 ⟨rfl, rfl⟩
        exact ⟨_, rfl, Below.refl _ _, hI, TyP.of_is rfl⟩
      case ob8 =>
        intro p vals W1 F hF hlo hhi hI hd
        have hp : p = 0 := Nat.le_antisymm hhi hlo
        subst hp
        clear hlo hhi
        have d5 : vals 5 = .int .u64 (x.toNat : Int) := hd ⟨5, .data⟩ (Array.mem_of_getElem? (i := 0) rfl) rfl (show (0 : Nat) ≤ 1000 by decide)
        have d7 : vals 7 = .int .u64 (P : Int) := hd ⟨7, .data⟩ (Array.mem_of_getElem? (i := 1) rfl) rfl (show (0 : Nat) ≤ 1000 by decide)
        have E16 := eval_some (hF.own_ 5 rfl rfl (by kernel_rfl) (by decide)); rw [d5] at E16
        have E18 := eval_some (hF.own_ 7 rfl rfl (by kernel_rfl) (by decide)); rw [d7] at E18
        refine .inr ⟨wanted_none rfl, ?_⟩
        have hm1 : IntKind.u64.wrap (M : Int) = (M : Int) := by rw [IntKind.wrap_u64]; omega
        have hm2 := hMi
        refine .inl ⟨.int .u64 (M : Int), ?_, hI, TyP.of_is rfl⟩
        have Ec : ∀ v, F.eval (.const v) = v := fun _ => rfl; have Ef : ∀ f, F.eval (.func f) = .func (.func f) #[] #[] := fun _ => rfl; clear hF hd; generalize F.eval = ρ at E16 E18 Ec Ef ⊢
        simp [execOp, go_sem, Ec, E16, E18, hm2, hm1]
      case ob9 =>
        intro p vals W1 F hF hlo hhi hI hd
        have hp : p = 0 := Nat.le_antisymm hhi hlo
        subst hp
        clear hlo hhi
        have d0 : vals 0 = .int .u64 (s : Int) := hd ⟨0, .data⟩ (Array.mem_of_getElem? (i := 0) rfl) rfl (show (0 : Nat) ≤ 1000 by decide)
        have d8 : vals 8 = .int .u64 (M : Int) := hd ⟨8, .data⟩ (Array.mem_of_getElem? (i := 1) rfl) rfl (show (0 : Nat) ≤ 1000 by decide)
        have E11 := eval_some (hF.own_ 0 rfl rfl (by kernel_rfl) (by decide)); rw [d0] at E11
        have E19 := eval_some (hF.own_ 8 rfl rfl (by kernel_rfl) (by decide)); rw [d8] at E19
        refine .inr ⟨wanted_none rfl, ?_⟩
        have hm1 : IntKind.u64.wrap ((s : Int) + (M : Int)) = (s : Int) + (M : Int) := by rw [IntKind.wrap_u64]; omega
        refine .inl ⟨.int .u64 ((s + M : Nat) : Int), ?_, hI, TyP.of_is rfl⟩
        have Ec : ∀ v, F.eval (.const v) = v := fun _ => rfl; have Ef : ∀ f, F.eval (.func f) = .func (.func f) #[] #[] := fun _ => rfl; clear hF hd; generalize F.eval = ρ at E11 E19 Ec Ef ⊢
        simp [execOp, go_sem, Ec, E11, E19, hm1]
      case ob10 =>
        intro p vals W1 F hF hlo hhi hI hd
        have hp : p = 0 := Nat.le_antisymm hhi hlo
        subst hp
        clear hlo hhi
        have d9 : vals 9 = .int .u64 ((s + M : Nat) : Int) := hd ⟨9, .data⟩ (Array.mem_of_getElem? (i := 0) rfl) rfl (show (0 : Nat) ≤ 1000 by decide)
        have E20 := eval_some (hF.own_ 9 rfl rfl (by kernel_rfl) (by decide)); rw [d9] at E20
        refine .inr ⟨wanted_none rfl, .inl ⟨.int .u64 ((s + M : Nat) : Int), ?_, hI, TyP.of_is rfl⟩⟩
        simp only [execOp, E20, Sem.run_pure]
      case obend =>
        intro vals W1 F hF hdef hI hT
        rename_i K hK
        refine hK _ _ ?_
        have dl : vals 10 = .int .u64 ((s + M : Nat) : Int) := hT 10 (by decide) (show (0 : Nat) ≤ 1000 by decide)
        rw [hF.act]
        simp only [fin, Act.put, List.setIfInBounds_toArray, List.set_cons_succ, List.set_cons_zero, dl]
        clear hF hT dl
        have HBB := Lib.hid (hB.trans (hI.mono hB.size))
        clear hI hB
        go_wp2
        go_roundw
        case rel => exact ⟨k + 1, by omega, by go_num, by rw [HS.out], HBB.out⟩
        case measure => simp [intOf]; omega
    · have HT := Lib.hid (show bs.take k = bs from List.take_of_length_le (by rw [← HN.out]; omega))
      have hkn : (n : Int) ≤ (k : Int) := by omega
      clear hk hlt
      go_wp2
      go_ret
      exact ⟨by rw [HT.out]; rfl, hB⟩
end Go.Proofs.Ytngkckngjobojaa.Oct
