/- The contract of purserref11.Bytes. No condition but that the number is below 2^40. -/
import Derived.Test.YtbhopgklnddelaaNumM
namespace Go.Proofs.Ytbhopgklnddelaa
open Go.RowKit Go.Shelf

theorem own_row_ge {w : World} {base : Nat} {v : Value} {n : Nat} {xs : List Value} (h : w.ownsRow base 5 1 v n xs) : ∀ k, v.ownBlock = some k → base ≤ k := by
  intro k e
  rcases h.2 with ⟨rfl, _⟩ | ⟨g, cap, cur, rfl, hb, _⟩
  · simp [Value.ownBlock] at e
  · simp [Value.ownBlock] at e
    omega
theorem own_nil {w : World} {base : Nat} {v : Value} (h : w.ownsRow base 5 1 v 0 []) : ∃ A c, v = .slice A 0 c := by
  rcases h.2 with ⟨rfl, _⟩ | ⟨g, cap, cur, rfl, _⟩
  · exact ⟨_, _, rfl⟩
  · exact ⟨_, _, rfl⟩
theorem wrap_id (k : Nat) (h : k < 1099511627776) : wrap64 (k : Int) = (k : Int) := by
  unfold wrap64
  omega

set_option maxRecDepth 100000 in
set_option maxHeartbeats 4000000 in
theorem refBytes_any (n : Int) (h1 : -1099511627776 < n) (h2 : n < 1099511627776) (w : World) : Calls Try.prog 30 #[.int .i64 n] w (NewBytes w (encB n)) := by
  obtain ⟨i0, hi, hz0, hz1, hz2⟩ := info_parts byte_info
  obtain ⟨m, hmm⟩ : ∃ m : Nat, n.natAbs = m := ⟨_, rfl⟩
  have hm : m < 1099511627776 := by omega
  have HMM := Lib.hid hmm
  by_cases hneg : n < 0
  · have hmi : -n = (m : Int) := by omega
    have hmpos : 0 < m := by omega
    clear hmm
    go_enter Try.func30, Try.ntmps30
    go_wp2
    go_loopw [0, 3] (fun a v wr => ∃ (pre : List UInt8) (k : Nat), a = .int .i64 (k : Int) ∧ k ≤ m ∧ magL m = pre ++ magL k ∧ wr.ownsRow w.heap.size 5 1 v pre.length (vals pre) ∧ Below w.heap.size w wr) (fun a _ _ => (intOf a).toNat)
    case atStart => exact ⟨[], m, rfl, Nat.le_refl _, rfl, World.ownsRow_nil _ _ _ _, Below.refl _ _⟩
    case round =>
      obtain ⟨pre, k, rfl, hk, hmg, hrow, hB⟩ := hrel
      by_cases hk0 : k = 0
      · subst hk0
        have hpre : magL m = pre := by rw [hmg, magL_zero, List.append_nil]
        have hLpos : 0 < pre.length := by
          rcases Nat.eq_zero_or_pos pre.length with h | h
          · exact absurd (magL_nil (hpre.trans (List.eq_nil_of_length_eq_zero h))) (by omega)
          · exact h
        have hL5 : pre.length ≤ 5 := by rw [← hpre]; exact magL_length 5 m (by simpa using hm)
        have HEL := Lib.hid (show encB n = (topped pre).set ((topped pre).length - 1) (UInt8.ofNat (((topped pre).getLastD 0).toNat + 128)) by unfold encB; rw [if_pos hneg, show (n).natAbs = m from HMM.out, hpre])
        clear hpre hmg
        obtain ⟨g, c, rfl, hgb, hgl, hLc, hcs, hfz⟩ := own_form rfl hLpos hrow
        obtain ⟨k, hk⟩ : ∃ k, pre.length = k + 1 := ⟨pre.length - 1, by omega⟩
        have hck := hcs k (by omega)
        rw [Nat.zero_add] at hck
        obtain ⟨x, hx⟩ : ∃ x, pre[k]'(by omega) = x := ⟨_, rfl⟩
        have hub := UInt8.toNat_lt x
        have hlast : pre.getLastD 0 = x := by rw [List.getLastD_eq_getLast?, List.getLast?_eq_getElem?]; simp [hk, hx]
        rw [hx] at hck
        obtain ⟨len, hle⟩ : ∃ len, k + 1 = len := ⟨_, rfl⟩
        rw [hle] at hk
        rw [hk] at hrow hLc hL5 ⊢
        have hk5 : k < 5 := by omega
        have ek : (len : Int) - 1 = (k : Int) := by omega
        have e0 : ((len : Int) == 0) = false := by simp; omega
        have HLE := Lib.hid hle
        have EK1 := Lib.hid (show len - 1 = k by omega)
        have EK2 := Lib.hid (show len + 1 - 1 = k + 1 by omega)
        clear hle
        have HK := Lib.hid hk
        have HCS := Lib.hid hcs
        have HLAST := Lib.hid hlast
        clear hk hcs hx hlast hL5 hLpos h1 h2 hm
        by_cases hx128 : 128 ≤ x.toNat
        · have HT := Lib.hid (show topped pre = pre ++ [0] by unfold topped; rw [HLAST.out, if_pos hx128])
          have hxi : (128 : Int) ≤ (x.toNat : Int) := by omega
          go_wp2_with (at_builtin; refine wpList_append_own_at _ rfl (.tmp 32) (.tmp 33) _ rfl w.heap.size 5 i0 (.int .u8 0) 1 1 Try.underlying22 hi hz0 hz1 hz2 rfl (by decide) _ _ _ rfl (hrow.alloc _) ⟨wr.heap.size, 0, none⟩ 1 1 [.int .u8 0] rfl rfl (cell_one_new _ _ _) (by simp [Value.oneCell']) (by unfold maxLen; omega) (by omega) (by have := hB.size; simp; omega) ?_; intro v' w1 hown' hgrow _ _; obtain ⟨g', cap', rfl⟩ := ownsRow_succ hown'; have hb2 := (((Below.refl wr.heap.size wr).alloc (Nat.le_refl _) (.cells #[.int .u8 0] 5)).mono hB.size).grown hgrow (by have := hB.size; simp; omega) (own_row_ge hrow); obtain ⟨g2, c2, hge, hgb2, hgl2, hLc2, hcs2, hfz2⟩ := own_form (bs := pre ++ [0]) (by rw [List.length_append, HK.out]; first | done | rfl) (by omega) (by rw [vals_append]; exact hown'); injection hge with hge1 hge2 hge3; injection hge1 with hge4; injection hge4 with hge5; subst hge5; subst hge3; have hck2 := hcs2 (k + 1) (by rw [List.length_append, HK.out, ← HLE.out]; simp); rw [Nat.zero_add] at hck2; have HCS2 := Lib.hid hcs2; clear hcs2 hge2; simp only [List.getElem_append_right (show pre.length ≤ k + 1 by rw [HK.out, ← HLE.out]; exact Nat.le_refl _), List.getElem_singleton, UInt8.toNat_zero] at hck2; have hfz3 := hfz2 (k + 1); clear hfz2)
          go_ret
          have hln : (pre ++ [0]).length = len + 1 := by rw [List.length_append, HK.out]; rfl
          rw [HEL.out, HT.out, List.getLastD_concat, hln, EK2.out]
          have h8 := Holds8.store (n₀ := w1.heap.size) hln hgl2 HCS2.out (k + 1) (UInt8.ofNat 128)
          exact ⟨_, cap', by rw [List.length_set, hln]; rfl, by rw [setCell_size]; exact h8, fun a e => by cases e; exact hgb2, (hB.trans hb2).setCell (p := ⟨g', k + 1, none⟩) hgb2 (.int .u8 128)⟩
        · have HT := Lib.hid (show topped pre = pre by unfold topped; rw [HLAST.out, if_neg hx128])
          have hxi : decide ((128 : Int) ≤ (x.toNat : Int)) = false := by simp; omega
          have hxi2 : decide ((x.toNat : Int) < 128) = true := by simp; omega
          have hfk := hfz k
          go_wp2
          go_ret
          rw [HEL.out, HT.out, HLAST.out, HK.out, EK1.out]
          have ev : (x.toNat : Int) + 128 = ((UInt8.ofNat (x.toNat + 128)).toNat : Int) := by rw [UInt8.toNat_ofNat']; omega
          rw [ev]
          have h8 := Holds8.store (n₀ := wr.heap.size) HK.out hgl HCS.out k (UInt8.ofNat (x.toNat + 128))
          exact ⟨_, c, by rw [List.length_set, HK.out]; rfl, by rw [setCell_size]; exact h8, fun a e => by cases e; exact hgb, hB.setCell (p := ⟨g, k, none⟩) hgb (.int .u8 ((UInt8.ofNat (x.toNat + 128)).toNat : Int))⟩
      · have hkp : (0 : Int) < (k : Int) := by omega
        obtain ⟨x, hx⟩ : ∃ x : UInt8, UInt8.ofNat (k % 256) = x := ⟨_, rfl⟩
        obtain ⟨k2, hk2⟩ : ∃ k2, k / 256 = k2 := ⟨_, rfl⟩
        have e1 : (k : Int).tmod 256 = (x.toNat : Int) := by rw [Int.tmod_eq_emod_of_nonneg (by omega), ← hx, UInt8.toNat_ofNat']; omega
        have e2 : (k : Int).tdiv 256 = (k2 : Int) := by rw [Int.tdiv_eq_ediv_of_nonneg (by omega)]; omega
        have E3 := Lib.hid (wrap_id k2 (by omega))
        have hub := UInt8.toNat_lt x
        have hpl : pre.length < 100 := by have h1 := congrArg List.length hmg; have h2 := magL_length 5 m (by simpa using hm); rw [List.length_append] at h1; omega
        rw [magL_pos hk0, hx, hk2] at hmg
        have HM := Lib.hid hmg
        have HK := Lib.hid (show k2 < k by omega)
        clear hx hk2 hmg h1 h2
        go_wp2_with (at_builtin; refine wpList_append_own_at _ rfl (.tmp 13) (.tmp 17) _ rfl w.heap.size 5 i0 (.int .u8 0) 1 1 Try.underlying22 hi hz0 hz1 hz2 rfl (by decide) _ _ _ rfl (hrow.alloc _) ⟨wr.heap.size, 0, none⟩ 1 1 [.int .u8 (x.toNat : Int)] rfl rfl (cell_one_new _ _ _) (by simp [Value.oneCell']) (by unfold maxLen; omega) (by omega) (by have := hB.size; simp; omega) ?_; intro v' w1 hown' hgrow _ _)
        go_roundw
        case rel => exact ⟨pre ++ [x], k2, by rw [E3.out], by have := HK.out; omega, by rw [HM.out, List.append_assoc]; rfl, by rw [vals_append, List.length_append]; exact hown', hB.trans ((((Below.refl wr.heap.size wr).alloc (Nat.le_refl _) _).mono hB.size).grown hgrow (by have := hB.size; simp; omega) (own_row_ge hrow))⟩
        case measure => have := HK.out; simp only [E3.out]; simp [intOf]; omega
  · have hmi : n = (m : Int) := by omega
    subst hmi
    clear hmm
    go_enter Try.func30, Try.ntmps30
    go_wp2
    go_loopw [0, 3] (fun a v wr => ∃ (pre : List UInt8) (k : Nat), a = .int .i64 (k : Int) ∧ k ≤ m ∧ magL m = pre ++ magL k ∧ wr.ownsRow w.heap.size 5 1 v pre.length (vals pre) ∧ Below w.heap.size w wr) (fun a _ _ => (intOf a).toNat)
    case atStart => exact ⟨[], m, rfl, Nat.le_refl _, rfl, World.ownsRow_nil _ _ _ _, Below.refl _ _⟩
    case round =>
      obtain ⟨pre, k, rfl, hk, hmg, hrow, hB⟩ := hrel
      by_cases hk0 : k = 0
      · subst hk0
        by_cases hm0 : m = 0
        · subst hm0
          have hp0 : pre = [] := by have : magL 0 = pre ++ magL 0 := hmg; rw [magL_zero, List.append_nil] at this; exact this.symm
          subst hp0
          have HE0 := Lib.hid (show encB ((0 : Nat) : Int) = [] from encB_zero)
          obtain ⟨A, c, rfl⟩ := own_nil hrow
          go_wp2
          go_ret
          rw [HE0.out]
          exact ⟨none, 0, rfl, .inl ⟨rfl, rfl⟩, (fun a e => by cases e), hB⟩
        · have hpre : magL m = pre := by rw [hmg, magL_zero, List.append_nil]
          have hLpos : 0 < pre.length := by
            rcases Nat.eq_zero_or_pos pre.length with h | h
            · exact absurd (magL_nil (hpre.trans (List.eq_nil_of_length_eq_zero h))) (by omega)
            · exact h
          have hL5 : pre.length ≤ 5 := by rw [← hpre]; exact magL_length 5 m (by simpa using hm)
          have HEL := Lib.hid (show encB (m : Int) = topped pre by unfold encB; rw [if_neg (by omega : ¬ ((m : Int) < 0)), show ((m : Int)).natAbs = m from HMM.out, hpre])
          clear hpre hmg
          obtain ⟨g, c, rfl, hgb, hgl, hLc, hcs, hfz⟩ := own_form rfl hLpos hrow
          obtain ⟨k, hk⟩ : ∃ k, pre.length = k + 1 := ⟨pre.length - 1, by omega⟩
          have hck := hcs k (by omega)
          rw [Nat.zero_add] at hck
          obtain ⟨x, hx⟩ : ∃ x, pre[k]'(by omega) = x := ⟨_, rfl⟩
          have hub := UInt8.toNat_lt x
          have hlast : pre.getLastD 0 = x := by rw [List.getLastD_eq_getLast?, List.getLast?_eq_getElem?]; simp [hk, hx]
          rw [hx] at hck
          obtain ⟨len, hle⟩ : ∃ len, k + 1 = len := ⟨_, rfl⟩
          rw [hle] at hk
          rw [hk] at hrow hLc hL5 ⊢
          have hk5 : k < 5 := by omega
          have ek : (len : Int) - 1 = (k : Int) := by omega
          have e0 : ((len : Int) == 0) = false := by simp; omega
          have HLE := Lib.hid hle
          have EK1 := Lib.hid (show len - 1 = k by omega)
          have EK2 := Lib.hid (show len + 1 - 1 = k + 1 by omega)
          clear hle
          have HK := Lib.hid hk
          have HCS := Lib.hid hcs
          have HLAST := Lib.hid hlast
          clear hk hcs hx hlast hL5 hLpos h1 h2 hm
          by_cases hx128 : 128 ≤ x.toNat
          · have HT := Lib.hid (show topped pre = pre ++ [0] by unfold topped; rw [HLAST.out, if_pos hx128])
            have hxi : (128 : Int) ≤ (x.toNat : Int) := by omega
            go_wp2_with (at_builtin; refine wpList_append_own_at _ rfl (.tmp 32) (.tmp 33) _ rfl w.heap.size 5 i0 (.int .u8 0) 1 1 Try.underlying22 hi hz0 hz1 hz2 rfl (by decide) _ _ _ rfl (hrow.alloc _) ⟨wr.heap.size, 0, none⟩ 1 1 [.int .u8 0] rfl rfl (cell_one_new _ _ _) (by simp [Value.oneCell']) (by unfold maxLen; omega) (by omega) (by have := hB.size; simp; omega) ?_; intro v' w1 hown' hgrow _ _; obtain ⟨g', cap', rfl⟩ := ownsRow_succ hown'; have hb2 := (((Below.refl wr.heap.size wr).alloc (Nat.le_refl _) (.cells #[.int .u8 0] 5)).mono hB.size).grown hgrow (by have := hB.size; simp; omega) (own_row_ge hrow); obtain ⟨g2, c2, hge, hgb2, hgl2, hLc2, hcs2, hfz2⟩ := own_form (bs := pre ++ [0]) (by rw [List.length_append, HK.out]; first | done | rfl) (by omega) (by rw [vals_append]; exact hown'); injection hge with hge1 hge2 hge3; injection hge1 with hge4; injection hge4 with hge5; subst hge5; subst hge3; have hck2 := hcs2 (k + 1) (by rw [List.length_append, HK.out, ← HLE.out]; simp); rw [Nat.zero_add] at hck2; have HCS2 := Lib.hid hcs2; clear hcs2 hge2; simp only [List.getElem_append_right (show pre.length ≤ k + 1 by rw [HK.out, ← HLE.out]; exact Nat.le_refl _), List.getElem_singleton, UInt8.toNat_zero] at hck2; have hfz3 := hfz2 (k + 1); clear hfz2)
            go_ret
            rw [HEL.out, HT.out]
            have hln : (pre ++ [0]).length = len + 1 := by rw [List.length_append, HK.out]; rfl
            exact ⟨_, cap', by rw [hln]; rfl, .inr ⟨g', 0, rfl, hgl2, HCS2.out⟩, fun a e => by cases e; exact hgb2, hB.trans hb2⟩
          · have HT := Lib.hid (show topped pre = pre by unfold topped; rw [HLAST.out, if_neg hx128])
            have hxi : decide ((128 : Int) ≤ (x.toNat : Int)) = false := by simp; omega
            have hxi2 : decide ((x.toNat : Int) < 128) = true := by simp; omega
            have hfk := hfz k
            go_wp2
            go_ret
            rw [HEL.out, HT.out]
            exact ⟨_, c, by rw [HK.out]; rfl, .inr ⟨g, 0, rfl, hgl, HCS.out⟩, fun a e => by cases e; exact hgb, hB⟩
      · have hkp : (0 : Int) < (k : Int) := by omega
        obtain ⟨x, hx⟩ : ∃ x : UInt8, UInt8.ofNat (k % 256) = x := ⟨_, rfl⟩
        obtain ⟨k2, hk2⟩ : ∃ k2, k / 256 = k2 := ⟨_, rfl⟩
        have e1 : (k : Int).tmod 256 = (x.toNat : Int) := by rw [Int.tmod_eq_emod_of_nonneg (by omega), ← hx, UInt8.toNat_ofNat']; omega
        have e2 : (k : Int).tdiv 256 = (k2 : Int) := by rw [Int.tdiv_eq_ediv_of_nonneg (by omega)]; omega
        have E3 := Lib.hid (wrap_id k2 (by omega))
        have hub := UInt8.toNat_lt x
        have hpl : pre.length < 100 := by have h1 := congrArg List.length hmg; have h2 := magL_length 5 m (by simpa using hm); rw [List.length_append] at h1; omega
        rw [magL_pos hk0, hx, hk2] at hmg
        have HM := Lib.hid hmg
        have HK := Lib.hid (show k2 < k by omega)
        clear hx hk2 hmg h1 h2
        go_wp2_with (at_builtin; refine wpList_append_own_at _ rfl (.tmp 13) (.tmp 17) _ rfl w.heap.size 5 i0 (.int .u8 0) 1 1 Try.underlying22 hi hz0 hz1 hz2 rfl (by decide) _ _ _ rfl (hrow.alloc _) ⟨wr.heap.size, 0, none⟩ 1 1 [.int .u8 (x.toNat : Int)] rfl rfl (cell_one_new _ _ _) (by simp [Value.oneCell']) (by unfold maxLen; omega) (by omega) (by have := hB.size; simp; omega) ?_; intro v' w1 hown' hgrow _ _)
        go_roundw
        case rel => exact ⟨pre ++ [x], k2, by rw [E3.out], by have := HK.out; omega, by rw [HM.out, List.append_assoc]; rfl, by rw [vals_append, List.length_append]; exact hown', hB.trans ((((Below.refl wr.heap.size wr).alloc (Nat.le_refl _) _).mono hB.size).grown hgrow (by have := hB.size; simp; omega) (own_row_ge hrow))⟩
        case measure => have := HK.out; simp only [E3.out]; simp [intOf]; omega
end Go.Proofs.Ytbhopgklnddelaa
