/- A script's numbers and their bytes: there and back. No condition. -/
import Derived.Test.YtbhopgklnddelaaNumH
namespace Go.Proofs.Ytbhopgklnddelaa

def valN : List UInt8 → Nat
  | [] => 0
  | b :: l => b.toNat + 256 * valN l
theorem valN_append (a b : List UInt8) : valN (a ++ b) = valN a + 256 ^ a.length * valN b := by
  induction a with
  | nil => simp [valN]
  | cons x l ih =>
    simp only [List.cons_append, valN, ih, List.length_cons, Nat.pow_succ]
    rw [Nat.mul_add, Nat.mul_comm (256 ^ l.length) 256, Nat.mul_assoc]
    omega
theorem valN_lt (a : List UInt8) : valN a < 256 ^ a.length := by
  induction a with
  | nil => simp [valN]
  | cons x l ih =>
    simp only [valN, List.length_cons, Nat.pow_succ]
    have := UInt8.toNat_lt x
    omega
theorem valN_snoc (bs : List UInt8) (k : Nat) (h : k < bs.length) : valN (bs.take (k + 1)) = valN (bs.take k) + bs[k].toNat * 256 ^ k := by
  rw [List.take_succ_eq_append_getElem h, valN_append, List.length_take, Nat.min_eq_left (by omega)]
  simp only [valN, Nat.mul_zero, Nat.add_zero]
  rw [Nat.mul_comm]
theorem valN_magL (m : Nat) : valN (magL m) = m := by
  induction m using Nat.strongRecOn with
  | _ m ih =>
    by_cases h : m = 0
    · subst h; rw [magL_zero]; rfl
    · rw [magL_pos h]
      simp only [valN]
      rw [ih (m / 256) (by omega), UInt8.toNat_ofNat']
      omega
theorem valN_pos_of_last (l : List UInt8) (x : UInt8) (hx : x.toNat ≠ 0) : valN (l ++ [x]) ≠ 0 := by
  rw [valN_append]
  simp only [valN, Nat.mul_zero, Nat.add_zero]
  have : 0 < 256 ^ l.length := Nat.pow_pos (by decide)
  have h2 : 1 * 1 ≤ 256 ^ l.length * x.toNat := Nat.mul_le_mul this (by omega)
  omega
theorem magL_valN (l : List UInt8) (x : UInt8) (hx : x.toNat ≠ 0) : magL (valN (l ++ [x])) = l ++ [x] := by
  induction l with
  | nil =>
    have hlt := UInt8.toNat_lt x
    simp only [List.nil_append, valN, Nat.mul_zero, Nat.add_zero]
    rw [magL_pos hx, show x.toNat / 256 = 0 by omega, magL_zero, show x.toNat % 256 = x.toNat by omega, UInt8.ofNat_toNat]
  | cons y l ih =>
    have hlt := UInt8.toNat_lt y
    have hp := valN_pos_of_last l x hx
    simp only [List.cons_append, valN]
    rw [magL_pos (by omega), show (y.toNat + 256 * valN (l ++ [x])) / 256 = valN (l ++ [x]) by omega, show (y.toNat + 256 * valN (l ++ [x])) % 256 = y.toNat by omega, UInt8.ofNat_toNat, ih]
/-- The last byte of a magnitude is not 0. -/
theorem magL_last {m : Nat} (hm : m ≠ 0) : ∃ l x, magL m = l ++ [x] ∧ x.toNat ≠ 0 := by
  induction m using Nat.strongRecOn with
  | _ m ih =>
    rw [magL_pos hm]
    by_cases h : m / 256 = 0
    · rw [h, magL_zero]
      exact ⟨[], _, rfl, by rw [UInt8.toNat_ofNat']; omega⟩
    · obtain ⟨l, x, e, hx⟩ := ih (m / 256) (by omega) h
      exact ⟨_ :: l, x, by rw [e]; rfl, hx⟩
theorem topped_snoc (l : List UInt8) (x : UInt8) : topped (l ++ [x]) = if 128 ≤ x.toNat then l ++ [x] ++ [0] else l ++ [x] := by
  unfold topped
  rw [List.getLastD_concat]
theorem set_last (l : List UInt8) (x y : UInt8) : (l ++ [x]).set ((l ++ [x]).length - 1) y = l ++ [y] := by
  rw [List.length_append]
  simp
theorem encB_zero : encB 0 = [] := by unfold encB topped; simp [magL_zero]
/-- The bytes of a number that is not 0: a front, and a last byte with the sign. -/
theorem encB_form (n : Int) (hn : n ≠ 0) : ∃ l x, encB n = l ++ [x] ∧ (x.toNat % 128 ≠ 0 ∨ ∃ l' y, l = l' ++ [y] ∧ 128 ≤ y.toNat) ∧ n.natAbs = valN l + 256 ^ l.length * (x.toNat % 128) ∧ (n < 0 ↔ 128 ≤ x.toNat) := by
  have hm : n.natAbs ≠ 0 := by omega
  obtain ⟨l, x, e, hx⟩ := magL_last hm
  have hv := valN_magL n.natAbs
  rw [e, valN_append] at hv
  simp only [valN, Nat.mul_zero, Nat.add_zero] at hv
  have hlt := UInt8.toNat_lt x
  unfold encB
  rw [e, topped_snoc]
  by_cases h128 : 128 ≤ x.toNat
  · rw [if_pos h128, List.getLastD_concat]
    have hvv : valN (l ++ [x]) = n.natAbs := by rw [valN_append]; simp only [valN, Nat.mul_zero, Nat.add_zero]; exact hv
    by_cases hneg : n < 0
    · rw [if_pos hneg, set_last]
      exact ⟨l ++ [x], _, rfl, .inr ⟨l, x, rfl, h128⟩, by rw [hvv]; simp, by simp [hneg]⟩
    · rw [if_neg hneg]
      exact ⟨l ++ [x], 0, rfl, .inr ⟨l, x, rfl, h128⟩, by rw [hvv]; simp, by simp [hneg]⟩
  · rw [if_neg h128, List.getLastD_concat]
    by_cases hneg : n < 0
    · rw [if_pos hneg, set_last]
      have e2 : (UInt8.ofNat (x.toNat + 128)).toNat = x.toNat + 128 := by rw [UInt8.toNat_ofNat']; omega
      exact ⟨l, _, rfl, .inl (by rw [e2]; omega), by rw [e2, show (x.toNat + 128) % 128 = x.toNat by omega]; exact hv.symm, by rw [e2]; simp [hneg]⟩
    · rw [if_neg hneg]
      exact ⟨l, x, rfl, .inl (by omega), by rw [show x.toNat % 128 = x.toNat by omega]; exact hv.symm, by simp [hneg, h128]⟩

/-- The number of bytes, if they are a script's number's. -/
def okB (bs : List UInt8) : Bool := decide (bs.length ≤ 4) && (bs.length == 0 || (decide ((bs.getLastD 0).toNat % 128 ≠ 0) || (decide (2 ≤ bs.length) && decide (128 ≤ (bs.dropLast.getLastD 0).toNat))))
def decV (bs : List UInt8) : Int := if 128 ≤ (bs.getLastD 0).toNat then -((valN bs : Int) - 128 * 256 ^ (bs.length - 1)) else valN bs
theorem okB_snoc (l : List UInt8) (x : UInt8) : okB (l ++ [x]) = true ↔ l.length ≤ 3 ∧ (x.toNat % 128 ≠ 0 ∨ ∃ l' y, l = l' ++ [y] ∧ 128 ≤ y.toNat) := by
  unfold okB
  rw [List.getLastD_concat, List.dropLast_concat, List.length_append]
  simp only [List.length_cons, List.length_nil, Bool.and_eq_true, Bool.or_eq_true, decide_eq_true_eq, beq_iff_eq]
  constructor
  · rintro ⟨h1, h2⟩
    refine ⟨by omega, ?_⟩
    rcases h2 with h2 | h2 | ⟨h3, h4⟩
    · omega
    · exact .inl h2
    · refine .inr ?_
      rcases List.eq_nil_or_concat l with rfl | ⟨l', y, rfl⟩
      · simp at h3
      · rw [List.concat_eq_append, List.getLastD_concat] at h4
        exact ⟨l', y, by simp, h4⟩
  · rintro ⟨h1, h2 | ⟨l', y, rfl, hy⟩⟩
    · exact ⟨by omega, .inr (.inl h2)⟩
    · exact ⟨by omega, .inr (.inr ⟨by simp, by rw [List.getLastD_concat]; exact hy⟩)⟩
theorem decV_snoc (l : List UInt8) (x : UInt8) : decV (l ++ [x]) = if 128 ≤ x.toNat then -((valN l + 256 ^ l.length * (x.toNat % 128) : Nat) : Int) else ((valN l + 256 ^ l.length * (x.toNat % 128) : Nat) : Int) := by
  unfold decV
  rw [List.getLastD_concat, valN_append, List.length_append]
  simp only [valN, Nat.mul_zero, Nat.add_zero, List.length_cons, List.length_nil, Nat.zero_add, Nat.add_sub_cancel]
  have hlt := UInt8.toNat_lt x
  by_cases h : 128 ≤ x.toNat
  · have ep : (256 : Int) ^ l.length = ((256 ^ l.length : Nat) : Int) := by rw [Int.natCast_pow]; rfl
    rw [if_pos h, if_pos h, ep]
    have e : x.toNat = 128 + x.toNat % 128 := by omega
    generalize x.toNat % 128 = y at *
    rw [e, Nat.mul_add]
    generalize 256 ^ l.length = P
    generalize P * y = q
    omega
  · rw [if_neg h, if_neg h]
    rw [show x.toNat % 128 = x.toNat by omega]
theorem decV_encB (n : Int) : decV (encB n) = n := by
  by_cases hn : n = 0
  · subst hn; rw [encB_zero]; rfl
  · obtain ⟨l, x, e, _, hv, hs⟩ := encB_form n hn
    rw [e, decV_snoc, ← hv]
    by_cases h : n < 0
    · rw [if_pos (hs.1 h)]; omega
    · rw [if_neg (fun h2 => h (hs.2 h2))]; omega
theorem pow256 (k : Nat) : k ≤ 3 → 256 ^ k ≤ 16777216 := fun h => Nat.pow_le_pow_right (n := 256) (by decide) (show k ≤ 3 by omega)
theorem small_len (l : List UInt8) (x : UInt8) (hx : x.toNat % 128 ≠ 0 ∨ ∃ l' y, l = l' ++ [y] ∧ 128 ≤ y.toNat) : l.length ≤ 3 ↔ valN l + 256 ^ l.length * (x.toNat % 128) ≤ 2147483647 := by
  have hlt := valN_lt l
  have hx128 := Nat.mod_lt x.toNat (show 0 < 128 by decide)
  constructor
  · intro h
    have hp := pow256 _ h
    have h1 : 256 ^ l.length * (x.toNat % 128) ≤ 256 ^ l.length * 127 := Nat.mul_le_mul_left _ (by omega)
    omega
  · intro h
    rcases Nat.lt_or_ge 3 l.length with h3 | h3
    · exfalso
      rcases hx with hx | ⟨l', y, rfl, hy⟩
      · have h4 : 256 ^ 4 ≤ 256 ^ l.length := Nat.pow_le_pow_right (by decide) h3
        have h5 : 256 ^ 4 * 1 ≤ 256 ^ l.length * (x.toNat % 128) := Nat.mul_le_mul h4 (by omega)
        have : (256 : Nat) ^ 4 = 4294967296 := by decide
        omega
      · rw [List.length_append] at h3
        simp only [List.length_cons, List.length_nil] at h3
        rw [valN_append] at h
        simp only [valN, Nat.mul_zero, Nat.add_zero] at h
        have h4 : 256 ^ 3 ≤ 256 ^ l'.length := Nat.pow_le_pow_right (by decide) (by omega)
        have h5 : 256 ^ 3 * 128 ≤ 256 ^ l'.length * y.toNat := Nat.mul_le_mul h4 hy
        have : (256 : Nat) ^ 3 = 16777216 := by decide
        omega
    · exact h3
theorem okB_encB (n : Int) : okB (encB n) = true ↔ (-2147483647 ≤ n ∧ n ≤ 2147483647) := by
  have hq : n.natAbs ≤ 2147483647 ↔ (-2147483647 ≤ n ∧ n ≤ 2147483647) := by omega
  by_cases hn : n = 0
  · subst hn; rw [encB_zero]; simp [okB]
  · obtain ⟨l, x, e, hx, hv, hs⟩ := encB_form n hn
    rw [e, okB_snoc, small_len l x hx, ← hv, hq]
    exact ⟨fun h => h.1, fun h => ⟨h, hx⟩⟩
theorem encB_decV (bs : List UInt8) (h : okB bs = true) : encB (decV bs) = bs := by
  rcases List.eq_nil_or_concat bs with rfl | ⟨l, x, rfl⟩
  · exact encB_zero
  · rw [List.concat_eq_append] at *
    have hlt := UInt8.toNat_lt x
    obtain ⟨h3, hx⟩ := (okB_snoc l x).1 h
    rw [decV_snoc]
    -- the magnitude, and its bytes
    have key : ∀ n : Int, n.natAbs = valN l + 256 ^ l.length * (x.toNat % 128) → (n < 0 ↔ 128 ≤ x.toNat) → encB n = l ++ [x] := by
      intro n hv hs
      by_cases hx0 : x.toNat % 128 = 0
      · obtain ⟨l', y, rfl, hy⟩ := hx.resolve_left (fun h => h hx0)
        rw [hx0, Nat.mul_zero, Nat.add_zero] at hv
        have hm : magL n.natAbs = l' ++ [y] := by rw [hv, magL_valN l' y (by omega)]
        unfold encB
        rw [hm, topped_snoc, if_pos hy, List.getLastD_concat]
        by_cases hneg : n < 0
        · rw [if_pos hneg, set_last]
          have hx8 := hs.1 hneg
          have : x = UInt8.ofNat 128 := by
            apply UInt8.toNat_inj.1
            rw [UInt8.toNat_ofNat']
            omega
          rw [this]
          rfl
        · rw [if_neg hneg]
          have hx8 : ¬ 128 ≤ x.toNat := fun h => hneg (hs.2 h)
          have : x = 0 := by
            apply UInt8.toNat_inj.1
            show x.toNat = 0
            omega
          rw [this]
      · have e2 : (UInt8.ofNat (x.toNat % 128)).toNat = x.toNat % 128 := by rw [UInt8.toNat_ofNat']; omega
        have hm : magL n.natAbs = l ++ [UInt8.ofNat (x.toNat % 128)] := by
          rw [hv, ← magL_valN l (UInt8.ofNat (x.toNat % 128)) (by rw [e2]; exact hx0), valN_append]
          simp only [valN, Nat.mul_zero, Nat.add_zero]
          rw [e2]
        unfold encB
        rw [hm, topped_snoc, e2, if_neg (show ¬ 128 ≤ x.toNat % 128 by omega), List.getLastD_concat]
        by_cases hneg : n < 0
        · rw [if_pos hneg, set_last, e2]
          have hx8 := hs.1 hneg
          congr 2
          apply UInt8.toNat_inj.1
          rw [UInt8.toNat_ofNat']
          omega
        · rw [if_neg hneg]
          have hx8 : ¬ 128 ≤ x.toNat := fun h => hneg (hs.2 h)
          congr 2
          apply UInt8.toNat_inj.1
          rw [e2]
          omega
    have hpos : 128 ≤ x.toNat → 0 < valN l + 256 ^ l.length * (x.toNat % 128) := by
      intro _
      rcases hx with hx | ⟨l', y, rfl, hy⟩
      · have : 0 < 256 ^ l.length := Nat.pow_pos (by decide)
        have h2 : 1 * 1 ≤ 256 ^ l.length * (x.toNat % 128) := Nat.mul_le_mul this (by omega)
        omega
      · have := valN_pos_of_last l' y (by omega)
        omega
    by_cases h128 : 128 ≤ x.toNat
    · rw [if_pos h128]
      have := hpos h128
      exact key _ (by omega) (by omega)
    · rw [if_neg h128]
      exact key _ (by omega) (by omega)
/-- Whether bytes are true. -/
def trueB : List UInt8 → Bool
  | [] => false
  | [x] => decide (x.toNat ≠ 0 ∧ x.toNat ≠ 128)
  | x :: y :: l => decide (x.toNat ≠ 0) || trueB (y :: l)
theorem trueB_cons (x : UInt8) (l : List UInt8) (h : l ≠ []) : trueB (x :: l) = (decide (x.toNat ≠ 0) || trueB l) := by
  cases l with
  | nil => exact absurd rfl h
  | cons y l => rfl
theorem trueB_last (l : List UInt8) (x : UInt8) (hx : x.toNat % 128 ≠ 0) : trueB (l ++ [x]) = true := by
  induction l with
  | nil => simp [trueB]; omega
  | cons y l ih => rw [List.cons_append, trueB_cons _ _ (by simp), ih]; simp
theorem trueB_prev (l : List UInt8) (y x : UInt8) (hy : y.toNat ≠ 0) : trueB (l ++ [y] ++ [x]) = true := by
  induction l with
  | nil => simp [trueB, hy]
  | cons z l ih => rw [List.cons_append, List.cons_append, trueB_cons _ _ (by simp), ih]; simp
theorem trueB_encB (n : Int) : trueB (encB n) = decide (n ≠ 0) := by
  by_cases hn : n = 0
  · subst hn; rw [encB_zero]; rfl
  · obtain ⟨l, x, e, hx, _⟩ := encB_form n hn
    rw [e]
    rcases hx with hx | ⟨l', y, rfl, hy⟩
    · rw [trueB_last l x hx]; simp [hn]
    · rw [trueB_prev l' y x (by omega)]; simp [hn]
theorem encB_length (n : Int) (k : Nat) (h : n.natAbs < 256 ^ k) : (encB n).length ≤ k + 1 := by
  by_cases hn : n = 0
  · subst hn; rw [encB_zero]; simp
  · obtain ⟨l, x, e, hx, hv, _⟩ := encB_form n hn
    have h1 : l.length ≤ k := by
      rcases Nat.lt_or_ge k l.length with h3 | h3
      · exfalso
        rcases hx with hx | ⟨l', y, rfl, hy⟩
        · have h4 : 256 ^ k * 1 ≤ 256 ^ l.length * (x.toNat % 128) := Nat.mul_le_mul (Nat.pow_le_pow_right (by decide) (by omega)) (by omega)
          omega
        · rw [List.length_append] at h3
          simp only [List.length_cons, List.length_nil] at h3
          rw [valN_append] at hv
          simp only [valN, Nat.mul_zero, Nat.add_zero] at hv
          have h4 : 256 ^ k * 1 ≤ 256 ^ l'.length * y.toNat := Nat.mul_le_mul (Nat.pow_le_pow_right (by decide) (by omega)) (by omega)
          omega
      · exact h3
    rw [e, List.length_append]
    simp
    exact h1
end Go.Proofs.Ytbhopgklnddelaa
