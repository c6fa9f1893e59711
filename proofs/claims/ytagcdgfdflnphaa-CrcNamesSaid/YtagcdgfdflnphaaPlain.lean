/- CRC-32C as a register of numbers, four bits a step: what is fed, in parts, and that it is linear. No condition. -/
namespace Go.Proofs.Ytagcdgfdflnphaa

/-- One step of a register. -/
def stp (r : Nat) : Nat := (r / 2) ^^^ (r % 2 * 2197175160)
/-- What four steps make of the lowest four bits. -/
def tab (i : Nat) : Nat := stp (stp (stp (stp i)))
/-- Four bits fed. -/
def feed (r h : Nat) : Nat := (r / 16) ^^^ tab ((r % 16) ^^^ h)
def runH (r : Nat) (l : List (Fin 16)) : Nat := l.foldl (fun r h => feed r h.val) r
/-- The halves of bytes, the lower one first. -/
def hv : List UInt8 → List (Fin 16)
  | [] => []
  | b :: l => ⟨b.toNat % 16, Nat.mod_lt _ (by decide)⟩ :: ⟨b.toNat / 16 % 16, Nat.mod_lt _ (by decide)⟩ :: hv l
def onS (s : Nat) (bs : List UInt8) : Nat := 4294967295 - runH (4294967295 - s) (hv bs)

theorem hv_append (a b : List UInt8) : hv (a ++ b) = hv a ++ hv b := by
  induction a with
  | nil => rfl
  | cons x l ih => simp [hv, ih]
theorem hv_length (a : List UInt8) : (hv a).length = 2 * a.length := by
  induction a with
  | nil => rfl
  | cons x l ih => simp [hv, ih]; omega
theorem hv_snoc (l : List UInt8) (k : Nat) (hk : k < l.length) : hv (l.take (k + 1)) = hv (l.take k) ++ [⟨l[k].toNat % 16, Nat.mod_lt _ (by decide)⟩] ++ [⟨l[k].toNat / 16 % 16, Nat.mod_lt _ (by decide)⟩] := by
  rw [List.take_succ_eq_append_getElem hk, hv_append]
  simp [hv]
theorem runH_snoc (r : Nat) (l : List (Fin 16)) (h : Fin 16) : runH r (l ++ [h]) = feed (runH r l) h.val := by simp [runH]
theorem runH_append (r : Nat) (l m : List (Fin 16)) : runH r (l ++ m) = runH (runH r l) m := by simp [runH]

theorem xor_lt32 {a b : Nat} (ha : a < 4294967296) (hb : b < 4294967296) : a ^^^ b < 4294967296 := Nat.xor_lt_two_pow (n := 32) ha hb
theorem xor_lt16 {a b : Nat} (ha : a < 16) (hb : b < 16) : a ^^^ b < 16 := Nat.xor_lt_two_pow (n := 4) ha hb
theorem stp_lt {r : Nat} (h : r < 4294967296) : stp r < 4294967296 := xor_lt32 (by omega) (by have := Nat.mod_lt r (show 0 < 2 by decide); omega)
theorem tab_lt {i : Nat} (h : i < 16) : tab i < 4294967296 := stp_lt (stp_lt (stp_lt (stp_lt (by omega))))
theorem feed_lt {r h : Nat} (hr : r < 4294967296) (hh : h < 16) : feed r h < 4294967296 :=
  xor_lt32 (by omega) (tab_lt (xor_lt16 (Nat.mod_lt _ (by decide)) hh))
theorem runH_lt {r : Nat} (hr : r < 4294967296) (l : List (Fin 16)) : runH r l < 4294967296 := by
  induction l generalizing r with
  | nil => exact hr
  | cons h l ih => exact ih (feed_lt hr h.isLt)
theorem onS_lt (s : Nat) (bs : List UInt8) : onS s bs < 4294967296 := by unfold onS; omega
theorem onS_nil (s : Nat) (hs : s < 4294967296) : onS s [] = s := by
  show 4294967295 - (4294967295 - s) = s
  omega
theorem onS_append (s : Nat) (hs : s < 4294967296) (a b : List UInt8) : onS (onS s a) b = onS s (a ++ b) := by
  unfold onS
  have h := runH_lt (r := 4294967295 - s) (by omega) (hv a)
  rw [hv_append, runH_append, show 4294967295 - (4294967295 - runH (4294967295 - s) (hv a)) = runH (4294967295 - s) (hv a) by omega]

/-! Linear. -/
theorem half_xor (a b : Nat) : (a ^^^ b) / 2 = (a / 2) ^^^ (b / 2) := by
  have := @Nat.xor_div_two_pow a b 1
  simpa using this
theorem sixteenth_xor (a b : Nat) : (a ^^^ b) / 16 = (a / 16) ^^^ (b / 16) := by
  have := @Nat.xor_div_two_pow a b 4
  simpa using this
theorem mod16_xor (a b : Nat) : (a ^^^ b) % 16 = (a % 16) ^^^ (b % 16) := by
  have := @Nat.xor_mod_two_pow a b 4
  simpa using this
theorem mod2_xor (a b : Nat) : (a ^^^ b) % 2 = (a % 2) ^^^ (b % 2) := by
  have := @Nat.xor_mod_two_pow a b 1
  simpa using this
theorem xor4 (a b c d : Nat) : (a ^^^ b) ^^^ (c ^^^ d) = (a ^^^ c) ^^^ (b ^^^ d) := by
  rw [Nat.xor_assoc, Nat.xor_assoc, ← Nat.xor_assoc b c d, Nat.xor_comm b c, Nat.xor_assoc c b d]
theorem stp_xor (a b : Nat) : stp (a ^^^ b) = stp a ^^^ stp b := by
  unfold stp
  rw [half_xor, mod2_xor, xor4]
  congr 1
  have ha := Nat.mod_lt a (show 0 < 2 by decide)
  have hb := Nat.mod_lt b (show 0 < 2 by decide)
  generalize a % 2 = x at *
  generalize b % 2 = y at *
  have hx : x = 0 ∨ x = 1 := by omega
  have hy : y = 0 ∨ y = 1 := by omega
  rcases hx with rfl | rfl <;> rcases hy with rfl | rfl <;> decide
theorem tab_xor (a b : Nat) : tab (a ^^^ b) = tab a ^^^ tab b := by
  unfold tab
  rw [stp_xor, stp_xor, stp_xor, stp_xor]
theorem feed_xor (r s h k : Nat) : feed (r ^^^ s) (h ^^^ k) = feed r h ^^^ feed s k := by
  unfold feed
  rw [sixteenth_xor, mod16_xor, xor4 (r % 16) (s % 16) h k, tab_xor, xor4]
end Go.Proofs.Ytagcdgfdflnphaa
