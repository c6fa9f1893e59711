/- Sums laid over one another. No condition. -/
import Derived.Test.YtagcdgfdflnphaaCrcE
namespace Go.Proofs.Ytagcdgfdflnphaa

theorem fin_eq {a b : Fin 16} (h : a.val = b.val) : a = b := Fin.ext h
theorem runH_over (a : List UInt8) : ∀ (b c : List UInt8) (r s t : Nat), b.length = a.length → c.length = a.length →
    runH (r ^^^ s ^^^ t) (hv (List.zipWith (fun x p => x ^^^ p) (List.zipWith (fun x y => x ^^^ y) a b) c)) = runH r (hv a) ^^^ runH s (hv b) ^^^ runH t (hv c) := by
  induction a with
  | nil =>
    intro b c r s t hb hc
    have hb0 : b = [] := List.eq_nil_of_length_eq_zero hb
    have hc0 : c = [] := List.eq_nil_of_length_eq_zero hc
    subst hb0 hc0
    rfl
  | cons x l ih =>
    intro b c r s t hb hc
    cases b with
    | nil => simp at hb
    | cons y b =>
      cases c with
      | nil => simp at hc
      | cons z c =>
        simp only [List.zipWith_cons_cons, hv, runH, List.foldl_cons]
        have e1 : (x ^^^ y ^^^ z).toNat = x.toNat ^^^ y.toNat ^^^ z.toNat := by simp [UInt8.toNat_xor]
        rw [e1, mod16_xor, mod16_xor, sixteenth_xor, sixteenth_xor, mod16_xor, mod16_xor, feed_xor, feed_xor, feed_xor, feed_xor]
        exact ih b c _ _ _ (by simpa using hb) (by simpa using hc)
theorem flip_xor {x : Nat} (h : x < 4294967296) : 4294967295 - x = x ^^^ 4294967295 := by
  have h1 : (BitVec.ofNat 32 x ^^^ BitVec.allOnes 32).toNat = x ^^^ 4294967295 := by
    rw [BitVec.toNat_xor, BitVec.toNat_ofNat, Nat.mod_eq_of_lt (by simpa using h)]
    rfl
  rw [← h1, BitVec.xor_allOnes, BitVec.toNat_not, BitVec.toNat_ofNat, Nat.mod_eq_of_lt (by simpa using h)]
theorem onS_over (a b c : List UInt8) (hb : b.length = a.length) (hc : c.length = a.length) :
    onS 0 (List.zipWith (fun x p => x ^^^ p) (List.zipWith (fun x y => x ^^^ y) a b) c) = onS 0 a ^^^ onS 0 b ^^^ onS 0 c := by
  have h := runH_over a b c 4294967295 4294967295 4294967295 hb hc
  have hR : ∀ l, runH 4294967295 (hv l) < 4294967296 := fun l => runH_lt (by decide) _
  unfold onS
  rw [show (4294967295 : Nat) - 0 = 4294967295 from rfl, flip_xor (hR _), flip_xor (hR a), flip_xor (hR b), flip_xor (hR c)]
  rw [show (4294967295 : Nat) ^^^ 4294967295 ^^^ 4294967295 = 4294967295 from by decide +kernel] at h
  rw [h]
  generalize runH 4294967295 (hv a) = A
  generalize runH 4294967295 (hv b) = B
  generalize runH 4294967295 (hv c) = C
  rw [xor4 A 4294967295 B 4294967295, Nat.xor_self, Nat.xor_zero, ← Nat.xor_assoc]
theorem alive_sum : onS 0 [49, 50, 51, 52, 53, 54, 55, 56, 57] = 3808858755 := by decide +kernel
end Go.Proofs.Ytagcdgfdflnphaa
