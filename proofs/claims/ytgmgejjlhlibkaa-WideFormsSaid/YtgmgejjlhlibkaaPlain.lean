/- Plain facts on numbers of 256 bits in four words: their sums, differences and products, word by word. No condition. -/
import GoSem.Core.Value
namespace Go.Proofs.Ytgmgejjlhlibkaa

/-- A number of four words. -/
def num4 (a0 a1 a2 a3 : Nat) : Nat :=
  a0 + 18446744073709551616 * a1 + 340282366920938463463374607431768211456 * a2 + 6277101735386680763835789423207666416102355444464034512896 * a3

/-- 2^256. -/
def top : Nat := 115792089237316195423570985008687907853269984665640564039457584007913129639936

/-- The words of a number. -/
def w0 (n : Nat) : Nat := n % 18446744073709551616
def w1 (n : Nat) : Nat := n / 18446744073709551616 % 18446744073709551616
def w2 (n : Nat) : Nat := n / 340282366920938463463374607431768211456 % 18446744073709551616
def w3 (n : Nat) : Nat := n / 6277101735386680763835789423207666416102355444464034512896 % 18446744073709551616

def word (n : Nat) : Prop := n < 18446744073709551616

theorem words_of (n : Nat) : word (w0 n) ∧ word (w1 n) ∧ word (w2 n) ∧ word (w3 n) ∧ (n < top → n = num4 (w0 n) (w1 n) (w2 n) (w3 n)) := by
  unfold word w0 w1 w2 w3 num4 top
  omega

theorem num4_lt (a0 a1 a2 a3 : Nat) (h0 : word a0) (h1 : word a1) (h2 : word a2) (h3 : word a3) : num4 a0 a1 a2 a3 < top := by
  unfold num4 top word at *
  omega

theorem words_num4 (a0 a1 a2 a3 : Nat) (h0 : word a0) (h1 : word a1) (h2 : word a2) (h3 : word a3) :
    w0 (num4 a0 a1 a2 a3) = a0 ∧ w1 (num4 a0 a1 a2 a3) = a1 ∧ w2 (num4 a0 a1 a2 a3) = a2 ∧ w3 (num4 a0 a1 a2 a3) = a3 := by
  unfold num4 word w0 w1 w2 w3 at *
  omega

theorem add4 (a0 a1 a2 a3 b0 b1 b2 b3 s0 s1 s2 s3 c1 c2 c3 c4 : Nat)
    (h0 : s0 + 18446744073709551616 * c1 = a0 + b0) (h1 : s1 + 18446744073709551616 * c2 = a1 + b1 + c1)
    (h2 : s2 + 18446744073709551616 * c3 = a2 + b2 + c2) (h3 : s3 + 18446744073709551616 * c4 = a3 + b3 + c3) :
    num4 s0 s1 s2 s3 + top * c4 = num4 a0 a1 a2 a3 + num4 b0 b1 b2 b3 := by
  unfold num4 top
  omega

theorem sub4 (a0 a1 a2 a3 b0 b1 b2 b3 s0 s1 s2 s3 c1 c2 c3 c4 : Nat)
    (h0 : s0 + b0 = a0 + 18446744073709551616 * c1) (h1 : s1 + b1 + c1 = a1 + 18446744073709551616 * c2)
    (h2 : s2 + b2 + c2 = a2 + 18446744073709551616 * c3) (h3 : s3 + b3 + c3 = a3 + 18446744073709551616 * c4) :
    num4 s0 s1 s2 s3 + num4 b0 b1 b2 b3 = num4 a0 a1 a2 a3 + top * c4 := by
  unfold num4 top
  omega

/-- The sum, word by word. -/
theorem carry_of (x y c : Nat) (hx : word x) (hy : word y) (hc : c ≤ 1) :
    ((x + y + c) % 18446744073709551616) + 18446744073709551616 * ((x + y + c) / 18446744073709551616) = x + y + c ∧ word ((x + y + c) % 18446744073709551616) ∧ (x + y + c) / 18446744073709551616 ≤ 1 := by
  unfold word at *
  omega

theorem borrow_of (x y c : Nat) (hx : word x) (hy : word y) (hc : c ≤ 1) :
    ((x + 18446744073709551616 - y - c) % 18446744073709551616) + y + c = x + 18446744073709551616 * (if x < y + c then 1 else 0) ∧ word ((x + 18446744073709551616 - y - c) % 18446744073709551616) ∧ (if x < y + c then 1 else 0) ≤ 1 := by
  unfold word at *
  split <;> omega

theorem mul_lin (m00 m01 m02 m03 m10 m11 m12 m13 m20 m21 m22 m23 m30 m31 m32 m33 l00 l01 l02 l03 l10 l11 l12 l13 l20 l21 l22 l23 l30 l31 l32 l33 h00 h01 h02 h03 h10 h11 h12 h13 h20 h21 h22 h23 h30 h31 h32 h33 : Nat)
  (e00 : l00 + 18446744073709551616 * h00 = m00 + 0 + 0) (e01 : l01 + 18446744073709551616 * h01 = m01 + 0 + h00) (e02 : l02 + 18446744073709551616 * h02 = m02 + 0 + h01) (e03 : l03 + 18446744073709551616 * h03 = m03 + 0 + h02)
  (e10 : l10 + 18446744073709551616 * h10 = m10 + l01 + 0) (e11 : l11 + 18446744073709551616 * h11 = m11 + l02 + h10) (e12 : l12 + 18446744073709551616 * h12 = m12 + l03 + h11) (e13 : l13 + 18446744073709551616 * h13 = m13 + h03 + h12)
  (e20 : l20 + 18446744073709551616 * h20 = m20 + l11 + 0) (e21 : l21 + 18446744073709551616 * h21 = m21 + l12 + h20) (e22 : l22 + 18446744073709551616 * h22 = m22 + l13 + h21) (e23 : l23 + 18446744073709551616 * h23 = m23 + h13 + h22)
  (e30 : l30 + 18446744073709551616 * h30 = m30 + l21 + 0) (e31 : l31 + 18446744073709551616 * h31 = m31 + l22 + h30) (e32 : l32 + 18446744073709551616 * h32 = m32 + l23 + h31) (e33 : l33 + 18446744073709551616 * h33 = m33 + h23 + h32) :
  num4 l00 l10 l20 l30 + top * num4 l31 l32 l33 h33 = num4 m00 m01 m02 m03 + 18446744073709551616 * num4 m10 m11 m12 m13 + 340282366920938463463374607431768211456 * num4 m20 m21 m22 m23 + 6277101735386680763835789423207666416102355444464034512896 * num4 m30 m31 m32 m33 := by
  unfold num4 top
  omega

theorem num4_mul (x b0 b1 b2 b3 : Nat) : x * num4 b0 b1 b2 b3 = num4 (x * b0) (x * b1) (x * b2) (x * b3) := by
  unfold num4
  simp only [Nat.mul_add, Nat.mul_left_comm x]

theorem mul_num4 (a0 a1 a2 a3 b0 b1 b2 b3 : Nat) :
  num4 a0 a1 a2 a3 * num4 b0 b1 b2 b3 = num4 (a0 * b0) (a0 * b1) (a0 * b2) (a0 * b3) + 18446744073709551616 * num4 (a1 * b0) (a1 * b1) (a1 * b2) (a1 * b3) + 340282366920938463463374607431768211456 * num4 (a2 * b0) (a2 * b1) (a2 * b2) (a2 * b3) + 6277101735386680763835789423207666416102355444464034512896 * num4 (a3 * b0) (a3 * b1) (a3 * b2) (a3 * b3) := by
  rw [← num4_mul, ← num4_mul, ← num4_mul, ← num4_mul]
  generalize num4 b0 b1 b2 b3 = B
  unfold num4
  simp only [Nat.add_mul, Nat.mul_assoc]

end Go.Proofs.Ytgmgejjlhlibkaa
