/- SHA-256 as plain functions on numbers and lists of bytes; its values for the chapter's first examples. No condition. -/
import GoSem.Core.Value
namespace Go.Proofs.Ytfpgjabbpcndfaa.Oct

structure St where
  a : Nat
  b : Nat
  c : Nat
  d : Nat
  e : Nat
  f : Nat
  g : Nat
  h : Nat

/-- A word of 32 bits turned to the right. -/
def rot (x n : Nat) : Nat := (x * 2 ^ (32 - n)) % 4294967296 ||| x / 2 ^ n

def s0 (x : Nat) : Nat := rot x 7 ^^^ rot x 18 ^^^ x / 8
def s1 (x : Nat) : Nat := rot x 17 ^^^ rot x 19 ^^^ x / 1024
def t0 (x : Nat) : Nat := rot x 2 ^^^ rot x 13 ^^^ rot x 22
def t1 (x : Nat) : Nat := rot x 6 ^^^ rot x 11 ^^^ rot x 25
def ch (e f g : Nat) : Nat := (e &&& f) ^^^ ((4294967295 - e) &&& g)
def maj (a b c : Nat) : Nat := (a &&& b) ^^^ (a &&& c) ^^^ (b &&& c)
def one (s : St) (k w : Nat) : Nat := (s.h + t1 s.e + ch s.e s.f s.g + k + w) % 4294967296
def two (s : St) : Nat := (t0 s.a + maj s.a s.b s.c) % 4294967296
def rnd (s : St) (k w : Nat) : St := ⟨(one s k w + two s) % 4294967296, s.a, s.b, s.c, (s.d + one s k w) % 4294967296, s.e, s.f, s.g⟩

def cub : List Nat := [0x428a2f98, 0x71374491, 0xb5c0fbcf, 0xe9b5dba5, 0x3956c25b, 0x59f111f1, 0x923f82a4, 0xab1c5ed5,
    0xd807aa98, 0x12835b01, 0x243185be, 0x550c7dc3, 0x72be5d74, 0x80deb1fe, 0x9bdc06a7, 0xc19bf174,
    0xe49b69c1, 0xefbe4786, 0x0fc19dc6, 0x240ca1cc, 0x2de92c6f, 0x4a7484aa, 0x5cb0a9dc, 0x76f988da,
    0x983e5152, 0xa831c66d, 0xb00327c8, 0xbf597fc7, 0xc6e00bf3, 0xd5a79147, 0x06ca6351, 0x14292967,
    0x27b70a85, 0x2e1b2138, 0x4d2c6dfc, 0x53380d13, 0x650a7354, 0x766a0abb, 0x81c2c92e, 0x92722c85,
    0xa2bfe8a1, 0xa81a664b, 0xc24b8b70, 0xc76c51a3, 0xd192e819, 0xd6990624, 0xf40e3585, 0x106aa070,
    0x19a4c116, 0x1e376c08, 0x2748774c, 0x34b0bcb5, 0x391c0cb3, 0x4ed8aa4a, 0x5b9cca4f, 0x682e6ff3,
    0x748f82ee, 0x78a5636f, 0x84c87814, 0x8cc70208, 0x90befffa, 0xa4506ceb, 0xbef9a3f7, 0xc67178f2]
def squ : St := ⟨0x6a09e667, 0xbb67ae85, 0x3c6ef372, 0xa54ff53a, 0x510e527f, 0x9b05688c, 0x1f83d9ab, 0x5be0cd19⟩

/-- The state after so many rounds. -/
def rnds (s : St) (ws : List Nat) : Nat → St
  | 0 => s
  | i + 1 => rnd (rnds s ws i) (cub.getD i 0) (ws.getD i 0)

/-- Word n of a block: its bytes, the highest first. -/
def word4 (b : List UInt8) (n : Nat) : Nat := (((b.getD (4 * n) 0).toNat * 256 + (b.getD (4 * n + 1) 0).toNat) * 256 + (b.getD (4 * n + 2) 0).toNat) * 256 + (b.getD (4 * n + 3) 0).toNat
def nextW (l : List Nat) (i : Nat) : Nat := (l.getD i 0 + s0 (l.getD (i + 1) 0) + l.getD (i + 9) 0 + s1 (l.getD (i + 14) 0)) % 4294967296
def sch (b : List UInt8) : Nat → List Nat
  | 0 => (List.range 16).map (word4 b)
  | i + 1 => sch b i ++ [nextW (sch b i) i]
def add8 (s t : St) : St := ⟨(s.a + t.a) % 4294967296, (s.b + t.b) % 4294967296, (s.c + t.c) % 4294967296, (s.d + t.d) % 4294967296, (s.e + t.e) % 4294967296, (s.f + t.f) % 4294967296, (s.g + t.g) % 4294967296, (s.h + t.h) % 4294967296⟩
/-- The state behind a block. -/
def comp (s : St) (b : List UInt8) : St := add8 s (rnds s (sch b 48) 64)
def fold (s : St) : Nat → List UInt8 → St
  | 0, _ => s
  | n + 1, m => fold (comp s (m.take 64)) n (m.drop 64)
def stOf (m : List UInt8) : St := fold squ (m.length / 64) m
def padLen (n : Nat) : Nat := if 64 - n % 64 < 9 then 64 - n % 64 + 64 else 64 - n % 64
def padding (n : Nat) : List UInt8 := 128 :: (List.replicate (padLen n - 9) 0 ++ (List.range 8).map fun i => UInt8.ofNat (8 * n / 2 ^ (8 * (7 - i))))
def words (s : St) : List Nat := [s.a, s.b, s.c, s.d, s.e, s.f, s.g, s.h]
def bytes4 (x : Nat) : List UInt8 := (List.range 4).map fun j => UInt8.ofNat (x / 2 ^ (24 - 8 * j))
def hashOf (s : St) : List UInt8 := ((words s).map bytes4).flatten
def sha (m : List UInt8) : List UInt8 := hashOf (stOf (m ++ padding m.length))

/-! The same, each number worked out at once. -/
def frc {α : Type} (n : Nat) (k : Nat → α) : α := Nat.rec (k 0) (fun m _ => k (m + 1)) n
theorem frc_eq {α : Type} (n : Nat) (k : Nat → α) : frc n k = k n := by cases n <;> rfl
def rndF {α : Type} (s : St) (k w : Nat) (c : St → α) : α :=
  frc (one s k w) fun o => frc (two s) fun t => frc ((o + t) % 4294967296) fun a => frc ((s.d + o) % 4294967296) fun e => c ⟨a, s.a, s.b, s.c, e, s.e, s.f, s.g⟩
theorem rndF_eq {α : Type} (s : St) (k w : Nat) (c : St → α) : rndF s k w c = c (rnd s k w) := by
  simp only [rndF, frc_eq, rnd]
def rndsF {α : Type} : List (Nat × Nat) → St → (St → α) → α
  | [], s, c => c s
  | (k, w) :: l, s, c => rndF s k w fun t => rndsF l t c
/-- Words, the last one first, with the window of the last sixteen. -/
def forced {α : Type} : List Nat → (List Nat → α) → α
  | [], c => c []
  | x :: l, c => frc x fun y => forced l fun m => c (y :: m)
theorem forced_eq {α : Type} (l : List Nat) (c : List Nat → α) : forced l c = c l := by
  induction l generalizing c with
  | nil => rfl
  | cons x l ih => simp only [forced, frc_eq, ih]
def schF {α : Type} (b : List UInt8) : Nat → (List Nat → α) → α
  | 0, c => forced ((List.range 16).map (word4 b)) c
  | i + 1, c => schF b i fun l => frc (nextW l i) fun x => c (l ++ [x])
theorem schF_eq {α : Type} (b : List UInt8) (n : Nat) (c : List Nat → α) : schF b n c = c (sch b n) := by
  induction n generalizing c with
  | zero => unfold schF sch; rw [forced_eq]
  | succ n ih => unfold schF; rw [ih, frc_eq]; exact congrArg c (by rw [sch])

def pairsU : List Nat → List Nat → List (Nat × Nat)
  | [], _ => []
  | k :: ks, ws => (k, ws.headD 0) :: pairsU ks ws.tail
def forcedS {α : Type} (s : St) (c : St → α) : α :=
  frc s.a fun a => frc s.b fun b => frc s.c fun c' => frc s.d fun d => frc s.e fun e => frc s.f fun f => frc s.g fun g => frc s.h fun h => c ⟨a, b, c', d, e, f, g, h⟩
def compF {α : Type} (s : St) (b : List UInt8) (c : St → α) : α :=
  schF b 48 fun ws => rndsF (pairsU cub ws) s fun t => forcedS (add8 s t) c

theorem forcedS_eq {α : Type} (s : St) (c : St → α) : forcedS s c = c s := by
  unfold forcedS
  simp only [frc_eq]
theorem rndsF_eq {α : Type} (l : List (Nat × Nat)) (s : St) (c : St → α) : rndsF l s c = c (l.foldl (fun t p => rnd t p.1 p.2) s) := by
  induction l generalizing s with
  | nil => rfl
  | cons p l ih =>
    obtain ⟨k, w⟩ := p
    unfold rndsF
    rw [rndF_eq, ih]
    rfl
theorem pairsU_eq (ks ws : List Nat) (h : ks.length = ws.length) : pairsU ks ws = ks.zip ws := by
  induction ks generalizing ws with
  | nil => simp [pairsU]
  | cons k ks ih =>
    cases ws with
    | nil => simp at h
    | cons w ws =>
      simp only [pairsU, List.headD_cons, List.tail_cons, List.zip_cons_cons]
      rw [ih ws (by simpa using h)]
theorem sch_length (b : List UInt8) (n : Nat) : (sch b n).length = 16 + n := by
  induction n with
  | zero => unfold sch; rw [List.length_map, List.length_range]
  | succ n ih => unfold sch; rw [List.length_append, ih]; rfl
theorem rnds_zip (s : St) (ws ks : List Nat) (h : ks.length = ws.length) (n : Nat) (hn : n ≤ ks.length) :
    ((ks.zip ws).take n).foldl (fun t p => rnd t p.1 p.2) s = Nat.rec s (fun i t => rnd t (ks.getD i 0) (ws.getD i 0)) n := by
  induction n with
  | zero => rw [List.take_zero]; rfl
  | succ n ih =>
    have h1 : n < (ks.zip ws).length := by rw [List.length_zip]; omega
    rw [List.take_succ_eq_append_getElem h1, List.foldl_append, ih (by omega)]
    simp only [List.foldl_cons, List.foldl_nil, List.getElem_zip]
    have e1 : ks.getD n 0 = ks[n]'(by omega) := by simp [List.getD, show n < ks.length by omega]
    have e2 : ws.getD n 0 = ws[n]'(by omega) := by simp [List.getD, show n < ws.length by omega]
    rw [e1, e2]
theorem rnds_rec (s : St) (ws : List Nat) (n : Nat) : rnds s ws n = Nat.rec s (fun i t => rnd t (cub.getD i 0) (ws.getD i 0)) n := by
  induction n with
  | zero => rfl
  | succ n ih => rw [rnds, ih]
theorem cub_length : cub.length = 64 := rfl
theorem compF_eq {α : Type} (s : St) (b : List UInt8) (c : St → α) : compF s b c = c (comp s b) := by
  unfold compF
  rw [schF_eq]
  have hl : cub.length = (sch b 48).length := by rw [sch_length, cub_length]
  rw [rndsF_eq, forcedS_eq, pairsU_eq _ _ hl]
  have h := rnds_zip s (sch b 48) cub hl 64 (Nat.le_of_eq cub_length.symm)
  rw [List.take_of_length_le (by rw [List.length_zip, ← hl, cub_length]; decide)] at h
  rw [h, ← rnds_rec]
  rfl
/-- The hash, worked out. -/
def foldF {α : Type} : Nat → St → List UInt8 → (St → α) → α
  | 0, s, _, c => c s
  | n + 1, s, m, c => compF s (m.take 64) fun t => foldF n t (m.drop 64) c
theorem foldF_eq {α : Type} (n : Nat) (s : St) (m : List UInt8) (c : St → α) : foldF n s m c = c (fold s n m) := by
  induction n generalizing s m with
  | zero => rfl
  | succ n ih => unfold foldF; rw [compF_eq, ih, fold]
def shaF (m : List UInt8) : List UInt8 := foldF ((m ++ padding m.length).length / 64) squ (m ++ padding m.length) hashOf
theorem shaF_eq (m : List UInt8) : shaF m = sha m := by
  unfold shaF sha stOf
  rw [foldF_eq]
set_option maxRecDepth 100000 in
theorem sha_nil : sha [] = [0xe3, 0xb0, 0xc4, 0x42, 0x98, 0xfc, 0x1c, 0x14, 0x9a, 0xfb, 0xf4, 0xc8, 0x99, 0x6f, 0xb9, 0x24, 0x27, 0xae, 0x41, 0xe4, 0x64, 0x9b, 0x93, 0x4c, 0xa4, 0x95, 0x99, 0x1b, 0x78, 0x52, 0xb8, 0x55] := by
  rw [← shaF_eq]
  decide +kernel
set_option maxRecDepth 100000 in
theorem sha_abc : sha [97, 98, 99] = [0xba, 0x78, 0x16, 0xbf, 0x8f, 0x01, 0xcf, 0xea, 0x41, 0x41, 0x40, 0xde, 0x5d, 0xae, 0x22, 0x23, 0xb0, 0x03, 0x61, 0xa3, 0x96, 0x17, 0x7a, 0x9c, 0xb4, 0x10, 0xff, 0x61, 0xf2, 0x00, 0x15, 0xad] := by
  rw [← shaF_eq]
  decide +kernel

/-! What stands of it for sums and lengths. -/
theorem rot_lt (x n : Nat) (hx : x < 4294967296) : rot x n < 4294967296 := by
  unfold rot
  refine Nat.or_lt_two_pow (n := 32) (Nat.mod_lt _ (by decide)) ?_
  exact Nat.lt_of_le_of_lt (Nat.div_le_self _ _) hx
theorem fold_append (s : St) (n k : Nat) (a b : List UInt8) (h : a.length = 64 * n) : fold s (n + k) (a ++ b) = fold (fold s n a) k b := by
  induction n generalizing s a with
  | zero =>
    have : a = [] := List.eq_nil_of_length_eq_zero (by omega)
    subst this
    rw [Nat.zero_add, fold, List.nil_append]
  | succ n ih =>
    have e : n + 1 + k = (n + k) + 1 := by omega
    rw [e, fold, fold]
    rw [List.take_append_of_le_length (by omega), List.drop_append_of_le_length (by omega), ih _ _ (by rw [List.length_drop]; omega)]
theorem fold_take (s : St) (n : Nat) (a b : List UInt8) (h : 64 * n ≤ a.length) : fold s n (a ++ b) = fold s n a := by
  induction n generalizing s a with
  | zero => rfl
  | succ n ih => rw [fold, fold, List.take_append_of_le_length (by omega), List.drop_append_of_le_length (by omega), ih _ _ (by rw [List.length_drop]; omega)]
theorem stOf_short (m x : List UInt8) (h : m.length % 64 + x.length < 64) : stOf (m ++ x) = stOf m := by
  unfold stOf
  rw [List.length_append, show (m.length + x.length) / 64 = m.length / 64 by omega, fold_take _ _ _ _ (by omega)]
theorem stOf_full (m x : List UInt8) (h : m.length % 64 + x.length = 64) : stOf (m ++ x) = comp (stOf m) (m.drop (m.length / 64 * 64) ++ x) := by
  have hd := Nat.div_add_mod m.length 64
  have hl : (m.take (m.length / 64 * 64)).length = 64 * (m.length / 64) := by rw [List.length_take]; omega
  have e1 : stOf m = fold squ (m.length / 64) (m.take (m.length / 64 * 64)) := by
    have := fold_take squ (m.length / 64) (m.take (m.length / 64 * 64)) (m.drop (m.length / 64 * 64)) (by omega)
    rw [List.take_append_drop] at this
    exact this
  have e2 : m ++ x = m.take (m.length / 64 * 64) ++ (m.drop (m.length / 64 * 64) ++ x) := by rw [← List.append_assoc, List.take_append_drop]
  rw [e1]
  unfold stOf
  rw [List.length_append, show (m.length + x.length) / 64 = m.length / 64 + 1 by omega, e2, fold_append _ _ 1 _ _ hl]
  rw [fold, fold]
  congr 1
  exact List.take_of_length_le (by rw [List.length_append, List.length_drop]; omega)
end Go.Proofs.Ytfpgjabbpcndfaa.Oct
