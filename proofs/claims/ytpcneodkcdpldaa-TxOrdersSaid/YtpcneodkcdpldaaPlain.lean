/- Plain facts on comparing lists of bytes and outpoints, and what the model's entry for internal/bytealg.Compare gives for two rows of bytes in memory. No condition. -/
import Derived.Lib.Bytealg
import Derived.Lib.BytesEntry
namespace Go.Proofs.Ytpcneodkcdpldaa
open Go.Lib

/-- Which of two lists of numbers stands ahead. -/
def cmpInts : List Int → List Int → Int
  | [], [] => 0
  | [], _ :: _ => -1
  | _ :: _, [] => 1
  | a :: as, b :: bs => if a < b then -1 else if b < a then 1 else cmpInts as bs

def cmpInt (a b : Int) : Int := if a < b then -1 else if b < a then 1 else 0

/-- Which of two outpoints stands ahead. -/
def cmpOut (xs ys : List Int) (n m : Int) : Int := if cmpInts xs ys = 0 then cmpInt n m else cmpInts xs ys

theorem cmpInts_self : ∀ xs, cmpInts xs xs = 0
  | [] => rfl
  | x :: xs => by simp [cmpInts, cmpInts_self xs]

theorem cmpInt_self (n : Int) : cmpInt n n = 0 := by simp [cmpInt]

theorem cmpOut_self (xs : List Int) (n : Int) : cmpOut xs xs n n = 0 := by simp [cmpOut, cmpInts_self, cmpInt_self]

theorem cmpInts_append : ∀ (p xs ys : List Int), cmpInts (p ++ xs) (p ++ ys) = cmpInts xs ys
  | [], _, _ => rfl
  | a :: p, xs, ys => by simp [cmpInts, cmpInts_append p xs ys]

def isByte (x : Int) : Prop := 0 ≤ x ∧ x ≤ 255

theorem bytesOf_cons (x : Int) (xs : List Int) : bytesOf (x :: xs) = x.toNat.toUInt8 :: bytesOf xs := rfl

theorem lt_byte {a b : Int} (ha : isByte a) (hb : isByte b) : (a.toNat.toUInt8 < b.toNat.toUInt8) ↔ a < b := by
  obtain ⟨h1, h2⟩ := ha
  obtain ⟨h3, h4⟩ := hb
  rw [UInt8.lt_iff_toNat_lt]
  simp
  omega

theorem compareBytes_eq : ∀ (xs ys : List Int), (∀ x ∈ xs, isByte x) → (∀ y ∈ ys, isByte y) → compareBytes (bytesOf xs) (bytesOf ys) = cmpInts xs ys
  | [], [], _, _ => rfl
  | [], _ :: _, _, _ => rfl
  | _ :: _, [], _, _ => rfl
  | a :: as, b :: bs, hx, hy => by
    have ih := compareBytes_eq as bs (fun x h => hx x (by simp [h])) (fun y h => hy y (by simp [h]))
    have h1 := lt_byte (hx a (by simp)) (hy b (by simp))
    have h2 := lt_byte (hy b (by simp)) (hx a (by simp))
    rw [bytesOf_cons, bytesOf_cons]
    simp only [compareBytes, cmpInts, ih, h1, h2]

/-- internal/bytealg.Compare at two rows of bytes. -/
theorem run_compareSlices {P : Program} {w : World} (a b : Addr) (ca cb : Nat) (xs ys : List Int)
    (hx : ∀ j x, xs[j]? = some x → w.cell? (a.add j) = some (.int .u8 x)) (hy : ∀ j y, ys[j]? = some y → w.cell? (b.add j) = some (.int .u8 y)) :
    (Extern.BytealgCompare.compare #[.slice (some a) xs.length ca, .slice (some b) ys.length cb]).run P w = .ok (.int .i64 (compareBytes (bytesOf xs) (bytesOf ys))) w := by
  change Sem.run P (do pure (goInt (Extern.BytealgCompare.cmp (← Extern.Bytes.loadBytes a xs.length .empty) (← Extern.Bytes.loadBytes b ys.length .empty)))) w = _
  simp only [Sem.run_bind, run_loadBytesX (P := P) w xs a .empty hx, run_loadBytesX (P := P) w ys b .empty hy, Sem.run_pure, Result.andThen]
  rw [cmp_eq]
  simp [goInt]

end Go.Proofs.Ytpcneodkcdpldaa
