/- The document's refusals: bytes and digits of another length. -/
import Derived.Test.YtgmgejjlhlibkaaRefWJ
import Derived.Test.YtgmgejjlhlibkaaRefWM
namespace Go.Proofs.Ytgmgejjlhlibkaa.Oct
set_option linter.unusedVariables false
open Go.Proofs.Ytgmgejjlhlibkaa Go.RowKit Go.Shelf

set_option maxRecDepth 100000 in
set_option maxHeartbeats 1000000 in
theorem rRead_short (A : Option Addr) (k c : Nat) (hk : ((k : Int) != 32) = true) (w : World) :
    Calls Try.prog 13 #[.slice A k c] w fun e w' => e = .returned (.tuple #[.agg (wcells 0), .int .i64 30]) ∧ Below w.heap.size w w' := by
  have hH := keeps1p w
  go_enter Try.func13, Try.ntmps13
  go_wp2_with (first | (refine wpList_put hH 0 rfl 24 _ _ rfl rfl rfl rfl (infoW 0) rfl (oneW 0) ?_; clear hH; intro W1 hH))
  exact bodyPost_ret (results_two _ _ _ w.heap.size 0 30 rfl rfl rfl (hH.get 0 rfl)) rfl ⟨rfl, hH.bel⟩
set_option maxRecDepth 100000 in
set_option maxHeartbeats 1000000 in
theorem rParse_short (s : ByteArray) (hl : s.size ≠ 64) (w : World) :
    Calls Try.prog 15 #[.string s] w fun e w' => e = .returned (.tuple #[.agg (wcells 0), .int .i64 30]) ∧ Below w.heap.size w w' := by
  have h1 : ((s.size : Int) != 64) = true := by simp; omega
  have hH := keeps1p w
  go_enter Try.func15, Try.ntmps15
  go_wp2_with (first | (refine wpList_put hH 0 rfl 24 _ _ rfl rfl rfl rfl (infoW 0) rfl (oneW 0) ?_; clear hH; intro W1 hH))
  exact bodyPost_ret (results_two _ _ _ w.heap.size 0 30 rfl rfl rfl (hH.get 0 rfl)) rfl ⟨rfl, hH.bel⟩

/-- What a reader of bytes answers. -/
def readV (bs : List UInt8) : Value := if bs.length = 32 then .tuple #[.agg (wcells (leN bs)), .int .i64 0] else .tuple #[.agg (wcells 0), .int .i64 30]
/-- What a reader of digits answers. -/
def parseV (s : ByteArray) : Value := if s.size = 64 then parsed s.data.toList else .tuple #[.agg (wcells 0), .int .i64 30]
theorem rRead_all (A : Option Addr) (bs : List UInt8) (c : Nat) (w : World) (hh : Holds8 w.heap.size w A bs) :
    Calls Try.prog 13 #[.slice A bs.length c] w fun e w' => e = .returned (readV bs) ∧ Below w.heap.size w w' := by
  unfold readV
  by_cases h : bs.length = 32
  · rw [if_pos h]
    exact rRead_any A bs c h w hh
  · rw [if_neg h]
    exact rRead_short A _ c (by simp; omega) w
theorem rParse_all (s : ByteArray) (w : World) : Calls Try.prog 15 #[.string s] w fun e w' => e = .returned (parseV s) ∧ Below w.heap.size w w' := by
  unfold parseV
  by_cases h : s.size = 64
  · rw [if_pos h]
    exact rParse_any s _ rfl (by simpa using h) w
  · rw [if_neg h]
    exact rParse_short s h w
theorem parse_all (s : ByteArray) (w : World) : Calls Try.prog 14 #[.string s] w fun e w' => e = .returned (parseV s) ∧ Below w.heap.size w w' := by
  unfold parseV
  by_cases h : s.size = 64
  · rw [if_pos h]
    exact parse_any s _ rfl (by simpa using h) w
  · rw [if_neg h]
    exact parse_short s h w
end Go.Proofs.Ytgmgejjlhlibkaa.Oct
