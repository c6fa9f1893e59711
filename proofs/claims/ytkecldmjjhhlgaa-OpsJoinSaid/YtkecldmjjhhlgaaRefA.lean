/- The contracts of purserref01.power, Fixed, Twin. No condition beyond the memory's reach. -/
import Derived.Test.YtkecldmjjhhlgaaOctI
namespace Go.Proofs.Ytkecldmjjhhlgaa.Oct
open Go.Proofs.Ytkecldmjjhhlgaa Go.RowKit Go.Shelf

/-- Bytes and a number, answered. -/
def OwnPair (w : World) (R : List UInt8 × Int) (e : Ending) (w' : World) : Prop := ∃ v, e = .returned (.tuple #[v, .int .i64 R.2]) ∧ w'.ownsRow w.heap.size 5 1 v R.1.length (vals R.1) ∧ Below w.heap.size w w'
set_option maxHeartbeats 1000000 in
theorem twin_own (bs : List UInt8) (A : Option Addr) (c n₀ : Nat) (w : World) (hh : Holds8 n₀ w A bs) (hl : bs.length ≤ 140737488355328) :
    Calls Try.prog 30 #[.slice A bs.length c] w (OwnBytes w bs) := by
  have hoe : w.ownsRow w.heap.size 5 1 (.slice none 0 0) ([] : List UInt8).length (vals []) := World.ownsRow_nil _ _ _ _
  have HH := Lib.hid hh
  clear hh
  go_enter Try.func30, Try.ntmps30
  go_wp2_with (at_builtin; refine wpList_append_bytes rfl (.tmp 4) (.tmp 5) rfl w.heap.size _ _ [] bs rfl hoe A c rfl HH.out (by simpa using hl) (Nat.le_refl _) ?_; intro v' w1 hown' hgr hv)
  go_ret
  exact ⟨_, rfl, hown', (Below.refl _ w).grown hgr (Nat.le_refl _) (fun k hk => by cases hk)⟩

theorem sizeNot (s : Int) (h : sizeOkB s = false) : (s != 1) = true ∧ (s != 2) = true ∧ (s != 4) = true ∧ (s != 8) = true := by
  unfold sizeOkB at h
  simp only [Bool.or_eq_false_iff, beq_eq_false_iff_ne] at h
  simp only [bne_iff_ne]
  omega
end Go.Proofs.Ytkecldmjjhhlgaa.Oct
