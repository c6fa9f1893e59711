/- The contract of purserref01.Bytes. No condition beyond the memory's reach. -/
import Derived.Test.YtngkckngjobojaaOctV
namespace Go.Proofs.Ytngkckngjobojaa.Oct
open Go.Proofs.Ytngkckngjobojaa Go.RowKit Go.Shelf
set_option maxRecDepth 100000 in
set_option maxHeartbeats 2000000 in
theorem refBytes_in (bs : List UInt8) (A : Option Addr) (c n₀ : Nat) (w : World) (hh : Bytes8 n₀ w A bs) (hn : n₀ ≤ w.heap.size) (hl : bs.length ≤ 100000000000) :
    Calls Try.prog 35 #[.slice A bs.length c] w (OwnBytes w (sizeB bs.length ++ bs)) := by
  have HS := Lib.hid (fun W => refSize_any bs.length (by omega) W)
  have hsl : (sizeB bs.length).length ≤ 9 := by rw [sizeB_length]; unfold cmpL; (repeat' split) <;> omega
  have HH := Lib.hid hh
  clear hh
  go_enter Try.func35, Try.ntmps35
  go_wp2_with (first
    | (go_at_call 14; refine (HS.out _).mono ?_; rintro e w1 ⟨v, rfl, hr, hb⟩)
    | (at_builtin; refine wpList_append_in rfl (.tmp 6) (.tmp 7) rfl w.heap.size n₀ v (sizeB bs.length) bs rfl hr A c rfl (HH.out.below hb hn) (by omega) hb.size ?_; intro v' w2 hown' hgr hv))
  go_ret
  exact ⟨_, rfl, hown', hb.grown hgr hb.size (fun r e => own_row_ge hr r e)⟩
end Go.Proofs.Ytngkckngjobojaa.Oct
