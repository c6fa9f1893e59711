/- The walk of TxOrders: it returns true, and leaves what was there. Both arguments are outpoints: 32 bytes and a number each. -/
import Derived.Test.YtpcneodkcdpldaaOrdA
import Derived.Test.YtpcneodkcdpldaaKit
namespace Go.Proofs.Ytpcneodkcdpldaa
open Go.RowKit Go.Lib

/-- Both arguments lie in their boxes, and what was there lies as it lay. -/
structure Two (w : World) (cs ds : Array Value) (W : World) : Prop where
  fst : W.heap[w.heap.size]? = some (.cells cs 26)
  snd : W.heap[w.heap.size + 1]? = some (.cells ds 26)
  big : w.heap.size + 2 ≤ W.heap.size
  bel : Below w.heap.size w W

theorem Two.start (w : World) (cs ds : Array Value) : Two w cs ds ((w.alloc (.cells cs 26)).alloc (.cells ds 26)).drew :=
  ⟨heap_alloc2_old w _ _, heap_alloc2_new w _ _, by simp [World.drew], below_two w _ _⟩

theorem Two.below {w : World} {cs ds : Array Value} {W W' : World} (h : Two w cs ds W) (hb : Below W.heap.size W W') : Two w cs ds W' :=
  ⟨by rw [hb.block _ (by have := h.big; omega)]; exact h.fst, by rw [hb.block _ (by have := h.big; omega)]; exact h.snd, by have := h.big; have := hb.size; omega, h.bel.trans (hb.mono (by have := h.big; omega))⟩

theorem Two.drew {w : World} {cs ds : Array Value} {W : World} (h : Two w cs ds W) : Two w cs ds W.drew := ⟨h.fst, h.snd, h.big, h.bel.drew⟩

set_option maxHeartbeats 1000000 in
theorem orders_any (cs ds : Array Value) (xs ys : List Int) (n m : Int) (w : World) (hc : IsOut cs xs n) (hd : IsOut ds ys m) :
    Calls Try.prog 3 #[.agg cs, .agg ds] w fun e w' => e = .returned (.bool true) ∧ Below w.heap.size w w' := by
  have HC := Lib.hid hc
  have HD := Lib.hid hd
  have hi : (Try.prog.info? 26).map (·.size) = some 33 := by kernel_rfl
  have I1 := Lib.hid (show (Try.prog.info? 26).map (·.size) = some cs.size by rw [hc.1]; exact hi)
  have I2 := Lib.hid (show (Try.prog.info? 26).map (·.size) = some ds.size by rw [hd.1]; exact hi)
  clear hc hd hi
  have h0 := cmpOut_self xs n
  go_enter Try.func3, Try.ntmps3
  go_wp2
  refine wp_region_class (C := Two w cs ds) (by kernel_rfl) (by kernel_rfl) (Two.start w cs ds) ?_
  refine quiet_load_row rfl 26 _ rfl _ rfl 26 cs (0, 0) _ (fun W h => h.fst) Try.underlying26 rfl I1.out ?_
  refine quiet_load_row rfl 26 _ rfl _ rfl 26 ds (0, 0) _ (fun W h => h.snd) Try.underlying26 rfl I2.out ?_
  quiet_step ((exact fun h => (compare_any _ _ _ _ _ _ _ HC.out HD.out).mono fun _ _ k => ⟨k.1, h.below k.2⟩))
  refine quiet_load_row rfl 26 _ rfl _ rfl 26 cs (0, 0) _ (fun W h => h.fst) Try.underlying26 rfl I1.out ?_
  refine quiet_load_row rfl 26 _ rfl _ rfl 26 ds (0, 0) _ (fun W h => h.snd) Try.underlying26 rfl I2.out ?_
  quiet_step ((exact fun h => (refcompare_any _ _ _ _ _ _ _ HC.out HD.out).mono fun _ _ k => ⟨k.1, h.below k.2⟩))
  (refine wpQuiet_step (fun K hK => ?_); go_simp; (first | refine hK _ ?_ | refine ⟨_, fun _ _ => rfl, hK _ ?_⟩); clear hK K)
  (refine wpQuiet_step (fun K hK => ?_); go_simp; (first | refine hK _ ?_ | refine ⟨_, fun _ _ => rfl, hK _ ?_⟩); clear hK K)
  refine quiet_load_row rfl 26 _ rfl _ rfl 26 cs (0, 0) _ (fun W h => h.fst) Try.underlying26 rfl I1.out ?_
  refine quiet_load_row rfl 26 _ rfl _ rfl 26 cs (0, 0) _ (fun W h => h.fst) Try.underlying26 rfl I1.out ?_
  quiet_step ((exact fun h => (compare_any _ _ _ _ _ _ _ HC.out HC.out).mono fun _ _ k => ⟨k.1, h.below k.2⟩))
  repeat (refine wpQuiet_step (fun K hK => ?_); go_simp; (first | refine hK _ ?_ | refine ⟨_, fun _ _ => rfl, hK _ ?_⟩); clear hK K)
  refine wpQuiet_nil ?_
  intro W hW
  go_wp2
  go_ret
  exact ⟨rfl, hW.bel⟩

end Go.Proofs.Ytpcneodkcdpldaa
