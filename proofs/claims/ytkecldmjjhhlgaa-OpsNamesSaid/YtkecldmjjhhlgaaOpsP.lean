/- What the chapter's examples call: literals laid, made rows, and what they come to. No condition beyond the memory's reach. -/
import Derived.Test.YtkecldmjjhhlgaaOpsN
import Derived.Test.YtkecldmjjhhlgaaOpsF
import Derived.Deep.OwnRows
namespace Go.Proofs.Ytkecldmjjhhlgaa.Oct
open Go.Proofs.Ytkecldmjjhhlgaa Go.RowKit Go.Shelf
theorem lit_at (w : World) (bs : List UInt8) (cs : Array Value) (hc : cs = (vals bs).toArray) (n : Nat) : ∃ W, (convert 22 22 (.slice (some ⟨w.heap.size, 0, none⟩) n n)).run Try.prog (w.alloc (.cells cs 5)) = .ok (.slice (some ⟨w.heap.size, 0, none⟩) n n) W ∧ Below w.heap.size w W ∧ Holds8 W.heap.size W (some ⟨w.heap.size, 0, none⟩) bs ∧ W.heap.size = w.heap.size + 1 :=
  ⟨laid w bs, laid_conv w bs cs hc n, laid_below w bs, laid_holds w bs, laid_size w bs⟩

theorem make_at (w : World) (n : Nat) (hn : n ≤ 1000000) : ∃ W bs, (Instr.makeSlice 22 (.int .i64 (n : Int)) (.int .i64 (n : Int))).run Try.prog w = .ok (.slice (some ⟨w.heap.size, 0, none⟩) n n) W ∧ Below w.heap.size w W ∧ Holds8 W.heap.size W (some ⟨w.heap.size, 0, none⟩) bs ∧ bs.length = n ∧ headB bs = false ∧ W.heap.size = w.heap.size + 1 := by
  refine ⟨_, List.replicate n 0, run_make_row' 22 5 (.int .u8 0) 1 Try.underlying22 byte_info rfl .i64 .i64 n (by omega) (by omega) w, below_new w _, .inr ⟨w.heap.size, 0, rfl, by simp, fun j hj => ?_⟩, List.length_replicate, ?_, by simp⟩
  · have hj2 : j < n := by simpa using hj
    rw [cell_of_row _ _ _ _ _ _ (World.alloc_heap_new w _), Nat.zero_add]
    unfold madeCells
    simp [hj2, Nat.mod_one]
  · cases n with
    | zero => rfl
    | succ n => rfl
theorem pushed_any (n : Nat) (hn : n ≤ 65535) (c : UInt8) (hc : c.toNat = pushC n) (w : World) : Calls Try.prog 25 #[.int .i64 (n : Int), .int .u8 (c.toNat : Int)] w fun e w' => e = .returned (.bool true) ∧ Below w.heap.size w w' := by
  obtain ⟨W, bs, hmk, hbm, hh, hlen, _, _⟩ := make_at w n (by omega)
  have HPU := Lib.hid (push_any bs n hlen.symm (by omega) (some ⟨w.heap.size, 0, none⟩) n W.heap.size W (.inl hh) (Nat.le_refl _))
  have HBM := Lib.hid hbm
  have HL := Lib.hid hlen
  have HC := Lib.hid hc
  clear hbm hh hlen hc
  go_enter Try.func25, Try.ntmps25
  go_wp2_with (go_at_call 22; refine HPU.out.mono ?_; intro e wp hr; obtain ⟨pc, X, cx, rfl, hpc, _, _, hb⟩ := hr.ok n HL.out hn; obtain rfl : pc = c := UInt8.toNat_inj.1 (by rw [hpc, HC.out, HL.out]); have HB2 := Lib.hid (btr HBM.out hb HBM.out.size); clear hr hpc hb)
  go_ret
  exact ⟨rfl, btr HB2.out (below_new wp _) HB2.out.size⟩
theorem split_of (M : List (UInt8 × List UInt8)) (hv : M.all validB = true) (u : List UInt8) (hu : joinB M = u) : splitL u = some M := by
  have hsp : splitL ([] : List UInt8) = some [] := by unfold splitL; rfl
  have q := join_split M hv []
  rw [List.append_nil, hsp, hu] at q
  rw [q]
  simp
theorem splits_of (M : List (UInt8 × List UInt8)) (hv : M.all validB = true) (u : List UInt8) (hu : joinB M = u) (l : List PV) (hl : l.map PV.is = M) : splitsB u l = true := by
  unfold splitsB
  rw [split_of M hv u hu, hl]
  simp
theorem pushes_of (M : List (UInt8 × List UInt8)) (hv : M.all validB = true) (u : List UInt8) (hu : joinB M = u) : pushesB u = pushesL M := by
  unfold pushesB
  rw [split_of M hv u hu]
theorem n1 : splitL [2, 97] = none := by rw [splitL, if_neg (by decide)]
theorem n2 : splitL [77, 1] = none := by rw [splitL, if_neg (by decide)]
theorem n3 : splitL [76] = none := by rw [splitL, if_neg (by decide)]
theorem n4 : splitL [77, 2, 0, 97] = none := by rw [splitL, if_neg (by decide)]
theorem p1 : pushesB [0, 79, 81, 1, 97] = true := (pushes_of [(0, []), (79, []), (81, []), (1, [97])] (by decide) [0, 79, 81, 1, 97] rfl).trans (by decide)
theorem p2 : pushesB [97] = false := (pushes_of [(97, [])] (by decide) [97] rfl).trans (by decide)
theorem p3 : pushesB [2, 97] = false := by unfold pushesB; rw [n1]
theorem p4 : pushesB [] = true := (pushes_of [] (by decide) [] rfl).trans (by decide)
theorem burnt_zero (bs : List UInt8) (n : Nat) (hl : bs.length = n) (hh : headB bs = false) : burntB bs = decide (520 < n) := by
  unfold burntB
  rw [hh, hl, Bool.or_false]
theorem qv1 : valB (79, []) = some [129] := by decide
theorem qv2 : valB (96, []) = some [16] := by decide
theorem qv3 : valB (97, []) = none := by decide
theorem qv4 : valB (0, []) = some [] := by decide
theorem qv5 : valB (80, []) = none := by decide
theorem qv6 : valB (3, [97, 98]) = none := by decide
theorem qv7 : valB (78, []) = none := by decide
/-- What Value answers, by its bytes. -/
theorem ValR.bytes {w w' : World} {o : UInt8 × List UInt8} {e : Ending} {u : List UInt8} (h : ValR w o e w') (hv : valB o = .some u) (n : Nat) (hn : n = u.length) : ∃ X c, e = .returned (.tuple #[.slice X n c, .bool true]) ∧ Holds8 w'.heap.size w' X u ∧ Below w.heap.size w w' := by
  subst hn
  obtain ⟨v, he, ho, hb⟩ := h.some hv
  obtain ⟨X, c, rfl, h8, _⟩ := own_open ho
  exact ⟨X, c, he, h8, hb⟩
end Go.Proofs.Ytkecldmjjhhlgaa.Oct
