/- What stands in memory while pieces are written: two sums, and two rows of one's own. -/
import Derived.Test.YtfpgjabbpcndfaaBvs
namespace Go.Proofs.Ytfpgjabbpcndfaa.Oct
set_option linter.unusedVariables false
set_option linter.unusedSimpArgs false
open Go.Proofs.Ytfpgjabbpcndfaa Go.RowKit Go.Lib Go.Shelf Go.ChangeShapes Go.WideShapes Go.ChangeAt

theorem SumIn.same {W W' : World} {g : Nat} {m : List UInt8} {n : Nat} (h : SumIn W g m n) (hs : W'.heap[g]? = W.heap[g]?) : SumIn W' g m n := by
  obtain ⟨tl, h1, h2, h3⟩ := h
  exact ⟨tl, h1, h2, hs.trans h3⟩
section
variable {w W W' : World}
theorem bel_grow {row : Option Nat} (h : Below w.heap.size w W) (hg : W.grownBy W' row) (hb : ∀ k, row = some k → w.heap.size ≤ k) : Below w.heap.size w W' := h.grown hg h.size hb
end
/-- What stands in memory: the first sum has sl, the other one and its row el, the row of all al. -/
structure PJ (w : World) (gs go : Nat) (va ve : Value) (sl al el : List UInt8) (W : World) : Prop where
  bel : Below w.heap.size w W
  sum : SumIn W gs sl sl.length
  oth : SumIn W go el el.length
  rowA : W.ownsRow w.heap.size 5 1 va al.length (vals al)
  rowE : W.ownsRow w.heap.size 5 1 ve el.length (vals el)
  bs : w.heap.size ≤ gs
  bo : w.heap.size ≤ go
  so : gs ≠ go
  sA : va.ownBlock ≠ some gs
  sE : ve.ownBlock ≠ some gs
  oA : va.ownBlock ≠ some go
  oE : ve.ownBlock ≠ some go
  AE : ∀ k, va.ownBlock = some k → ve.ownBlock ≠ some k
section
variable {w : World} {gs go : Nat} {va ve : Value} {sl al el : List UInt8} {W W' : World}
theorem PJ.turn (h : PJ w gs go va ve sl al el W) {row : Option Nat} (hg : W.grownBy W' row) (hb : ∀ k, row = some k → w.heap.size ≤ k) (n1 : row ≠ some gs) (n2 : row ≠ some go) (n3 : ∀ k, va.ownBlock = some k → row ≠ some k) (n4 : ∀ k, ve.ownBlock = some k → row ≠ some k) : PJ w gs go va ve sl al el W' :=
  ⟨bel_grow h.bel hg hb, h.sum.same (hg.block gs h.sum.lt (Ne.symm n1)), h.oth.same (hg.block go h.oth.lt (Ne.symm n2)), ownsRow_same h.rowA (fun k e => hg.block k (h.rowA.lt k e).2 (Ne.symm (n3 k e))), ownsRow_same h.rowE (fun k e => hg.block k (h.rowE.lt k e).2 (Ne.symm (n4 k e))), h.bs, h.bo, h.so, h.sA, h.sE, h.oA, h.oE, h.AE⟩
theorem PJ.call (h : PJ w gs go va ve sl al el W) (hb : Below W.heap.size W W') : PJ w gs go va ve sl al el W' :=
  ⟨h.bel.trans (hb.mono h.bel.size), h.sum.same (hb.block gs h.sum.lt), h.oth.same (hb.block go h.oth.lt), ownsRow_below h.rowA hb, ownsRow_below h.rowE hb, h.bs, h.bo, h.so, h.sA, h.sE, h.oA, h.oE, h.AE⟩
/-- Something was written into the first sum. -/
theorem PJ.write (h : PJ w gs go va ve sl al el W) {s2 : List UInt8} (hg : W.grownBy W' (some gs)) (hs : SumIn W' gs s2 s2.length) : PJ w gs go va ve s2 al el W' :=
  ⟨bel_grow h.bel hg (fun k e => by injection e with e; rw [← e]; exact h.bs), hs, h.oth.same (hg.block go h.oth.lt (fun e => by injection e with e; exact h.so e.symm)), ownsRow_same h.rowA (fun k e => hg.block k (h.rowA.lt k e).2 (fun e2 => by injection e2 with e2; rw [e2] at e; exact h.sA e)), ownsRow_same h.rowE (fun k e => hg.block k (h.rowE.lt k e).2 (fun e2 => by injection e2 with e2; rw [e2] at e; exact h.sE e)), h.bs, h.bo, h.so, h.sA, h.sE, h.oA, h.oE, h.AE⟩
/-- Something was written into the other sum. -/
theorem PJ.writeO (h : PJ w gs go va ve sl al el W) {e2 : List UInt8} (hg : W.grownBy W' (some go)) (hs : SumIn W' go e2 e2.length) : SumIn W' gs sl sl.length ∧ SumIn W' go e2 e2.length ∧ W'.ownsRow w.heap.size 5 1 va al.length (vals al) ∧ W'.ownsRow w.heap.size 5 1 ve el.length (vals el) ∧ Below w.heap.size w W' :=
  ⟨h.sum.same (hg.block gs h.sum.lt (fun e => by injection e with e; exact h.so e)), hs, ownsRow_same h.rowA (fun k e => hg.block k (h.rowA.lt k e).2 (fun e2 => by injection e2 with e2; rw [e2] at e; exact h.oA e)), ownsRow_same h.rowE (fun k e => hg.block k (h.rowE.lt k e).2 (fun e2 => by injection e2 with e2; rw [e2] at e; exact h.oE e)), bel_grow h.bel hg (fun k e => by injection e with e; rw [← e]; exact h.bo)⟩
/-- Something was appended to the row of all. -/
theorem PJ.all (h : PJ w gs go va ve sl al el W) {v' : Value} {a2 : List UInt8} (hrow : W'.ownsRow w.heap.size 5 1 v' a2.length (vals a2)) (hg : W.grownBy W' va.ownBlock) (hv : v'.ownBlock = va.ownBlock ∨ v'.ownBlock = some W.heap.size) : PJ w gs go v' ve sl a2 el W' := by
  have hs := h.sum.lt
  have ho := h.oth.lt
  have hb : ∀ k, va.ownBlock = some k → w.heap.size ≤ k := fun k e => (h.rowA.lt k e).1
  refine ⟨bel_grow h.bel hg hb, h.sum.same (hg.block gs hs (Ne.symm h.sA)), h.oth.same (hg.block go ho (Ne.symm h.oA)), hrow, ownsRow_same h.rowE (fun k e => hg.block k (h.rowE.lt k e).2 (fun e2 => h.AE k e2.symm e)), h.bs, h.bo, h.so, fun e => ?_, h.sE, fun e => ?_, h.oE, fun k e e2 => ?_⟩
  · rcases hv with hv | hv
    · exact h.sA (hv ▸ e)
    · rw [hv] at e; injection e with e; omega
  · rcases hv with hv | hv
    · exact h.oA (hv ▸ e)
    · rw [hv] at e; injection e with e; omega
  · rcases hv with hv | hv
    · exact h.AE k (hv ▸ e) e2
    · rw [hv] at e; injection e with e; have := (h.rowE.lt k e2).2; omega
/-- Something was appended to the early row. -/
theorem PJ.early (h : PJ w gs go va ve sl al el W) {v' : Value} {go2 : Nat} {e2 : List UInt8} (hrow : W'.ownsRow w.heap.size 5 1 v' e2.length (vals e2)) (hg : W.grownBy W' ve.ownBlock) (hv : v'.ownBlock = ve.ownBlock ∨ v'.ownBlock = some W.heap.size) (hn : w.heap.size ≤ go2) (hx : SumIn W go2 e2 e2.length) (hsg : gs ≠ go2) (hA : va.ownBlock ≠ some go2) (hE : ve.ownBlock ≠ some go2) : PJ w gs go2 va v' sl al e2 W' := by
  have hs := h.sum.lt
  have ho := hx.lt
  have hb : ∀ k, ve.ownBlock = some k → w.heap.size ≤ k := fun k e => (h.rowE.lt k e).1
  refine ⟨bel_grow h.bel hg hb, h.sum.same (hg.block gs hs (Ne.symm h.sE)), hx.same (hg.block go2 ho (Ne.symm hE)), ownsRow_same h.rowA (fun k e => hg.block k (h.rowA.lt k e).2 (fun e2 => h.AE k e e2.symm)), hrow, h.bs, hn, hsg, h.sA, fun e => ?_, hA, fun e => ?_, fun k e e2 => ?_⟩
  · rcases hv with hv | hv
    · exact h.sE (hv ▸ e)
    · rw [hv] at e; injection e with e; omega
  · rcases hv with hv | hv
    · exact hE (hv ▸ e)
    · rw [hv] at e; injection e with e; omega
  · rcases hv with hv | hv
    · exact h.AE k e (hv ▸ e2)
    · rw [hv] at e2; injection e2 with e2; have := (h.rowA.lt k e).2; omega
end
end Go.Proofs.Ytfpgjabbpcndfaa.Oct
