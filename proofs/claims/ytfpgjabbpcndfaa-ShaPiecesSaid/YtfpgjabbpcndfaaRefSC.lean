/- What the reference's Of stands on: rows of words in memory, and the contracts in its own terms. -/
import Derived.Test.YtfpgjabbpcndfaaRefSB
import Derived.Test.YtfpgjabbpcndfaaShaJ
namespace Go.Proofs.Ytfpgjabbpcndfaa
open Go.RowKit
theorem Keeps.gain {W0 W W' : World} {l : List (Nat × Array Value × TypeId)} (h : Keeps W0 l W) (hb : Below W.heap.size W W') {g : Nat} {cs : Array Value} {t : TypeId} (hg : W.heap.size ≤ g) (hc : W'.heap[g]? = some (.cells cs t (0, 0))) :
    Keeps W0 (l ++ [(g, cs, t)]) W' := by
  have h2 := h.call hb
  have key : ∀ (i : Nat) p, (l ++ [(g, cs, t)])[i]? = some p → (l[i]? = some p ∧ i < l.length) ∨ (p = (g, cs, t) ∧ i = l.length) := by
    intro i p hi
    rcases Nat.lt_or_ge i l.length with hlt | hge
    · rw [List.getElem?_append_left hlt] at hi
      exact .inl ⟨hi, hlt⟩
    · rw [List.getElem?_append_right hge] at hi
      have h0 : i - l.length = 0 := by
        have := (List.getElem?_eq_some_iff.1 hi).1
        simp at this
        omega
      rw [h0] at hi
      simp at hi
      exact .inr ⟨hi.symm, by omega⟩
  refine ⟨fun i p hi => ?_, fun i p hi => ?_, fun i j p q hi hj hij => ?_, h2.bel⟩
  · rcases key i p hi with ⟨hi, _⟩ | ⟨rfl, _⟩
    · exact h2.rows i p hi
    · exact hc
  · rcases key i p hi with ⟨hi, _⟩ | ⟨rfl, _⟩
    · exact h.base i p hi
    · exact Nat.le_trans h.bel.size hg
  · rcases key i p hi with ⟨hi, _⟩ | ⟨rfl, hi'⟩ <;> rcases key j q hj with ⟨hj, _⟩ | ⟨rfl, hj'⟩
    · exact h.apart i j p q hi hj hij
    · have := h.lt i hi
      show p.1 ≠ g
      omega
    · have := h.lt j hj
      show g ≠ q.1
      omega
    · omega
theorem Keeps.pre {W0 W : World} {l0 : List (Nat × Array Value × TypeId)} {l1 : List (Nat × Array Value × TypeId)} (h : Keeps W0 (l0 ++ l1) W) : Keeps W0 l0 W := by
  have up : ∀ (i : Nat) p, l0[i]? = some p → (l0 ++ l1)[i]? = some p := fun i p hi => by
    rw [List.getElem?_append_left (List.getElem?_eq_some_iff.1 hi).1]
    exact hi
  exact ⟨fun i p hi => h.rows i p (up i p hi), fun i p hi => h.base i p (up i p hi), fun i j p q hi hj hij => h.apart i j p q (up i p hi) (up j q hj) hij, h.bel⟩
end Go.Proofs.Ytfpgjabbpcndfaa
namespace Go.Proofs.Ytfpgjabbpcndfaa.Oct
set_option linter.unusedVariables false
set_option linter.unusedSimpArgs false
open Go.Proofs.Ytfpgjabbpcndfaa Go.RowKit Go.Lib

theorem keeps_alloc {w W : World} {l : List (Nat × Array Value × TypeId)} (hK : Keeps w l W) (cs : Array Value) (t : TypeId) : ∃ g, W.heap.size = g ∧ Keeps w (l ++ [(g, cs, t)]) (W.alloc (.cells cs t)) := ⟨_, rfl, hK.new cs t⟩
theorem square_k {w W : World} {l : List (Nat × Array Value × TypeId)} (hK : Keeps w l W) : Calls Try.prog 20 #[] W fun e W' => ∃ g, e = .returned (.slice (some ⟨g, 0, none⟩) 8 8) ∧ Keeps w (l ++ [(g, vals32 (words squ), 42)]) W' :=
  (rsquare_any W).mono fun e W' h => by
    obtain ⟨rfl, rfl⟩ := h
    exact ⟨_, rfl, hK.new _ _⟩
theorem cube_k {w W : World} {l : List (Nat × Array Value × TypeId)} (hK : Keeps w l W) : Calls Try.prog 21 #[] W fun e W' => ∃ g, e = .returned (.slice (some ⟨g, 0, none⟩) 64 64) ∧ Keeps w (l ++ [(g, vals32 cub, 42)]) W' :=
  (rcube_any W).mono fun e W' h => by
    obtain ⟨rfl, rfl⟩ := h
    exact ⟨_, rfl, hK.new _ _⟩
theorem padded_k {w W : World} {l : List (Nat × Array Value × TypeId)} (hK : Keeps w l W) (bs : List UInt8) (A : Option Addr) (c n₀ : Nat) (hh : Holds8 n₀ W A bs) (hl : bs.length ≤ 1000000) :
    Calls Try.prog 22 #[.slice A bs.length c] W fun e W' => ∃ g cap cur, e = .returned (.slice (some ⟨g, 0, none⟩) (bs ++ padding bs.length).length cap) ∧ Keeps w (l ++ [(g, cur, 5)]) W' ∧ ∀ i, i < (bs ++ padding bs.length).length → cur[i]? = some (.int .u8 (((bs ++ padding bs.length).getD i 0).toNat : Int)) :=
  (rpadded_any bs A c n₀ W hh hl).mono fun e W' h => by
    obtain ⟨v, rfl, hown, hb⟩ := h
    have hpl := padLen_bounds bs.length
    have hlen : (bs ++ padding bs.length).length = bs.length + padLen bs.length := by rw [List.length_append, padding_length]
    rcases hown.2 with ⟨_, h0⟩ | ⟨g, cap, cur, rfl, hg, hc, hn, _, hs, ht⟩
    · omega
    · refine ⟨g, cap, cur, rfl, hK.gain hb hg hc, fun i hi => ?_⟩
      have h1 := vals_get (bs ++ padding bs.length) i hi
      rw [← ht, List.getElem?_take_of_lt (by omega), Array.getElem?_toList] at h1
      rw [h1, List.getD, List.getElem?_eq_getElem hi]
      rfl

/-- The first words of a block, the rest zeros. -/
def rowA (b : List UInt8) (i : Nat) : List Nat := (List.range i).map (word4 b) ++ List.replicate (64 - i) 0
theorem rowA_length (b : List UInt8) (i : Nat) (h : i ≤ 64) : (rowA b i).length = 64 := by
  rw [rowA, List.length_append, List.length_map, List.length_range, List.length_replicate]
  omega
theorem rowA_step (b : List UInt8) (i : Nat) (h : i < 64) : (rowA b i).set i (word4 b i) = rowA b (i + 1) := by
  unfold rowA
  rw [List.set_append_right _ _ (by simp), List.length_map, List.length_range, Nat.sub_self, show 64 - i = (64 - (i + 1)) + 1 by omega, List.replicate_succ, List.set_cons_zero, List.range_succ, List.map_append]
  simp
theorem rowA_zero (b : List UInt8) : rowA b 0 = zero64 := rfl
theorem rowA_all (b : List UInt8) : rowA b 16 = row2 b 0 := rfl

theorem word_info : (Try.prog.info? 42).map (fun i => (i.zero, i.size, i.bytes)) = some (some (.int .u32 0), 1, 4) := by kernel_rfl
theorem make64 (w : World) : (Instr.makeSlice 40 (.int .i64 64) (.int .i64 64)).run Try.prog w = .ok (.slice (some ⟨w.heap.size, 0, none⟩) 64 64) (w.alloc (.cells (vals32 zero64) 42)) := by kernel_rfl
theorem wpList_make64 {ops : Array Oper} {Q : Exit → Act → World → Prop} {rest : List Oper} {o : Oper} {a : Act} {w : World} (hgd : o.guard = none) (ho : o.op = .makeSlice 40 (.const (.int .i64 64)) (.const (.int .i64 64)))
    (h : wpList Try.prog ops Q rest (a.put o.dst (.slice (some ⟨w.heap.size, 0, none⟩) 64 64)) (w.alloc (.cells (vals32 zero64) 42))) : wpList Try.prog ops Q (o :: rest) a w :=
  wpList_run hgd (v := .slice (some ⟨w.heap.size, 0, none⟩) 64 64) (by
    unfold execOp
    simp only [ho]
    show (Sem.run _ _ _) = _
    rw [Sem.run_bind, show a.eval (.const (.int .i64 64)) = .int .i64 64 from rfl, make64]
    rfl) h
/-- A block of the message. -/
def blk (m : List UInt8) (q : Nat) : List UInt8 := (m.drop (64 * q)).take 64
theorem blk_length (m : List UInt8) (q : Nat) (h : 64 * q + 64 ≤ m.length) : (blk m q).length = 64 := by
  rw [blk, List.length_take, List.length_drop]
  omega
theorem blk_get (m : List UInt8) (q i : Nat) (h : i < 64) : (blk m q).getD i 0 = m.getD (64 * q + i) 0 := by
  unfold blk
  simp [List.getD, List.getElem?_take, h]
theorem fold_step (s : St) (m : List UInt8) (q : Nat) (h : 64 * q + 64 ≤ m.length) : fold s (q + 1) m = comp (fold s q m) (blk m q) := by
  have e : m = m.take (64 * q) ++ m.drop (64 * q) := (List.take_append_drop _ _).symm
  have hl : (m.take (64 * q)).length = 64 * q := by rw [List.length_take]; omega
  have h1 : fold s (q + 1) m = fold (fold s q (m.take (64 * q))) 1 (m.drop (64 * q)) := by
    conv => lhs; rw [e]
    exact fold_append _ _ _ _ _ hl
  have h2 : fold s q m = fold s q (m.take (64 * q)) := by
    conv => lhs; rw [e]
    exact fold_take _ _ _ _ (by omega)
  rw [h1, h2]
  rfl
theorem okSt_fold (s : St) (hs : okSt s) (m : List UInt8) : ∀ q, okSt (fold s q m) := by
  intro q
  induction q generalizing s m with
  | zero => exact hs
  | succ q ih => exact ih _ (okSt_comp _ _) _
end Go.Proofs.Ytfpgjabbpcndfaa.Oct
