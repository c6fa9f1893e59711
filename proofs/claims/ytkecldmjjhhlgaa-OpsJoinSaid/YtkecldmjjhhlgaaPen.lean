/- A pen in memory: what it has written, in a row of its own; what writing by it leaves as it was. No condition. -/
import Derived.Test.YtkecldmjjhhlgaaByt
import Derived.Laws.OwnMore
namespace Go.Proofs.Ytkecldmjjhhlgaa.Oct
open Go.Proofs.Ytkecldmjjhhlgaa Go.RowKit

theorem own_row_ge {w : World} {base : Nat} {v : Value} {n : Nat} {xs : List Value} (h : w.ownsRow base 5 1 v n xs) : ∀ k, v.ownBlock = some k → base ≤ k := fun k e => (h.lt k e).1
theorem ownsRow_same {w w' : World} {base e s : Nat} {v : Value} {n : Nat} {xs : List Value} (h : w.ownsRow base e s v n xs) (hb : ∀ k, v.ownBlock = some k → w'.heap[k]? = w.heap[k]?) : w'.ownsRow base e s v n xs := by
  refine ⟨h.1, ?_⟩
  rcases h.2 with h | ⟨g, cap, cur, rfl, hb0, hh, r⟩
  · exact .inl h
  · exact .inr ⟨g, cap, cur, rfl, hb0, by rw [hb g rfl]; exact hh, r⟩
theorem ownsRow_below {w w' : World} {base e s : Nat} {v : Value} {n : Nat} {xs : List Value} (h : w.ownsRow base e s v n xs) (hb : Below w.heap.size w w') : w'.ownsRow base e s v n xs :=
  ownsRow_same h fun k hk => hb.block k (h.lt k hk).2
theorem ownsRow_base {w : World} {base base' e s : Nat} {v : Value} {n : Nat} {xs : List Value} (h : w.ownsRow base e s v n xs) (hb : base' ≤ base) : w.ownsRow base' e s v n xs := by
  refine ⟨h.1, ?_⟩
  rcases h.2 with h | ⟨g, cap, cur, rfl, hb0, r⟩
  · exact .inl h
  · exact .inr ⟨g, cap, cur, rfl, Nat.le_trans hb hb0, r⟩
theorem Holds8.front {n₀ : Nat} {W : World} {A : Option Addr} {l m : List UInt8} (h : Holds8 n₀ W A (l ++ m)) : Holds8 n₀ W A l := by
  rcases h with ⟨e1, e2⟩ | ⟨b, off, e, hb, hc⟩
  · exact .inl ⟨e1, (List.append_eq_nil_iff.1 e2).1⟩
  · exact .inr ⟨b, off, e, hb, fun j hj => by
      have := hc j (by rw [List.length_append]; omega)
      rwa [List.getElem_append_left hj] at this⟩
theorem append_none_any (ty : TypeId) (g n cap c : Nat) (hn : n ≤ cap) (w : World) : (Builtin.append_ #[22, 22] ty #[.slice (some ⟨g, 0, none⟩) n cap, .slice none 0 c]).run Try.prog w = .ok (.slice (some ⟨g, 0, none⟩) n cap) w := by
  obtain ⟨i0, hi, hz0, hz1, hz2⟩ := info_parts byte_info
  simp [Builtin.append_, run_underlying Try.underlying22, sizeOf, typeInfo, hi, Builtin.lenOf, Builtin.firstCells, storeCells, hn]
theorem append_nil_none (ty : TypeId) (c : Nat) (w : World) : (Builtin.append_ #[22, 22] ty #[.slice none 0 0, .slice none 0 c]).run Try.prog w = .ok (.slice none 0 0) w := append_nothing ty c w

/-- append(s, x...): s a row of the call's own, x any bytes. -/
theorem append_run (w : World) (ty : TypeId) (base n₀ : Nat) (v : Value) (xs bs : List UInt8) (hown : w.ownsRow base 5 1 v xs.length (vals xs)) (A : Option Addr) (c : Nat) (hh : Holds8 n₀ w A bs)
    (hl : xs.length + bs.length ≤ 140737488355328) (hbase : base ≤ w.heap.size) :
    ∃ v' w', (Builtin.append_ #[22, 22] ty #[v, .slice A bs.length c]).run Try.prog w = .ok v' w' ∧ w'.ownsRow base 5 1 v' (xs ++ bs).length (vals (xs ++ bs)) ∧ w.grownBy w' v.ownBlock ∧ (v'.ownBlock = v.ownBlock ∨ v'.ownBlock = some w.heap.size) := by
  obtain ⟨i0, hi, hz0, hz1, hz2⟩ := info_parts byte_info
  rcases hh with ⟨rfl, rfl⟩ | ⟨b, off, rfl, hb, hc⟩
  · refine ⟨v, w, ?_, by simpa using hown, ⟨rfl, rfl, rfl, Nat.le_refl _, fun _ _ _ => rfl⟩, .inl rfl⟩
    rcases hown.2 with ⟨rfl, _⟩ | ⟨g, cap, cur, rfl, _, _, hn, _⟩
    · exact append_nil_none ty c w
    · exact append_none_any ty g _ cap c hn w
  · obtain ⟨v', w', h1, h2, h3, _, h5⟩ := run_append_own_at (P := Try.prog) w base 22 ty 5 i0 (.int .u8 0) 1 1 Try.underlying22 hi hz0 hz1 hz2 rfl (by decide) v xs.length (vals xs) hown ⟨b, off, none⟩ bs.length c (vals bs) (by rw [vals_length, Nat.mul_one]) (fun j u hu => by
      have hj : j < bs.length := by
        have := (List.getElem?_eq_some_iff.1 hu).1
        rwa [vals_length] at this
      rw [vals_get bs j hj] at hu
      rw [add_off, hc j hj]
      exact hu) (vals_one bs) (by unfold maxLen; omega) (by omega) hbase
    exact ⟨v', w', h1, by rw [List.length_append, vals_append]; exact h2, h3, h5⟩

/-- The block in which a pen's row lies. -/
def rowOf (W : World) (b : Nat) : Option Nat := match W.heap[b]? with
  | some (.cells cs _ _) => (cs[0]?).bind Value.ownBlock
  | _ => none
/-- All but the pen at b, and its row, is as it was. -/
structure PenStep (b : Nat) (W W' : World) : Prop where
  os : W'.os = W.os
  tape : W'.tape = W.tape
  output : W'.output = W.output
  size : W.heap.size ≤ W'.heap.size
  keep : ∀ k, k < W.heap.size → k ≠ b → rowOf W b ≠ some k → W'.heap[k]? = W.heap[k]? ∧ rowOf W' b ≠ some k

theorem rowOf_at {W : World} {b : Nat} {v : Value} {t : TypeId} {fr : Nat × Nat} (h : W.heap[b]? = some (.cells #[v] t fr)) : rowOf W b = v.ownBlock := by unfold rowOf; rw [h]; rfl
theorem PenStep.refl (b : Nat) (W : World) : PenStep b W W := ⟨rfl, rfl, rfl, Nat.le_refl _, fun _ _ _ h => ⟨rfl, h⟩⟩
theorem PenStep.trans {b : Nat} {A B C : World} (h : PenStep b A B) (k : PenStep b B C) : PenStep b A C :=
  ⟨k.os.trans h.os, k.tape.trans h.tape, k.output.trans h.output, Nat.le_trans h.size k.size, fun i hi hib hr => by
    have h1 := h.keep i hi hib hr
    have h2 := k.keep i (Nat.lt_of_lt_of_le hi h.size) hib h1.2
    exact ⟨h2.1.trans h1.1, h2.2⟩⟩
theorem rowOf_same {b : Nat} {W W' : World} (h : W'.heap[b]? = W.heap[b]?) : rowOf W' b = rowOf W b := by unfold rowOf; rw [h]
theorem PenStep.of_below {b : Nat} {W W' : World} (hb : b < W.heap.size) (h : Below W.heap.size W W') : PenStep b W W' :=
  ⟨h.os, h.tape, h.output, h.size, fun k hk _ hr => ⟨h.block k hk, by rw [rowOf_same (h.block b hb)]; exact hr⟩⟩
/-- Bytes that lie elsewhere, behind a pen's writing. -/
theorem PenStep.holds {b n₀ : Nat} {W W' : World} {A : Option Addr} {bs : List UInt8} (h : PenStep b W W') (hh : Holds8 n₀ W A bs) (ha : ∀ a, A = some a → a.block < W.heap.size ∧ a.block ≠ b ∧ rowOf W b ≠ some a.block) : Holds8 n₀ W' A bs := by
  rcases hh with h0 | ⟨c, off, rfl, hc, hcell⟩
  · exact .inl h0
  · obtain ⟨h1, h2, h3⟩ := ha _ rfl
    exact .inr ⟨c, off, rfl, hc, fun j hj => (World.cell?_of_block (a := ⟨c, off + j, none⟩) (h.keep c h1 h2 h3).1).trans (hcell j hj)⟩
end Go.Proofs.Ytkecldmjjhhlgaa.Oct
