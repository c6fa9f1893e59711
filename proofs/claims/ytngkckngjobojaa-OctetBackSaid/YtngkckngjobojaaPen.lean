/- A pen in memory: what it has written, in a row of its own; what writing by it leaves as it was. No condition. -/
import Derived.Test.YtngkckngjobojaaByt
import Derived.Laws.OwnMore
namespace Go.Proofs.Ytngkckngjobojaa.Oct
open Go.Proofs.Ytngkckngjobojaa Go.RowKit

theorem own_row_ge {w : World} {base : Nat} {v : Value} {n : Nat} {xs : List Value} (h : w.ownsRow base 5 1 v n xs) : ∀ k, v.ownBlock = some k → base ≤ k := fun k e => (h.lt k e).1
theorem ownsRow_same {w w' : World} {base e s : Nat} {v : Value} {n : Nat} {xs : List Value} (h : w.ownsRow base e s v n xs) (hb : ∀ k, v.ownBlock = some k → w'.heap[k]? = w.heap[k]?) : w'.ownsRow base e s v n xs := by
  refine ⟨h.1, ?_⟩
  rcases h.2 with h | ⟨g, cap, cur, rfl, hb0, hh, r⟩
  · exact .inl h
  · exact .inr ⟨g, cap, cur, rfl, hb0, by rw [hb g rfl]; exact hh, r⟩
theorem ownsRow_below {w w' : World} {base e s : Nat} {v : Value} {n : Nat} {xs : List Value} (h : w.ownsRow base e s v n xs) (hb : Below w.heap.size w w') : w'.ownsRow base e s v n xs :=
  ownsRow_same h fun k hk => hb.block k (h.lt k hk).2
theorem ownsRow_base {w : World} {base base' e s : Nat} {v : Value} {n : Nat} {xs : List Value} (h : w.ownsRow base e s v n xs) (hb : base' ≤ base) : w.ownsRow base' e s v n xs := by
  refine ⟨h.1, ?_⟩
  rcases h.2 with h | ⟨g, cap, cur, rfl, hb0, r⟩
  · exact .inl h
  · exact .inr ⟨g, cap, cur, rfl, Nat.le_trans hb hb0, r⟩
theorem Holds8.front {n₀ : Nat} {W : World} {A : Option Addr} {l m : List UInt8} (h : Holds8 n₀ W A (l ++ m)) : Holds8 n₀ W A l := by
  rcases h with ⟨e1, e2⟩ | ⟨b, off, e, hb, hc⟩
  · exact .inl ⟨e1, (List.append_eq_nil_iff.1 e2).1⟩
  · exact .inr ⟨b, off, e, hb, fun j hj => by
      have := hc j (by rw [List.length_append]; omega)
      rwa [List.getElem_append_left hj] at this⟩
theorem append_none_any (ty : TypeId) (g n cap c : Nat) (hn : n ≤ cap) (w : World) : (Builtin.append_ #[25, 25] ty #[.slice (some ⟨g, 0, none⟩) n cap, .slice none 0 c]).run Try.prog w = .ok (.slice (some ⟨g, 0, none⟩) n cap) w := by
  obtain ⟨i0, hi, hz0, hz1, hz2⟩ := info_parts byte_info
  simp [Builtin.append_, run_underlying Try.underlying25, sizeOf, typeInfo, hi, Builtin.lenOf, Builtin.firstCells, storeCells, hn]
theorem append_nil_none (ty : TypeId) (c : Nat) (w : World) : (Builtin.append_ #[25, 25] ty #[.slice none 0 0, .slice none 0 c]).run Try.prog w = .ok (.slice none 0 0) w := append_nothing ty c w

/-- append(s, x...): s a row of the call's own, x any bytes. -/
theorem append_run (w : World) (ty : TypeId) (base n₀ : Nat) (v : Value) (xs bs : List UInt8) (hown : w.ownsRow base 5 1 v xs.length (vals xs)) (A : Option Addr) (c : Nat) (hh : Holds8 n₀ w A bs)
    (hl : xs.length + bs.length ≤ 140737488355328) (hbase : base ≤ w.heap.size) :
    ∃ v' w', (Builtin.append_ #[25, 25] ty #[v, .slice A bs.length c]).run Try.prog w = .ok v' w' ∧ w'.ownsRow base 5 1 v' (xs ++ bs).length (vals (xs ++ bs)) ∧ w.grownBy w' v.ownBlock ∧ (v'.ownBlock = v.ownBlock ∨ v'.ownBlock = some w.heap.size) := by
  obtain ⟨i0, hi, hz0, hz1, hz2⟩ := info_parts byte_info
  rcases hh with ⟨rfl, rfl⟩ | ⟨b, off, rfl, hb, hc⟩
  · refine ⟨v, w, ?_, by simpa using hown, ⟨rfl, rfl, rfl, Nat.le_refl _, fun _ _ _ => rfl⟩, .inl rfl⟩
    rcases hown.2 with ⟨rfl, _⟩ | ⟨g, cap, cur, rfl, _, _, hn, _⟩
    · exact append_nil_none ty c w
    · exact append_none_any ty g _ cap c hn w
  · obtain ⟨v', w', h1, h2, h3, _, h5⟩ := run_append_own_at (P := Try.prog) w base 25 ty 5 i0 (.int .u8 0) 1 1 Try.underlying25 hi hz0 hz1 hz2 rfl (by decide) v xs.length (vals xs) hown ⟨b, off, none⟩ bs.length c (vals bs) (by rw [vals_length, Nat.mul_one]) (fun j u hu => by
      have hj : j < bs.length := by
        have := (List.getElem?_eq_some_iff.1 hu).1
        rwa [vals_length] at this
      rw [vals_get bs j hj] at hu
      rw [add_off, hc j hj]
      exact hu) (vals_one bs) (by unfold maxLen; omega) (by omega) hbase
    exact ⟨v', w', h1, by rw [List.length_append, vals_append]; exact h2, h3, h5⟩

/-- A pen at block b: what it has written is bs, in a row from block base on. -/
def PenAt (base : Nat) (W : World) (b : Nat) (bs : List UInt8) : Prop :=
  base ≤ b ∧ ∃ v, W.heap[b]? = some (.cells #[v] 27 (0, 0)) ∧ W.ownsRow base 5 1 v bs.length (vals bs) ∧ v.ownBlock ≠ some b
/-- The block in which a pen's row lies. -/
def rowOf (W : World) (b : Nat) : Option Nat := match W.heap[b]? with
  | some (.cells cs _ _) => (cs[0]?).bind Value.ownBlock
  | _ => none
/-- All but the pen at b, and its row, is as it was. -/
structure PenStep (b : Nat) (W W' : World) : Prop where
  os : W'.os = W.os
  tape : W'.tape = W.tape
  output : W'.output = W.output
  size : W.heap.size ≤ W'.heap.size
  keep : ∀ k, k < W.heap.size → k ≠ b → rowOf W b ≠ some k → W'.heap[k]? = W.heap[k]? ∧ rowOf W' b ≠ some k

theorem rowOf_at {W : World} {b : Nat} {v : Value} {t : TypeId} {fr : Nat × Nat} (h : W.heap[b]? = some (.cells #[v] t fr)) : rowOf W b = v.ownBlock := by unfold rowOf; rw [h]; rfl
theorem PenAt.lt {base : Nat} {W : World} {b : Nat} {bs : List UInt8} (h : PenAt base W b bs) : b < W.heap.size := by
  obtain ⟨_, v, hh, _⟩ := h
  exact (Array.getElem?_eq_some_iff.1 hh).1
theorem PenAt.cell {base : Nat} {W : World} {b : Nat} {bs : List UInt8} (h : PenAt base W b bs) : ∃ A c, W.cell? ⟨b, 0, none⟩ = some (.slice A bs.length c) ∧ W.heap[b]? = some (.cells #[.slice A bs.length c] 27 (0, 0)) ∧ W.ownsRow base 5 1 (.slice A bs.length c) bs.length (vals bs) ∧ (∀ a, A = some a → a.block ≠ b) := by
  obtain ⟨_, v, hh, hr, hne⟩ := h
  obtain ⟨A, c, rfl, _⟩ := own_holds rfl hr
  refine ⟨A, c, ?_, hh, hr, fun a e hab => hne (by rw [e]; simp [Value.ownBlock, hab])⟩
  rw [cell_of_row W b 0 _ _ _ hh]
  rfl
theorem PenAt.frozen {base : Nat} {W : World} {b : Nat} {bs : List UInt8} (h : PenAt base W b bs) (j : Nat) : W.frozen? ⟨b, j, none⟩ = false := by
  obtain ⟨_, v, hh, hr, hne⟩ := h
  unfold World.frozen?
  simp only [hh]
  simp
theorem PenAt.below {base : Nat} {W W' : World} {b : Nat} {bs : List UInt8} (h : PenAt base W b bs) (hb : Below W.heap.size W W') : PenAt base W' b bs := by
  have hl := h.lt
  obtain ⟨hg, v, hh, hr, hne⟩ := h
  exact ⟨hg, v, by rw [hb.block b hl]; exact hh, ownsRow_below hr hb, hne⟩
theorem PenAt.drew {base : Nat} {W : World} {b : Nat} {bs : List UInt8} (h : PenAt base W b bs) : PenAt base W.drew b bs := h
theorem PenAt.holds {base : Nat} {W : World} {b : Nat} {bs : List UInt8} (h : PenAt base W b bs) : ∃ A c, W.cell? ⟨b, 0, none⟩ = some (.slice A bs.length c) ∧ Holds8 W.heap.size W A bs ∧ bs.length ≤ c := by
  obtain ⟨A, c, hc, _, hr, _⟩ := h.cell
  refine ⟨A, c, hc, ?_, ?_⟩
  · obtain ⟨A', c', e, hh, _⟩ := own_holds rfl hr
    injection e with e1 _ e3
    subst e1
    exact hh
  · rcases hr.2 with ⟨e, h0⟩ | ⟨g, cap, cur, e, _, _, hn, _⟩
    · omega
    · injection e with _ _ e3
      omega
theorem PenStep.refl (b : Nat) (W : World) : PenStep b W W := ⟨rfl, rfl, rfl, Nat.le_refl _, fun _ _ _ h => ⟨rfl, h⟩⟩
theorem PenStep.trans {b : Nat} {A B C : World} (h : PenStep b A B) (k : PenStep b B C) : PenStep b A C :=
  ⟨k.os.trans h.os, k.tape.trans h.tape, k.output.trans h.output, Nat.le_trans h.size k.size, fun i hi hib hr => by
    have h1 := h.keep i hi hib hr
    have h2 := k.keep i (Nat.lt_of_lt_of_le hi h.size) hib h1.2
    exact ⟨h2.1.trans h1.1, h2.2⟩⟩
theorem rowOf_same {b : Nat} {W W' : World} (h : W'.heap[b]? = W.heap[b]?) : rowOf W' b = rowOf W b := by unfold rowOf; rw [h]
theorem PenStep.of_below {b : Nat} {W W' : World} (hb : b < W.heap.size) (h : Below W.heap.size W W') : PenStep b W W' :=
  ⟨h.os, h.tape, h.output, h.size, fun k hk _ hr => ⟨h.block k hk, by rw [rowOf_same (h.block b hb)]; exact hr⟩⟩
theorem PenStep.below {base b : Nat} {W W' : World} {bs : List UInt8} (hp : PenAt base W b bs) (hs : base ≤ W.heap.size) (h : PenStep b W W') : Below base W W' := by
  refine ⟨h.os, h.tape, h.output, h.size, fun k hk => (h.keep k (by omega) (by have := hp.1; omega) fun hr => ?_).1⟩
  obtain ⟨_, v, hh, hrow, _⟩ := hp
  rw [rowOf_at hh] at hr
  have := own_row_ge hrow k hr
  omega
/-- Bytes that lie elsewhere, behind a pen's writing. -/
theorem PenStep.holds {b n₀ : Nat} {W W' : World} {A : Option Addr} {bs : List UInt8} (h : PenStep b W W') (hh : Holds8 n₀ W A bs) (ha : ∀ a, A = some a → a.block < W.heap.size ∧ a.block ≠ b ∧ rowOf W b ≠ some a.block) : Holds8 n₀ W' A bs := by
  rcases hh with h0 | ⟨c, off, rfl, hc, hcell⟩
  · exact .inl h0
  · obtain ⟨h1, h2, h3⟩ := ha _ rfl
    exact .inr ⟨c, off, rfl, hc, fun j hj => (World.cell?_of_block (a := ⟨c, off + j, none⟩) (h.keep c h1 h2 h3).1).trans (hcell j hj)⟩
/-- Bytes below the pen's memory, behind its writing. -/
theorem PenStep.holds_low {base b n₀ : Nat} {W W' : World} {A : Option Addr} {bs xs : List UInt8} (hp : PenAt base W b xs) (hs : base ≤ W.heap.size) (h : PenStep b W W') (hh : Holds8 n₀ W A bs) (hn : n₀ ≤ base) : Holds8 n₀ W' A bs :=
  hh.below (h.below hp hs) hn
/-- The pen's slice is put behind bytes were added to its row. -/
theorem pen_put {base b : Nat} {W W1 W2 : World} {v v' : Value} {xs ys : List UInt8} (hg : base ≤ b) (hh : W.heap[b]? = some (.cells #[v] 27 (0, 0))) (hrow : W.ownsRow base 5 1 v xs.length (vals xs)) (hne : v.ownBlock ≠ some b)
    (hl : Below W.heap.size W W1) (hgr : W1.grownBy W2 v.ownBlock) (hown : W2.ownsRow base 5 1 v' ys.length (vals ys)) (hv : v'.ownBlock = v.ownBlock ∨ v'.ownBlock = some W1.heap.size) :
    PenAt base (W2.setCell ⟨b, 0, none⟩ v') b ys ∧ PenStep b W (W2.setCell ⟨b, 0, none⟩ v') := by
  have hb : b < W.heap.size := (Array.getElem?_eq_some_iff.1 hh).1
  have hb1 : b < W1.heap.size := Nat.lt_of_lt_of_le hb hl.size
  have h2 : W2.heap[b]? = some (.cells #[v] 27 (0, 0)) := by rw [hgr.block b hb1 (fun e => hne e.symm), hl.block b hb]; exact hh
  have hne' : v'.ownBlock ≠ some b := by
    rcases hv with e | e
    · rw [e]; exact hne
    · rw [e]; intro h; injection h with h; omega
  have h3 : (W2.setCell ⟨b, 0, none⟩ v').heap[b]? = some (.cells #[v'] 27 (0, 0)) := by
    unfold World.setCell
    simp only [Array.getElem?_modify, if_true, h2]
    rfl
  refine ⟨⟨hg, v', h3, ownsRow_same hown fun k hk => ?_, hne'⟩, ?_⟩
  · exact Below.heap_setCell _ _ _ _ (fun e => hne' (by rw [hk]; exact congrArg some e))
  · refine ⟨hgr.os.trans hl.os, hgr.tape.trans hl.tape, hgr.output.trans hl.output, by unfold World.setCell; simp only [Array.size_modify]; exact Nat.le_trans hl.size hgr.size, fun k hk hkb hr => ?_⟩
    rw [rowOf_at hh] at hr
    refine ⟨?_, ?_⟩
    · rw [Below.heap_setCell _ _ _ _ hkb, hgr.block k (Nat.lt_of_lt_of_le hk hl.size) (fun e => hr e.symm), hl.block k hk]
    · rw [rowOf_at h3]
      rcases hv with e | e
      · rw [e]; exact hr
      · rw [e]; intro h; injection h with h; have := hl.size; omega
/-- A new pen. -/
theorem pen_new (W : World) : PenAt W.heap.size (W.alloc (.cells #[.slice none 0 0] 27)) W.heap.size [] :=
  ⟨Nat.le_refl _, _, heap_alloc_new _ _, World.ownsRow_nil _ _ _ _, by simp [Value.ownBlock]⟩
theorem PenAt.base {base base' : Nat} {W : World} {b : Nat} {bs : List UInt8} (h : PenAt base W b bs) (hb : base' ≤ base) : PenAt base' W b bs := by
  obtain ⟨hg, v, hh, hr, hne⟩ := h
  exact ⟨Nat.le_trans hb hg, v, hh, ownsRow_base hr hb, hne⟩
end Go.Proofs.Ytngkckngjobojaa.Oct
