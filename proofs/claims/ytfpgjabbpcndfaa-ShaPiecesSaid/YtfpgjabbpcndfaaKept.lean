/- What is known of some blocks while one of them is written; a part of a block read and written as a whole. No condition. -/
import Derived.Test.YtfpgjabbpcndfaaShaA
namespace Go.Proofs.Ytfpgjabbpcndfaa
set_option linter.unusedVariables false
open Go.RowKit Go.Lib

/-- Of some blocks the cells are known; from the world A on, nothing that was there has turned but block g. -/
structure Kept (A : World) (g : Nat) (l : List (Nat × Array Value × TypeId)) (W : World) : Prop where
  rows : ∀ (i : Nat) p, l[i]? = some p → W.heap[p.1]? = some (.cells p.2.1 p.2.2 (0, 0))
  apart : ∀ (i j : Nat) p q, l[i]? = some p → l[j]? = some q → i ≠ j → p.1 ≠ q.1
  grown : A.grownBy W (some g)

section
variable {A W : World} {g : Nat} {l : List (Nat × Array Value × TypeId)}
theorem Kept.get (h : Kept A g l W) (i : Nat) {b : Nat} {cs : Array Value} {t : TypeId} (hi : l[i]? = some (b, cs, t)) : W.heap[b]? = some (.cells cs t (0, 0)) := h.rows i _ hi
theorem Kept.lt (h : Kept A g l W) (i : Nat) {p : Nat × Array Value × TypeId} (hi : l[i]? = some p) : p.1 < W.heap.size := by
  have := h.rows i p hi
  exact (Array.getElem?_eq_some_iff.1 this).1
theorem Kept.cell (h : Kept A g l W) (i : Nat) {b : Nat} {cs : Array Value} {t : TypeId} (hi : l[i]? = some (b, cs, t)) (j : Nat) : W.cell? ⟨b, j, none⟩ = cs[j]? := cell_of_row W b j cs t (0, 0) (h.get i hi)
theorem Kept.frozen (h : Kept A g l W) (i : Nat) {b : Nat} {cs : Array Value} {t : TypeId} (hi : l[i]? = some (b, cs, t)) (j : Nat) : W.frozen? ⟨b, j, none⟩ = false := frozen_of_row W b j cs t (h.get i hi)
theorem Kept.call {W' : World} (h : Kept A g l W) (hb : Below W.heap.size W W') : Kept A g l W' :=
  ⟨fun i p hi => by rw [hb.block _ (h.lt i hi)]; exact h.rows i p hi, h.apart,
   ⟨hb.os.trans h.grown.os, hb.tape.trans h.grown.tape, hb.output.trans h.grown.output, Nat.le_trans h.grown.size hb.size, fun i hi hn => (hb.block i (Nat.lt_of_lt_of_le hi h.grown.size)).trans (h.grown.block i hi hn)⟩⟩
theorem Kept.drew (h : Kept A g l W) : Kept A g l W.drew := ⟨h.rows, h.apart, ⟨h.grown.os, h.grown.tape, h.grown.output, h.grown.size, h.grown.block⟩⟩
theorem Kept.drewN (h : Kept A g l W) (n : Nat) : Kept A g l (W.drewN n) := ⟨h.rows, h.apart, ⟨h.grown.os, h.grown.tape, h.grown.output, h.grown.size, h.grown.block⟩⟩
theorem Kept.turn {W' : World} (h : Kept A g l W) (k : Nat) {old cs : Array Value} {t : TypeId} (hk : l[k]? = some (g, old, t)) (hsame : ∀ i, i ≠ g → W'.heap[i]? = W.heap[i]?) (hnew : W'.heap[g]? = some (.cells cs t (0, 0)))
    (hos : W'.os = W.os) (htape : W'.tape = W.tape) (hout : W'.output = W.output) (hsz : W'.heap.size = W.heap.size) : Kept A g (l.set k (g, cs, t)) W' := by
  have hkl : k < l.length := (List.getElem?_eq_some_iff.1 hk).1
  have key : ∀ (i : Nat) p, (l.set k (g, cs, t))[i]? = some p → (l[i]? = some p ∧ i ≠ k) ∨ (p = (g, cs, t) ∧ i = k) := by
    intro i p hi
    by_cases hik : i = k
    · subst hik
      rw [List.getElem?_set_self hkl] at hi
      exact .inr ⟨by simpa using hi.symm, rfl⟩
    · rw [List.getElem?_set_ne (Ne.symm hik)] at hi
      exact .inl ⟨hi, hik⟩
  refine ⟨fun i p hi => ?_, fun i j p q hi hj hij => ?_, ⟨hos.trans h.grown.os, htape.trans h.grown.tape, hout.trans h.grown.output, by rw [hsz]; exact h.grown.size, fun i hi hn => ?_⟩⟩
  · rcases key i p hi with ⟨hi, hik⟩ | ⟨rfl, _⟩
    · rw [hsame _ (h.apart i k p _ hi hk hik)]
      exact h.rows i p hi
    · exact hnew
  · rcases key i p hi with ⟨hi, hik⟩ | ⟨rfl, hi'⟩ <;> rcases key j q hj with ⟨hj, hjk⟩ | ⟨rfl, hj'⟩
    · exact h.apart i j p q hi hj hij
    · have hb := h.apart i k p _ hi hk hik
      exact hb
    · have hb := h.apart j k q _ hj hk hjk
      exact hb.symm
    · omega
  · rw [hsame i (fun e => hn (by rw [e]))]
    exact h.grown.block i hi hn
theorem Kept.put (h : Kept A g l W) (k : Nat) {old cs : Array Value} {t : TypeId} (hk : l[k]? = some (g, old, t)) : Kept A g (l.set k (g, cs, t)) (W.setRow g cs) :=
  h.turn k hk (fun i hi => setRow_other _ _ _ _ hi) (setRow_heap _ _ _ _ _ _ (h.get k hk)) rfl rfl rfl (by simp)
theorem Kept.set_ (h : Kept A g l W) (k : Nat) {old : Array Value} {t : TypeId} (hk : l[k]? = some (g, old, t)) (j : Nat) (v : Value) : Kept A g (l.set k (g, old.setIfInBounds j v, t)) (W.setCell ⟨g, j, none⟩ v) :=
  h.turn k hk (fun i hi => heap_setCell_other _ _ _ _ hi) (by have := h.get k hk; simp [World.setCell, Array.getElem?_modify, this]) rfl rfl rfl (by simp [World.setCell])
theorem Kept.refl (W : World) (g : Nat) (l : List (Nat × Array Value × TypeId)) (h : ∀ (i : Nat) p, l[i]? = some p → W.heap[p.1]? = some (.cells p.2.1 p.2.2 (0, 0))) (ha : ∀ (i j : Nat) p q, l[i]? = some p → l[j]? = some q → i ≠ j → p.1 ≠ q.1) : Kept W g l W :=
  ⟨h, ha, ⟨rfl, rfl, rfl, Nat.le_refl _, fun _ _ _ => rfl⟩⟩
end

section
variable {P : Program}
/-- A part of a row, read as an aggregate. -/
theorem run_loadVar_part (w : World) (g o : Nat) (t ty : TypeId) (cs : Array Value) (fr : Nat × Nat) (sub : Array Value) (d : TypeDesc) (hg : w.heap[g]? = some (.cells cs t fr)) (hsub : ∀ j v, sub[j]? = some v → cs[o + j]? = some v)
    (hu : P.underlying ty = some d) (hd : (match d with | .struct _ | .array _ _ => true | _ => false) = true) (hi : (P.info? ty).map (·.size) = some sub.size) :
    (loadVar ty ⟨g, o, none⟩).run P w = .ok (.agg sub) w := by
  have hl : (loadCells ⟨g, o, none⟩ sub.toList.length).run P w = .ok sub.toList.toArray w :=
    run_loadCells_list (P := P) w ⟨g, o, none⟩ sub.toList (fun j v hv => by
      have hadd : (⟨g, o, none⟩ : Addr).add j = ⟨g, o + j, none⟩ := by unfold Addr.add; split <;> simp_all
      rw [hadd, cell_of_row w g (o + j) cs t fr hg]
      exact hsub j v (by simpa using hv))
  cases hq : P.info? ty with
  | none => simp [hq] at hi
  | some i =>
    have hs : i.size = sub.size := by simpa [hq] using hi
    have hagg : (isAgg ty).run P w = .ok true w := by
      unfold isAgg
      rw [Sem.run_bind, run_underlying hu w]
      cases d <;> simp_all
    simp only [Array.length_toList, Array.toArray_toList] at hl
    simp [loadVar, Sem.run_bind, hagg, sizeOf, typeInfo, hq, hs, hl]
/-- A part of a row, written as a whole. -/
theorem run_storeVar_part (w : World) (g o : Nat) (t ty : TypeId) (cur sub : Array Value) (hg : w.heap[g]? = some (.cells cur t (0, 0))) (hfit : o + sub.size ≤ cur.size) (h1 : ∀ v ∈ sub.toList, v.oneCell' = true)
    (hi : (P.info? ty).map (·.size) = some sub.size) :
    (storeVar ty ⟨g, o, none⟩ (.agg sub)).run P w = .ok () (w.setRow g (cur.toList.take o ++ sub.toList ++ cur.toList.drop (o + sub.size)).toArray) := by
  have hst := run_storeCells_at P g o t sub.toList 0 cur w hg (by simpa using hfit) h1
  cases hq : P.info? ty with
  | none => simp [hq] at hi
  | some i =>
    have hs : i.size = sub.size := by simpa [hq] using hi
    simp only [Nat.add_zero, Array.length_toList] at hst
    simp [storeVar, Value.cells, Sem.run_bind, sizeOf, typeInfo, hq, hs, hst]
end
end Go.Proofs.Ytfpgjabbpcndfaa
