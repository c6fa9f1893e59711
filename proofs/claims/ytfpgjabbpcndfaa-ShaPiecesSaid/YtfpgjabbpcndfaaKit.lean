/- A region that draws its order, walked once in the text's order, at any class of worlds: its statement with the operations written out, and the steps at the load of a whole box and at a call. No condition. -/
import Derived.WalkKit
import Derived.Deep.QuietTactic
import Derived.BigQuiet
import Derived.Laws.Rows
import Derived.ProofKit
import Derived.OpenShut
import Derived.Laws.StructEq
import Derived.StillTail
namespace Go.Proofs.Ytfpgjabbpcndfaa
open Go.RowKit
section
variable {P : Program} {ops : Array Oper} {C : World → Prop}

theorem wp_region_class {id : Nat} {Q : Exit → Act → World → Prop} {a : Act} {w : World} {l : List Oper} (hm : P.follows .mixedOrders = true) (hB : Region.lexB .any l.toArray = true) (hC : C w.drew)
    (h : wpQuiet P l.toArray C (fun a' => ∀ w', C w' → Q .normal a' w') l a) : (Code.region id l.toArray true).wp P Q a w :=
  wp_region_quiet (C := C) hm hB hC (by simpa using h)

theorem quiet_load_row {o : Oper} {rest : List Oper} {a : Act} {Q : Act → Prop} (hw : Region.wanted o (yielded ops a.tmps) = true) (ty : TypeId) (x : Operand) (ho : o.op = .load ty x)
    (g : Nat) (hx : a.eval x = .pointer (some ⟨g, 0, none⟩)) (t : TypeId) (cs : Array Value) (fr : Nat × Nat) (d : TypeDesc) (hg : ∀ w, C w → w.heap[g]? = some (.cells cs t fr))
    (hu : P.underlying ty = some d) (hd : (match d with | .struct _ | .array _ _ => true | _ => false) = true) (hi : (P.info? ty).map (·.size) = some cs.size)
    (h : wpQuiet P ops C Q rest (a.put o.dst (.agg cs))) : wpQuiet P ops C Q (o :: rest) a := by
  unfold wpQuiet
  rw [if_pos hw]
  refine ⟨.agg cs, fun w hC => ?_, h⟩
  unfold Oper.quietAt execOp
  simp only [ho, hx, Instr.loadAt, Instr.sureAddr, Sem.run_bind, Sem.run_pure, Result.andThen_ok, run_loadVar_row w g t ty cs fr d (hg w hC) hu hd hi]
  exact ⟨rfl, rfl⟩
end
section
variable {P : Program}
/-- A cell of an aggregate of integers, as a part. -/
theorem run_part_int (w : World) (e : TypeId) (k : IntKind) (xs : Array Value) (i : Nat) (he : P.underlying e = some (.int k)) (v : Value) (hv : xs[i]? = some v) :
    (part e xs i).run P w = .ok v w := by
  unfold part isAgg
  simp [Sem.run_bind, run_underlying he, hv]

/-- '==' on two arrays of integers: the lists are the same. -/
theorem run_equalIn_row (d : Nat) (t e : TypeId) (k : IntKind) (n : Nat) (zs us : List Int) (ht : P.underlying t = some (.array n e)) (he : P.underlying e = some (.int k)) (hs : (P.info? e).map (·.size) = some 1) (hz : zs.length = n) (hu : us.length = n) (w : World) :
    (Op.equalIn (d + 2) t (.agg (zs.map (Value.int k)).toArray) (.agg (us.map (Value.int k)).toArray)).run P w = .ok (zs == us) w := by
  have hsz : (sizeOf e).run P w = .ok 1 w := by
    cases hq : P.info? e with
    | none => simp [hq] at hs
    | some i => simp [hq] at hs; simp [sizeOf, typeInfo, hq, hs]
  unfold Op.equalIn
  simp only [Sem.run_bind, run_underlying ht, Result.andThen_ok, hsz, Nat.mul_one]
  rw [Std.Legacy.Range.forIn_eq_forIn_range']
  have key : ∀ m i, i + m = n → (forIn (List.range' i m 1) (none, ()) fun i (_ : Option Bool × Unit) => do
            let a ← part e (List.map (Value.int k) zs).toArray i
            let b ← part e (List.map (Value.int k) us).toArray i
            let r ← Op.equalIn (d + 1) e a b
            if (!r) = true then pure (ForInStep.done (some false, ())) else pure (ForInStep.yield (none, ())) : Sem (Option Bool × Unit)).run P w = .ok (if (zs.drop i == us.drop i) = true then (none, ()) else (some false, ())) w := by
    intro m
    induction m with
    | zero =>
      intro i hi
      rw [List.drop_of_length_le (by omega), List.drop_of_length_le (by omega)]
      simp
    | succ m ih =>
      intro i hi
      have h1 : i < zs.length := by omega
      have h2 : i < us.length := by omega
      have e1 := run_part_int (P := P) w e k (List.map (Value.int k) zs).toArray i he (.int k zs[i]) (by simp [h1])
      have e2 := run_part_int (P := P) w e k (List.map (Value.int k) us).toArray i he (.int k us[i]) (by simp [h2])
      rw [List.range'_succ, List.forIn_cons]
      simp only [Sem.run_bind, e1, e2, Result.andThen_ok, run_equalIn_int w d e k k _ _ he]
      rw [List.drop_eq_getElem_cons h1, List.drop_eq_getElem_cons h2]
      have ih1 := ih (i + 1) (by omega)
      generalize zs.drop (i + 1) = A at *
      generalize us.drop (i + 1) = B at *
      generalize zs[i] = x at *
      generalize us[i] = y at *
      by_cases hq : x = y
      · subst hq
        simp only [beq_self_eq_true, Bool.not_true, Bool.false_eq_true, if_false, Sem.run_pure, Result.andThen_ok]
        rw [ih1]
        simp
      · have hb : (x == y) = false := by simpa using hq
        simp [hb, Result.andThen_ok]
  have k0 := key n 0 (by omega)
  simp only [List.drop_zero] at k0
  have er : List.range' [:n].start [:n].size [:n].step = List.range' 0 n 1 := by simp [Std.Legacy.Range.size]
  rw [er]
  erw [k0]
  by_cases hq : (zs == us) = true
  · simp [hq]
  · simp [hq]
end
section
variable {P : Program} {ops : Array Oper} {md : Region.Mode} {C : World → Prop}

/-- The operations below number n, in whatever order; then L. -/
def headAny (P : Program) (md : Region.Mode) (ops : Array Oper) (C : World → Prop) (n : Nat) (L : Array Bool → Act → Prop) : Nat → Array Bool → Act → Prop
  | 0, listed, a => L listed a
  | f + 1, listed, a => Region.ready md ops listed ≠ [] ∧
      ∀ i ∈ Region.ready md ops listed, i < n ∧ qOp P ops C i (headAny P md ops C n L f (listed.setIfInBounds i true)) a

theorem any_of_head {n g : Nat} {L : Array Bool → Act → Prop} {Q : Exit → Act → World → Prop} (hL : ∀ listed a w, C w → L listed a → wpAny P md ops Q g listed a w)
    (f : Nat) : ∀ (listed : Array Bool) (a : Act) (w : World), C w → headAny P md ops C n L f listed a → wpAny P md ops Q (f + g) listed a w := by
  induction f with
  | zero => intro listed a w hw h; simpa using hL _ _ _ hw h
  | succ f ih =>
    intro listed a w hw h
    have e : f + 1 + g = (f + g) + 1 := by omega
    rw [e]
    refine ⟨fun h0 => absurd h0 h.1, fun i hi => ?_⟩
    exact wpOp_of_qOp hw (fun a' w' hw' hk => ih _ a' w' hw' hk) (h.2 i hi).2

theorem head_first {n i : Nat} {oi : Oper} {v : Value} {L : Array Bool → Act → Prop} (hi : ops[i]? = some oi) (hsel : ∀ (j : Nat) (o : Oper) cs b, ops[j]? = some o → o.op ≠ .select cs b)
    (hs : Region.sinkB md ops n = true) (hc : Region.chainB md ops n = true) (hn : n < ops.size) (hin : i < n)
    (hdone : ∀ listed a, L listed a → ∀ j ∈ Region.ready md ops listed, n ≤ j) (f : Nat) :
    ∀ (listed : Array Bool) (a : Act), HeadInv md ops n listed →
      (∀ j oj, ops[j]? = some oj → j ≠ i → listed.getD j true = false → (∀ e ∈ oj.after, Region.binds md e = true → e.on ≠ i) → oi.apart ops oj = true) →
      i ∈ Region.ready md ops listed → YieldsIn P ops C oi v a →
      headAny P md ops C n L f (listed.setIfInBounds i true) (a.put oi.dst v) → headAny P md ops C n L (f + 1) listed a := by
  induction f with
  | zero =>
    intro listed a inv _ hr hy H
    refine ⟨List.ne_nil_of_mem hr, fun j hj => ⟨?_, ?_⟩⟩
    · exact Nat.lt_of_not_le fun h => tail_waits hs hc hn inv _ i rfl hin (mem_ready.1 hr).1 j h hj
    · rcases Decidable.em (j = i) with rfl | hji
      · exact hy.qOp hi H
      · have hlt := Nat.lt_of_not_le fun h => tail_waits hs hc hn inv _ i rfl hin (mem_ready.1 hr).1 j h hj
        exact absurd (hdone _ _ H j (ready_mono hj hji)) (Nat.not_le.2 hlt)
  | succ f ih =>
    intro listed a inv hfree hr hy H
    refine ⟨List.ne_nil_of_mem hr, fun j hj => ?_⟩
    have hlt := Nat.lt_of_not_le fun h => tail_waits hs hc hn inv _ i rfl hin (mem_ready.1 hr).1 j h hj
    refine ⟨hlt, ?_⟩
    rcases Decidable.em (j = i) with rfl | hji
    · exact hy.qOp hi H
    · obtain ⟨hjun, oj, hoj, hall⟩ := mem_ready.1 hj
      have hnot : ∀ e ∈ oj.after, Region.binds md e = true → e.on ≠ i := by
        intro e he hb heq
        have h1 := hall e he hb
        rw [heq, getD_both (mem_ready.1 hr).1] at h1
        exact absurd h1 (by decide)
      refine qOp_mono ?_ (qOp_put hoj (hfree j oj hoj hji hjun hnot) (fun cs b => hsel i oi cs b hi) (fun cs b => hsel j oj cs b hoj) hy (H.2 j (ready_mono hj hji)).2)
      rintro a' ⟨hy', hk⟩
      refine ih (listed.setIfInBounds j true) a' (inv.set hj hlt) (fun k ok hk hki hun hno => ?_) (ready_mono hr (Ne.symm hji)) hy' (by rw [Array.setIfInBounds_comm _ _ hji]; exact hk)
      refine hfree k ok hk hki ?_ hno
      rcases Decidable.em (j = k) with rfl | hjk
      · exact hjun
      · rwa [getD_set_ne true hjk] at hun

theorem head_lex {n g : Nat} {Lq : Act → Prop} (hsel : Region.noSelect ops = true) (hs : Region.sinkB md ops n = true) (hc : Region.chainB md ops n = true) (hn : n < ops.size) (l : List Oper) :
    ∀ (k : Nat) (listed : Array Bool) (a : Act), (∀ j, j < l.length → l[j]? = ops[k + j]?) → k + l.length = n → HeadInv md ops n listed →
    Region.lexHead md ops g l.length k listed = true → wpQuiet P ops C Lq l a →
    headAny P md ops C n (fun listed' a' => Region.seqB md ops g n listed' = true ∧ Lq a') l.length listed a := by
  induction l with
  | nil =>
    intro k listed a _ hk _ hB h
    obtain rfl : k = n := by simpa using hk
    exact ⟨by simpa [Region.lexHead] using hB, h⟩
  | cons o l ih =>
    intro k listed a hl hk inv hB h
    have h0 : ops[k]? = some o := by simpa using (hl 0 (by simp)).symm
    simp only [List.length_cons, Region.lexHead, Bool.and_eq_true] at hB
    simp only [List.length_cons] at hk
    have hr : k ∈ Region.ready md ops listed := by simpa using hB.1.1
    obtain ⟨v, hy, hK⟩ := yieldsIn_of_qOp (P := P) (C := C) (K := wpQuiet P ops C Lq l) h0 (by unfold qOp; simp only [h0]; exact h)
    refine head_first h0 (Region.noSelect_spec hsel) hs hc hn (by omega) (fun _ _ hL => seqB_ready hL.1) l.length listed a inv (Region.free_spec h0 hB.1.2) hr hy ?_
    refine ih (k + 1) _ _ (fun j hj => ?_) (by omega) (inv.set hr (by omega)) hB.2 hK
    have := hl (j + 1) (by simp; omega)
    simpa [Nat.add_assoc, Nat.add_comm 1 j] using this

/-- A region that draws its order: the operations below number n are quiet in the class C; those from n on stand in one order, and are walked from whatever world of the class. -/
theorem wp_region_class_tail {id : Nat} {Q : Exit → Act → World → Prop} {a : Act} {w : World} {l : List Oper} (n : Nat) (hm : P.follows .mixedOrders = true) (hB : Region.lexTailB .any l.toArray n = true) (hC : C w.drew)
    (h : wpQuiet P l.toArray C (fun a' => ∀ w', C w' → wpList P l.toArray Q (l.drop n) a' w') (l.take n) a) : (Code.region id l.toArray true).wp P Q a w := by
  simp only [Region.lexTailB, Bool.and_eq_true, decide_eq_true_eq] at hB
  obtain ⟨⟨⟨⟨hsel, hn⟩, hs⟩, hc⟩, hlex⟩ := hB
  have hn' : n < l.length := by simpa using hn
  have htl : (l.take n).length = n := by simp; omega
  have inv0 : HeadInv .any l.toArray n (Array.replicate l.toArray.size false) :=
    ⟨by simp, fun j oj _ hl => by rw [getD_replicate_false] at hl; exact absurd hl (by decide), fun t _ ht => getD_in (by simpa using ht) (getD_replicate_false _ _)⟩
  have H := head_lex (md := .any) (g := l.toArray.size - n) hsel hs hc hn (l.take n) 0 _ a (fun j hj => by
    rw [htl] at hj
    simp [hj]) (by simpa using htl) inv0 (by rw [htl]; exact hlex) h
  refine wp_region_any hm ?_
  have R := any_of_head (Q := Q) (g := l.toArray.size - n) (fun listed a' w' hw' hL => by
    have hd : (l.drop n).length = l.toArray.size - n := by simp
    rw [← hd]
    exact wpAny_of_seq (l.drop n) n listed a' w' (fun j => by simp) (by rw [hd]; exact hL.1) (hL.2 w' hw')) _ _ _ _ hC H
  have e : (l.take n).length + (l.toArray.size - n) = l.toArray.size := by rw [htl]; simp; omega
  rw [e] at R
  exact R
end

/-! What the call's own boxes hold: a list of blocks with their cells; below them the world is as it was when the call began. -/
structure Keeps (W0 : World) (l : List (Nat × Array Value × TypeId)) (W : World) : Prop where
  rows : ∀ (i : Nat) p, l[i]? = some p → W.heap[p.1]? = some (.cells p.2.1 p.2.2)
  base : ∀ (i : Nat) p, l[i]? = some p → W0.heap.size ≤ p.1
  apart : ∀ (i j : Nat) p q, l[i]? = some p → l[j]? = some q → i ≠ j → p.1 ≠ q.1
  bel : Below W0.heap.size W0 W

section
variable {P : Program} {W0 W : World} {l : List (Nat × Array Value × TypeId)}

theorem Keeps.nil (W : World) : Keeps W [] W := ⟨fun _ _ h => by simp at h, fun _ _ h => by simp at h, fun _ _ _ _ h => by simp at h, Below.refl _ _⟩

theorem Keeps.get (h : Keeps W0 l W) (i : Nat) {g : Nat} {cs : Array Value} {t : TypeId} (hi : l[i]? = some (g, cs, t)) : W.heap[g]? = some (.cells cs t) := h.rows i _ hi

theorem Keeps.lt (h : Keeps W0 l W) (i : Nat) {p : Nat × Array Value × TypeId} (hi : l[i]? = some p) : p.1 < W.heap.size := by
  have := h.rows i p hi
  exact (Array.getElem?_eq_some_iff.1 this).1

theorem Keeps.call {W' : World} (h : Keeps W0 l W) (hb : Below W.heap.size W W') : Keeps W0 l W' :=
  ⟨fun i p hi => by rw [hb.block _ (h.lt i hi)]; exact h.rows i p hi, h.base, h.apart, h.bel.trans (hb.mono h.bel.size)⟩

theorem Keeps.drew (h : Keeps W0 l W) : Keeps W0 l W.drew := ⟨h.rows, h.base, h.apart, h.bel.drew⟩

theorem Keeps.new (h : Keeps W0 l W) (cs : Array Value) (t : TypeId) : Keeps W0 (l ++ [(W.heap.size, cs, t)]) (W.alloc (.cells cs t)) := by
  have key : ∀ (i : Nat) p, (l ++ [(W.heap.size, cs, t)])[i]? = some p → (l[i]? = some p ∧ i < l.length) ∨ (p = (W.heap.size, cs, t) ∧ i = l.length) := by
    intro i p hi
    rcases Nat.lt_or_ge i l.length with hlt | hge
    · rw [List.getElem?_append_left hlt] at hi
      exact .inl ⟨hi, hlt⟩
    · rw [List.getElem?_append_right hge] at hi
      have h0 : i - l.length = 0 := by
        have := (List.getElem?_eq_some_iff.1 hi).1
        simp at this
        omega
      rw [h0] at hi
      simp at hi
      exact .inr ⟨hi.symm, by omega⟩
  refine ⟨fun i p hi => ?_, fun i p hi => ?_, fun i j p q hi hj hij => ?_, h.bel.alloc h.bel.size _⟩
  · rcases key i p hi with ⟨hi, _⟩ | ⟨rfl, _⟩
    · rw [Below.heap_alloc _ _ _ (h.lt i hi)]
      exact h.rows i p hi
    · exact heap_alloc_new _ _
  · rcases key i p hi with ⟨hi, _⟩ | ⟨rfl, _⟩
    · exact h.base i p hi
    · exact h.bel.size
  · rcases key i p hi with ⟨hi, _⟩ | ⟨rfl, hi'⟩ <;> rcases key j q hj with ⟨hj, _⟩ | ⟨rfl, hj'⟩
    · exact h.apart i j p q hi hj hij
    · have := h.lt i hi; exact Nat.ne_of_lt this
    · have := h.lt j hj; exact Nat.ne_of_gt this
    · omega

theorem Keeps.put (h : Keeps W0 l W) (k : Nat) {g : Nat} {old : Array Value} {t : TypeId} (hk : l[k]? = some (g, old, t)) (cs : Array Value) : Keeps W0 (l.set k (g, cs, t)) (W.setRow g cs) := by
  have hkl : k < l.length := (List.getElem?_eq_some_iff.1 hk).1
  have key : ∀ (i : Nat) p, (l.set k (g, cs, t))[i]? = some p → (l[i]? = some p ∧ i ≠ k) ∨ (p = (g, cs, t) ∧ i = k) := by
    intro i p hi
    by_cases hik : i = k
    · subst hik
      rw [List.getElem?_set_self hkl] at hi
      exact .inr ⟨by simpa using hi.symm, rfl⟩
    · rw [List.getElem?_set_ne (Ne.symm hik)] at hi
      exact .inl ⟨hi, hik⟩
  have hg := h.get k hk
  refine ⟨fun i p hi => ?_, fun i p hi => ?_, fun i j p q hi hj hij => ?_, ?_⟩
  · rcases key i p hi with ⟨hi, hik⟩ | ⟨rfl, _⟩
    · rw [setRow_other _ _ _ _ (h.apart i k p _ hi hk hik)]
      exact h.rows i p hi
    · exact setRow_heap _ _ _ _ _ _ hg
  · rcases key i p hi with ⟨hi, _⟩ | ⟨rfl, _⟩
    · exact h.base i p hi
    · have hb := h.base k _ hk
      exact hb
  · rcases key i p hi with ⟨hi, hik⟩ | ⟨rfl, hi'⟩ <;> rcases key j q hj with ⟨hj, hjk⟩ | ⟨rfl, hj'⟩
    · exact h.apart i j p q hi hj hij
    · have hb := h.apart i k p _ hi hk hik
      exact hb
    · have hb := h.apart j k q _ hj hk hjk
      exact hb.symm
    · omega
  · have hge := h.base k _ hk
    refine h.bel.trans ⟨rfl, rfl, rfl, by simp [World.setRow], fun i hi => setRow_other _ _ _ _ ?_⟩
    exact Nat.ne_of_lt (Nat.lt_of_lt_of_le hi hge)

theorem Keeps.newput (h : Keeps W0 l W) (old cs : Array Value) (t : TypeId) : Keeps W0 (l ++ [(W.heap.size, cs, t)]) ((W.alloc (.cells old t)).setRow W.heap.size cs) := by
  have hk : (l ++ [(W.heap.size, old, t)])[l.length]? = some (W.heap.size, old, t) := by simp
  have h1 := (h.new old t).put l.length hk cs
  rw [List.set_append_right _ _ (Nat.le_refl _), Nat.sub_self] at h1
  exact h1

variable {ops : Array Oper} {Q : Exit → Act → World → Prop} {rest : List Oper} {o : Oper} {a : Act}

theorem wpList_wanted (hw : Region.wanted o (yielded ops a.tmps) = true)
    (h : ∀ K : Act → World → Prop, (∀ a w, wpList P ops Q rest a w → K a w) → o.wp P a W K Q) : wpList P ops Q (o :: rest) a W :=
  wpList_step fun K hK => by simp only [hw, if_true]; exact h K hK

/-- The load of a whole box. -/
theorem wpList_box (h : Keeps W0 l W) (i : Nat) (hw : Region.wanted o (yielded ops a.tmps) = true) (ty : TypeId) (x : Operand) (ho : o.op = .load ty x)
    {g : Nat} {cs : Array Value} (hx : a.eval x = .pointer (some ⟨g, 0, none⟩)) (hi : l[i]? = some (g, cs, ty)) (d : TypeDesc)
    (hu : P.underlying ty = some d) (hd : (match d with | .struct _ | .array _ _ => true | _ => false) = true) (hs : (P.info? ty).map (·.size) = some cs.size)
    (hn : wpList P ops Q rest (a.put o.dst (.agg cs)) W) : wpList P ops Q (o :: rest) a W :=
  wpList_wanted hw fun _ hK => wp_load_row ty x ho g hx ty cs (0, 0) d (h.get i hi) hu hd hs (hK _ _ hn)

/-- The store of a whole box that was just made. -/
theorem wpList_fill (h : Keeps W0 l W) {old : Array Value} (hw : Region.wanted o (yielded ops a.tmps) = true) (ty : TypeId) (x y : Operand) (ho : o.op = .store ty x y)
    {cs : Array Value} (hx : a.eval x = .pointer (some ⟨W.heap.size, 0, none⟩)) (hy : a.eval y = .agg cs) (hs : (P.info? ty).map (·.size) = some cs.size) (hold : old.size = cs.size) (h1 : cs.all (·.oneCell') = true)
    (hn : ∀ W1, Keeps W0 (l ++ [(W.heap.size, cs, ty)]) W1 → wpList P ops Q rest (a.put o.dst undef) W1) : wpList P ops Q (o :: rest) a (W.alloc (.cells old ty)) :=
  wpList_wanted hw fun _ hK => wp_store_row ty x y ho W.heap.size cs hx hy ty old (heap_alloc_new _ _) hs hold h1 (hK _ _ (hn _ (h.newput old cs ty)))

/-- The store of a whole box, where two were just made: the first of them. -/
theorem wpList_fill2 (h : Keeps W0 l W) {old old2 : Array Value} (hw : Region.wanted o (yielded ops a.tmps) = true) (ty : TypeId) (x y : Operand) (ho : o.op = .store ty x y)
    {cs : Array Value} (hx : a.eval x = .pointer (some ⟨W.heap.size, 0, none⟩)) (hy : a.eval y = .agg cs) (hs : (P.info? ty).map (·.size) = some cs.size) (hold : old.size = cs.size) (h1 : cs.all (·.oneCell') = true)
    (hn : ∀ W1, Keeps W0 (l ++ [(W.heap.size, cs, ty)] ++ [(W.heap.size + 1, old2, ty)]) W1 → wpList P ops Q rest (a.put o.dst undef) W1) : wpList P ops Q (o :: rest) a ((W.alloc (.cells old ty)).alloc (.cells old2 ty)) := by
  have k2 : Keeps W0 (l ++ [(W.heap.size, old, ty)] ++ [(W.heap.size + 1, old2, ty)]) ((W.alloc (.cells old ty)).alloc (.cells old2 ty)) := by
    have := (h.new old ty).new old2 ty
    rwa [World.size_alloc] at this
  have hk : (l ++ [(W.heap.size, old, ty)] ++ [(W.heap.size + 1, old2, ty)])[l.length]? = some (W.heap.size, old, ty) := by simp
  have k3 := k2.put l.length hk cs
  have e : (l ++ [(W.heap.size, old, ty)] ++ [(W.heap.size + 1, old2, ty)]).set l.length (W.heap.size, cs, ty) = l ++ [(W.heap.size, cs, ty)] ++ [(W.heap.size + 1, old2, ty)] := by
    rw [List.append_assoc, List.set_append_right _ _ (Nat.le_refl _), Nat.sub_self]
    simp
  rw [e] at k3
  exact wpList_wanted hw fun _ hK => wp_store_row ty x y ho W.heap.size cs hx hy ty old (k2.get l.length hk) hs hold h1 (hK _ _ (hn _ k3))

/-- The store of a whole box that is in the list. -/
theorem wpList_put (h : Keeps W0 l W) (k : Nat) (hw : Region.wanted o (yielded ops a.tmps) = true) (ty : TypeId) (x y : Operand) (ho : o.op = .store ty x y)
    {g : Nat} {old cs : Array Value} (hx : a.eval x = .pointer (some ⟨g, 0, none⟩)) (hk : l[k]? = some (g, old, ty)) (hy : a.eval y = .agg cs) (hs : (P.info? ty).map (·.size) = some cs.size) (hold : old.size = cs.size) (h1 : cs.all (·.oneCell') = true)
    (hn : ∀ W1, Keeps W0 (l.set k (g, cs, ty)) W1 → wpList P ops Q rest (a.put o.dst undef) W1) : wpList P ops Q (o :: rest) a W :=
  wpList_wanted hw fun _ hK => wp_store_row ty x y ho g cs hx hy ty old (h.get k hk) hs hold h1 (hK _ _ (hn _ (h.put k hk cs)))

/-- The load of a whole box, in a region that draws its order. -/
theorem quiet_box {Q : Act → Prop} (i : Nat) (hw : Region.wanted o (yielded ops a.tmps) = true) (ty : TypeId) (x : Operand) (ho : o.op = .load ty x)
    {g : Nat} {cs : Array Value} (hx : a.eval x = .pointer (some ⟨g, 0, none⟩)) (hi : l[i]? = some (g, cs, ty)) (d : TypeDesc)
    (hu : P.underlying ty = some d) (hd : (match d with | .struct _ | .array _ _ => true | _ => false) = true) (hs : (P.info? ty).map (·.size) = some cs.size)
    (hn : wpQuiet P ops (Keeps W0 l) Q rest (a.put o.dst (.agg cs))) : wpQuiet P ops (Keeps W0 l) Q (o :: rest) a :=
  quiet_load_row hw ty x ho g hx ty cs (0, 0) d (fun _ h => h.get i hi) hu hd hs hn
end
section
open Go.ChangeShapes Go.WideShapes
variable {H : Type} {enc : TypeId × Value → H} {P : Program} {w : World} {base : Nat} {spare : Nat → Bool} {held : Bool}

/-- An array of integers, read: each of its cells is an integer that fits its kind. -/
theorem trod_ints {t e : TypeId} {k : IntKind} {n fuel : Nat} {cs : List Value} {x : DataW H × List MemPlace} (ht : P.underlying t = some (.array n e)) (he : P.underlying e = some (.int k)) (hc : P.cellsOf e = 1)
    (h : DataW.trod enc P w base spare held fuel t cs = some x) : cs.length = P.cellsOf t ∧ ∀ i, i < n → ∃ z, cs[i]? = some (.int k z) ∧ (Lit.int k z).wf = true := by
  obtain ⟨xs, m, _, _, hl, hx, hi⟩ := DataW.trod_array ht h
  refine ⟨hl, fun i hin => ?_⟩
  have h1 := hi i hin
  rw [hc, Nat.mul_one] at h1
  have h2 : ∃ y, xs[i]? = some y := ⟨_, List.getElem?_eq_getElem (by omega)⟩
  obtain ⟨y, hy⟩ := h2
  rw [hy] at h1
  obtain ⟨z, hz, _, hw⟩ := DataW.trod_int he h1
  refine ⟨z, ?_, hw⟩
  have h3 : ((cs.drop i).take 1)[0]? = some (.int k z) := by rw [hz]; rfl
  simpa using h3
end
end Go.Proofs.Ytfpgjabbpcndfaa
