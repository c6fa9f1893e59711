/- Regions that draw their order and make boxes: the ways are walked over what the boxes hold, whatever the world is. No condition. -/
import Derived.Test.YtgmgejjlhlibkaaKit
import Derived.Deep.RegionHeld
namespace Go.Proofs.Ytgmgejjlhlibkaa
open Go.RowKit
section
variable {P : Program} {ops : Array Oper} {Q : Exit → Act → World → Prop} {W0 : World} {l0 m : List (Nat × Array Value × TypeId)} {fuel : Nat} {listed : Array Bool} {a : Act} {o : Oper} {i : Nat}

theorem Keeps.pre {W : World} {l1 : List (Nat × Array Value × TypeId)} (h : Keeps W0 (l0 ++ l1) W) : Keeps W0 l0 W := by
  have up : ∀ (i : Nat) p, l0[i]? = some p → (l0 ++ l1)[i]? = some p := fun i p hi => by
    rw [List.getElem?_append_left (List.getElem?_eq_some_iff.1 hi).1]
    exact hi
  exact ⟨fun i p hi => h.rows i p (up i p hi), fun i p hi => h.base i p (up i p hi), fun i j p q hi hj hij => h.apart i j p q (up i p hi) (up j q hj) hij, h.bel⟩

/-- The boxes in another order. -/
theorem Keeps.swap {W : World} {x y : Nat × Array Value × TypeId} (h : Keeps W0 (l0 ++ [x, y]) W) : Keeps W0 (l0 ++ [y, x]) W := by
  have key : ∀ (i : Nat) p, (l0 ++ [y, x])[i]? = some p → ∃ j, (l0 ++ [x, y])[j]? = some p ∧ (i < l0.length → j = i) ∧ (i = l0.length → j = l0.length + 1) ∧ (i = l0.length + 1 → j = l0.length) ∧ i < l0.length + 2 := by
    intro i p hi
    have hlt : i < l0.length + 2 := by
      have := (List.getElem?_eq_some_iff.1 hi).1
      simpa using this
    by_cases h1 : i < l0.length
    · refine ⟨i, ?_, fun _ => rfl, fun h => by omega, fun h => by omega, hlt⟩
      rw [List.getElem?_append_left h1] at hi ⊢
      exact hi
    · by_cases h2 : i = l0.length
      · subst h2
        refine ⟨l0.length + 1, ?_, fun h => by omega, fun _ => rfl, fun h => by omega, hlt⟩
        simp at hi ⊢
        exact hi
      · have h3 : i = l0.length + 1 := by omega
        subst h3
        refine ⟨l0.length, ?_, fun h => by omega, fun h => by omega, fun _ => rfl, hlt⟩
        simp at hi ⊢
        exact hi
  refine ⟨fun i p hi => ?_, fun i p hi => ?_, fun i j p q hi hj hij => ?_, h.bel⟩
  · obtain ⟨k, hk, _⟩ := key i p hi
    exact h.rows k p hk
  · obtain ⟨k, hk, _⟩ := key i p hi
    exact h.base k p hk
  · obtain ⟨k, hk, k1, k2, k3, k4⟩ := key i p hi
    obtain ⟨k', hk', j1, j2, j3, j4⟩ := key j q hj
    refine h.apart k k' p q hk hk' ?_
    by_cases c1 : i < l0.length
    · by_cases d1 : j < l0.length
      · have := k1 c1; have := j1 d1; omega
      · by_cases d2 : j = l0.length
        · have := k1 c1; have := j2 d2; omega
        · have := k1 c1; have := j3 (by omega); omega
    · by_cases c2 : i = l0.length
      · by_cases d1 : j < l0.length
        · have := k2 c2; have := j1 d1; omega
        · have := k2 c2; have := j3 (by omega); omega
      · by_cases d1 : j < l0.length
        · have := k3 (by omega); have := j1 d1; omega
        · have := k3 (by omega); have := j2 (by omega); omega

/-- From here on, whatever order is picked, at whatever world whose boxes hold these. -/
def AnyK (P : Program) (ops : Array Oper) (Q : Exit → Act → World → Prop) (W0 : World) (l0 : List (Nat × Array Value × TypeId)) (fuel : Nat) (listed : Array Bool) (a : Act) (m : List (Nat × Array Value × TypeId)) : Prop :=
  ∀ W, Keeps W0 (l0 ++ m) W → wpAnyH P .any ops Q (Keeps W0 l0) fuel listed a W

def StepK (P : Program) (ops : Array Oper) (Q : Exit → Act → World → Prop) (W0 : World) (l0 : List (Nat × Array Value × TypeId)) (fuel : Nat) (listed : Array Bool) (a : Act) (m : List (Nat × Array Value × TypeId)) (i : Nat) : Prop :=
  ∀ W, Keeps W0 (l0 ++ m) W → wpOp P ops Q i (fun a' w' => Keeps W0 l0 w' ∧ wpAnyH P .any ops Q (Keeps W0 l0) fuel (listed.setIfInBounds i true) a' w') a W

theorem AnyK.start {id : Nat} {W : World} (n : Nat) (hn : ops.size = n) (hm : P.follows .mixedOrders = true) (hH : Keeps W0 l0 W) (h : AnyK P ops Q W0 l0 n (Array.replicate n false) a []) : (Code.region id ops true).wp P Q a W := by
  subst hn
  exact wp_region_held hm (h _ (by rw [List.append_nil]; exact hH.drew))

theorem AnyK.take {v : Value} (i : Nat) (d : Option Tmp) (hi : ops[i]? = some o) (hd : o.dst = d) (hs : Region.noSelect ops = true) (hf : Region.free .any ops listed i = true) (hr : (Region.ready .any ops listed).contains i = true)
    (hQ : ∀ c a w, Q (.panic c) (a.put o.dst v) w → Q (.panic c) a w) (hy : YieldsIf P ops (Keeps W0 l0) o v a) (h : AnyK P ops Q W0 l0 fuel (listed.setIfInBounds i true) (a.put d v) m) : AnyK P ops Q W0 l0 (fuel + 1) listed a m := by
  subst hd
  exact fun W hW => wpAnyH_take hi hs hf hr hQ hy hW.pre (h W hW)

theorem yieldsIf_box (k : Nat) (hw : Region.wanted o (yielded ops a.tmps) = true) (ty : TypeId) (x : Operand) (ho : o.op = .load ty x) {g : Nat} {cs : Array Value} (hx : a.eval x = .pointer (some ⟨g, 0, none⟩)) (hk : l0[k]? = some (g, cs, ty)) (d : TypeDesc)
    (hu : P.underlying ty = some d) (hd : (match d with | .struct _ | .array _ _ => true | _ => false) = true) (hs : (P.info? ty).map (·.size) = some cs.size) : YieldsIf P ops (Keeps W0 l0) o (.agg cs) a :=
  .inl ⟨hw, fun W hW => by
    unfold execOp
    simp only [ho, hx, Instr.loadAt, Instr.sureAddr, Sem.run_bind, Sem.run_pure, Result.andThen_ok, run_loadVar_row W g ty ty cs (0, 0) d (hW.get k hk) hu hd hs]⟩

theorem AnyK.ready (rs : List Nat) (hr : Region.ready .any ops listed = rs) (hne : rs ≠ []) (h : ∀ i ∈ rs, StepK P ops Q W0 l0 fuel listed a m i) : AnyK P ops Q W0 l0 (fuel + 1) listed a m :=
  fun W hW => wpAnyH_all hr hne fun i hi => h i hi W hW

theorem steps_cons {p : Nat → Prop} {i : Nat} {rs : List Nat} (h : p i) (hs : ∀ j ∈ rs, p j) : ∀ j ∈ i :: rs, p j := fun j hj => by
  rcases List.mem_cons.1 hj with rfl | hj
  · exact h
  · exact hs j hj
theorem steps_nil {p : Nat → Prop} : ∀ j ∈ ([] : List Nat), p j := fun j hj => by cases hj

theorem wpOp_now {K : Act → World → Prop} {W : World} (hi : ops[i]? = some o) (hw : Region.wanted o (yielded ops a.tmps) = true) (h : o.wp P a W K Q) : wpOp P ops Q i K a W := by
  unfold wpOp
  simp only [hi, hw, if_true]
  exact .inl h

theorem StepK.call {f : FuncId} {args : Array Value} {v : Value} (d : Option Tmp) (hi : ops[i]? = some o) (hd : o.dst = d) (hw : Region.wanted o (yielded ops a.tmps) = true) (ho : ∀ W, (execOp a.eval o).run P W = .ok (.enter f args) W)
    (hc : ∀ W, Calls P f args W fun e W' => e = .returned v ∧ Below W.heap.size W W') (h : AnyK P ops Q W0 l0 fuel (listed.setIfInBounds i true) (a.put d v) m) : StepK P ops Q W0 l0 fuel listed a m i := fun W hW => by
  subst hd
  refine wpOp_now hi hw ?_
  unfold Oper.wp
  rw [ho W]
  exact (hc W).mono fun e W' ⟨he, hb⟩ => by subst he; exact ⟨(hW.call hb).pre, h W' (hW.call hb)⟩

theorem StepK.alloc {z : Array Value} {t : TypeId} (d : Option Tmp) (hi : ops[i]? = some o) (hd : o.dst = d) (hw : Region.wanted o (yielded ops a.tmps) = true) (ho : ∀ W, (execOp a.eval o).run P W = .ok (.value (.pointer (some ⟨W.heap.size, 0, none⟩))) (W.alloc (.cells z t)))
    (h : ∀ g, AnyK P ops Q W0 l0 fuel (listed.setIfInBounds i true) (a.put d (.pointer (some ⟨g, 0, none⟩))) (m ++ [(g, z, t)])) : StepK P ops Q W0 l0 fuel listed a m i := fun W hW => by
  subst hd
  refine wpOp_now hi hw ?_
  unfold Oper.wp
  rw [ho W]
  have h1 := hW.new z t
  rw [List.append_assoc] at h1
  exact ⟨h1.pre, h W.heap.size _ h1⟩

theorem StepK.store (k : Nat) (hi : ops[i]? = some o) (hd : o.dst = none) (hw : Region.wanted o (yielded ops a.tmps) = true) (ty : TypeId) (x y : Operand) (ho : o.op = .store ty x y) {g : Nat} {old cs : Array Value}
    (hx : a.eval x = .pointer (some ⟨g, 0, none⟩)) (hk : m[k]? = some (g, old, ty)) (hy : a.eval y = .agg cs) (hs : (P.info? ty).map (·.size) = some cs.size) (hold : old.size = cs.size) (h1 : cs.all (·.oneCell') = true)
    (h : AnyK P ops Q W0 l0 fuel (listed.setIfInBounds i true) a (m.set k (g, cs, ty))) : StepK P ops Q W0 l0 fuel listed a m i := fun W hW => by
  have hp : a.put o.dst undef = a := by rw [hd]; rfl
  have hk' : (l0 ++ m)[l0.length + k]? = some (g, old, ty) := by
    rw [List.getElem?_append_right (by omega), Nat.add_sub_cancel_left]
    exact hk
  have h2 := hW.put (l0.length + k) hk' cs
  rw [List.set_append_right _ _ (by omega), Nat.add_sub_cancel_left] at h2
  exact wpOp_now hi hw (wp_store_row ty x y ho g cs hx hy ty old (hW.get _ hk') hs hold h1 ⟨h2.pre, by rw [hp]; exact h _ h2⟩)

theorem AnyK.done (hr : Region.ready .any ops listed = []) (h : ∀ W, Keeps W0 (l0 ++ m) W → Q .normal a W) : AnyK P ops Q W0 l0 fuel listed a m :=
  fun W hW => wpAnyH_done hr (h W hW) fuel
/-- Behind a region that makes one box, whatever its number is. -/
theorem wp_boxes {c : Code} {W : World} {F : Nat → Act} {L : Nat → List (Nat × Array Value × TypeId)} (hreg : c.wp P (fun e a' W' => e = .normal ∧ ∃ g, a' = F g ∧ Keeps W0 (L g) W') a W)
    (hcont : ∀ g W', Keeps W0 (L g) W' → Q .normal (F g) W') : c.wp P Q a W :=
  Code.wp_mono (fun e a' W' ⟨he, g, ha, hk⟩ => by subst he; subst ha; exact hcont g W' hk) hreg

/-- Behind a region that makes two. -/
theorem wp_boxes2 {c : Code} {W : World} {F : Nat → Nat → Act} {L : Nat → Nat → List (Nat × Array Value × TypeId)} (hreg : c.wp P (fun e a' W' => e = .normal ∧ ∃ g h, a' = F g h ∧ Keeps W0 (L g h) W') a W)
    (hcont : ∀ g h W', Keeps W0 (L g h) W' → Q .normal (F g h) W') : c.wp P Q a W :=
  Code.wp_mono (fun e a' W' ⟨he, g, h, ha, hk⟩ => by subst he; subst ha; exact hcont g h W' hk) hreg
end
end Go.Proofs.Ytgmgejjlhlibkaa
