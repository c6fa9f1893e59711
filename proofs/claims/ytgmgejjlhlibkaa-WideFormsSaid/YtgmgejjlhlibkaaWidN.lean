/- What is known of some blocks while one of them is written; the iterator of wide.Div's digits. -/
import Derived.Test.YtgmgejjlhlibkaaWidM
import Derived.Test.YtgmgejjlhlibkaaKit2
import Derived.Test.YtgmgejjlhlibkaaRngT
import Derived.Shelf.Abstract
import Derived.Shelf.RegionOpen
import Derived.WalkKit
import Derived.WalkSpells
import Derived.OwnWalkIn
import Derived.TacticsInMore
import Derived.LoopNIn
import Derived.LoopIn
import Derived.LoopTactic
import Derived.Lib.Hide
import Derived.Outline
namespace Go.Proofs.Ytgmgejjlhlibkaa
set_option linter.unusedVariables false
open Go.RowKit Go.Shelf Go.Lib

/-- Of some blocks the cells are known; from the world A on, nothing that was there has turned but block g. -/
structure Kept (A : World) (g : Nat) (l : List (Nat × Array Value × TypeId)) (W : World) : Prop where
  rows : ∀ (i : Nat) p, l[i]? = some p → W.heap[p.1]? = some (.cells p.2.1 p.2.2 (0, 0))
  apart : ∀ (i j : Nat) p q, l[i]? = some p → l[j]? = some q → i ≠ j → p.1 ≠ q.1
  grown : A.grownBy W (some g)

section
variable {A W : World} {g : Nat} {l : List (Nat × Array Value × TypeId)}
theorem Kept.get (h : Kept A g l W) (i : Nat) {b : Nat} {cs : Array Value} {t : TypeId} (hi : l[i]? = some (b, cs, t)) : W.heap[b]? = some (.cells cs t (0, 0)) := h.rows i _ hi
theorem Kept.lt (h : Kept A g l W) (i : Nat) {p : Nat × Array Value × TypeId} (hi : l[i]? = some p) : p.1 < W.heap.size := by
  have := h.rows i p hi
  exact (Array.getElem?_eq_some_iff.1 this).1
theorem Kept.cell (h : Kept A g l W) (i : Nat) {b : Nat} {cs : Array Value} {t : TypeId} (hi : l[i]? = some (b, cs, t)) (j : Nat) : W.cell? ⟨b, j, none⟩ = cs[j]? := cell_of_row W b j cs t (0, 0) (h.get i hi)
theorem Kept.frozen (h : Kept A g l W) (i : Nat) {b : Nat} {cs : Array Value} {t : TypeId} (hi : l[i]? = some (b, cs, t)) (j : Nat) : W.frozen? ⟨b, j, none⟩ = false := frozen_of_row W b j cs t (h.get i hi)
theorem Kept.call {W' : World} (h : Kept A g l W) (hb : Below W.heap.size W W') : Kept A g l W' :=
  ⟨fun i p hi => by rw [hb.block _ (h.lt i hi)]; exact h.rows i p hi, h.apart,
   ⟨hb.os.trans h.grown.os, hb.tape.trans h.grown.tape, hb.output.trans h.grown.output, Nat.le_trans h.grown.size hb.size, fun i hi hn => (hb.block i (Nat.lt_of_lt_of_le hi h.grown.size)).trans (h.grown.block i hi hn)⟩⟩
theorem Kept.drew (h : Kept A g l W) : Kept A g l W.drew := ⟨h.rows, h.apart, ⟨h.grown.os, h.grown.tape, h.grown.output, h.grown.size, h.grown.block⟩⟩
theorem Kept.drewN (h : Kept A g l W) (n : Nat) : Kept A g l (W.drewN n) := ⟨h.rows, h.apart, ⟨h.grown.os, h.grown.tape, h.grown.output, h.grown.size, h.grown.block⟩⟩
theorem Kept.turn {W' : World} (h : Kept A g l W) (k : Nat) {old cs : Array Value} {t : TypeId} (hk : l[k]? = some (g, old, t)) (hsame : ∀ i, i ≠ g → W'.heap[i]? = W.heap[i]?) (hnew : W'.heap[g]? = some (.cells cs t (0, 0)))
    (hos : W'.os = W.os) (htape : W'.tape = W.tape) (hout : W'.output = W.output) (hsz : W'.heap.size = W.heap.size) : Kept A g (l.set k (g, cs, t)) W' := by
  have hkl : k < l.length := (List.getElem?_eq_some_iff.1 hk).1
  have key : ∀ (i : Nat) p, (l.set k (g, cs, t))[i]? = some p → (l[i]? = some p ∧ i ≠ k) ∨ (p = (g, cs, t) ∧ i = k) := by
    intro i p hi
    by_cases hik : i = k
    · subst hik
      rw [List.getElem?_set_self hkl] at hi
      exact .inr ⟨by simpa using hi.symm, rfl⟩
    · rw [List.getElem?_set_ne (Ne.symm hik)] at hi
      exact .inl ⟨hi, hik⟩
  refine ⟨fun i p hi => ?_, fun i j p q hi hj hij => ?_, ⟨hos.trans h.grown.os, htape.trans h.grown.tape, hout.trans h.grown.output, by rw [hsz]; exact h.grown.size, fun i hi hn => ?_⟩⟩
  · rcases key i p hi with ⟨hi, hik⟩ | ⟨rfl, _⟩
    · rw [hsame _ (h.apart i k p _ hi hk hik)]
      exact h.rows i p hi
    · exact hnew
  · rcases key i p hi with ⟨hi, hik⟩ | ⟨rfl, hi'⟩ <;> rcases key j q hj with ⟨hj, hjk⟩ | ⟨rfl, hj'⟩
    · exact h.apart i j p q hi hj hij
    · have hb := h.apart i k p _ hi hk hik
      exact hb
    · have hb := h.apart j k q _ hj hk hjk
      exact hb.symm
    · omega
  · rw [hsame i (fun e => hn (by rw [e]))]
    exact h.grown.block i hi hn
theorem Kept.put (h : Kept A g l W) (k : Nat) {old cs : Array Value} {t : TypeId} (hk : l[k]? = some (g, old, t)) : Kept A g (l.set k (g, cs, t)) (W.setRow g cs) :=
  h.turn k hk (fun i hi => setRow_other _ _ _ _ hi) (setRow_heap _ _ _ _ _ _ (h.get k hk)) rfl rfl rfl (by simp)
theorem Kept.set_ (h : Kept A g l W) (k : Nat) {old : Array Value} {t : TypeId} (hk : l[k]? = some (g, old, t)) (j : Nat) (v : Value) : Kept A g (l.set k (g, old.setIfInBounds j v, t)) (W.setCell ⟨g, j, none⟩ v) :=
  h.turn k hk (fun i hi => heap_setCell_other _ _ _ _ hi) (by have := h.get k hk; simp [World.setCell, Array.getElem?_modify, this]) rfl rfl rfl (by simp [World.setCell])
theorem Kept.refl (W : World) (g : Nat) (l : List (Nat × Array Value × TypeId)) (h : ∀ (i : Nat) p, l[i]? = some p → W.heap[p.1]? = some (.cells p.2.1 p.2.2 (0, 0))) (ha : ∀ (i j : Nat) p q, l[i]? = some p → l[j]? = some q → i ≠ j → p.1 ≠ q.1) : Kept W g l W :=
  ⟨h, ha, ⟨rfl, rfl, rfl, Nat.le_refl _, fun _ _ _ => rfl⟩⟩

variable {P : Program} {ops : Array Oper} {Q : Exit → Act → World → Prop} {rest : List Oper} {o : Oper} {a : Act}
theorem quiet_kept {Q : Act → Prop} (i : Nat) (hw : Region.wanted o (yielded ops a.tmps) = true) (ty : TypeId) (x : Operand) (ho : o.op = .load ty x)
    {b : Nat} {cs : Array Value} (hx : a.eval x = .pointer (some ⟨b, 0, none⟩)) (hi : l[i]? = some (b, cs, ty)) (d : TypeDesc)
    (hu : P.underlying ty = some d) (hd : (match d with | .struct _ | .array _ _ => true | _ => false) = true) (hs : (P.info? ty).map (·.size) = some cs.size)
    (hn : wpQuiet P ops (Kept A g l) Q rest (a.put o.dst (.agg cs))) : wpQuiet P ops (Kept A g l) Q (o :: rest) a :=
  quiet_load_row hw ty x ho b hx ty cs (0, 0) d (fun _ h => h.get i hi) hu hd hs hn
theorem quiet_cell {Q : Act → Prop} (i : Nat) (hw : Region.wanted o (yielded ops a.tmps) = true) (ty : TypeId) (x : Operand) (ho : o.op = .load ty x) (v : Value)
    {b : Nat} {t : TypeId} (hx : a.eval x = .pointer (some ⟨b, 0, none⟩)) (hi : l[i]? = some (b, #[v], t))
    (hl : ∀ w : World, w.cell? ⟨b, 0, none⟩ = some v → (loadVar ty ⟨b, 0, none⟩).run P w = .ok v w)
    (hn : wpQuiet P ops (Kept A g l) Q rest (a.put o.dst v)) : wpQuiet P ops (Kept A g l) Q (o :: rest) a := by
  unfold wpQuiet
  rw [if_pos hw]
  refine ⟨v, fun w hC => ?_, hn⟩
  unfold Oper.quietAt execOp
  have hc : w.cell? ⟨b, 0, none⟩ = some v := hC.cell i hi 0
  simp only [ho, hx, Instr.loadAt, Instr.sureAddr, Sem.run_bind, Sem.run_pure, Result.andThen_ok, hl w hc]
  exact ⟨rfl, rfl⟩
theorem wpList_keptput (h : Kept A g l W) (k : Nat) (hw : Region.wanted o (yielded ops a.tmps) = true) (ty : TypeId) (x y : Operand) (ho : o.op = .store ty x y)
    {old cs : Array Value} (hx : a.eval x = .pointer (some ⟨g, 0, none⟩)) (hk : l[k]? = some (g, old, ty)) (hy : a.eval y = .agg cs) (hs : (P.info? ty).map (·.size) = some cs.size) (hold : old.size = cs.size) (h1 : cs.all (·.oneCell') = true)
    (hn : ∀ W1, Kept A g (l.set k (g, cs, ty)) W1 → wpList P ops Q rest (a.put o.dst undef) W1) : wpList P ops Q (o :: rest) a W :=
  wpList_wanted hw fun _ hK => wp_store_row ty x y ho g cs hx hy ty old (h.get k hk) hs hold h1 (hK _ _ (hn _ (h.put k hk)))
end

section
variable {A W : World} {g : Nat}
/-! A region that draws its order: what only reads is taken at once; at calls and stores each order is asked. -/
theorem Kept.pre {l0 m : List (Nat × Array Value × TypeId)} (h : Kept A g (l0 ++ m) W) : Kept A g l0 W := by
  have key : ∀ (i : Nat) p, l0[i]? = some p → (l0 ++ m)[i]? = some p := fun i p hi => by
    rw [List.getElem?_append_left (List.getElem?_eq_some_iff.1 hi).1]
    exact hi
  exact ⟨fun i p hi => h.rows i p (key i p hi), fun i j p q hi hj hij => h.apart i j p q (key i p hi) (key j q hj) hij, h.grown⟩

section
variable {P : Program} {ops : Array Oper} {Q : Exit → Act → World → Prop} {a : Act} {l0 m : List (Nat × Array Value × TypeId)} {fuel : Nat} {listed : Array Bool} {o : Oper}

def AnyR (P : Program) (ops : Array Oper) (Q : Exit → Act → World → Prop) (A : World) (g : Nat) (l0 : List (Nat × Array Value × TypeId)) (fuel : Nat) (listed : Array Bool) (a : Act) (m : List (Nat × Array Value × TypeId)) : Prop :=
  ∀ W, Kept A g (l0 ++ m) W → wpAnyH P .any ops Q (Kept A g l0) fuel listed a W
def StepR (P : Program) (ops : Array Oper) (Q : Exit → Act → World → Prop) (A : World) (g : Nat) (l0 : List (Nat × Array Value × TypeId)) (fuel : Nat) (listed : Array Bool) (a : Act) (m : List (Nat × Array Value × TypeId)) (i : Nat) : Prop :=
  ∀ W, Kept A g (l0 ++ m) W → wpOp P ops Q i (fun a' w' => Kept A g l0 w' ∧ wpAnyH P .any ops Q (Kept A g l0) fuel (listed.setIfInBounds i true) a' w') a W

theorem AnyR.start {id : Nat} {W : World} (n : Nat) (hn : ops.size = n) (hm : P.follows .mixedOrders = true) (hH : Kept A g (l0 ++ m) W) (h : AnyR P ops Q A g l0 n (Array.replicate n false) a m) : (Code.region id ops true).wp P Q a W := by
  subst hn
  exact wp_region_held hm (h _ hH.drew)
theorem AnyR.take {v : Value} (i : Nat) (d : Option Tmp) (hi : ops[i]? = some o) (hd : o.dst = d) (hs : Region.noSelect ops = true) (hf : Region.free .any ops listed i = true) (hr : (Region.ready .any ops listed).contains i = true)
    (hQ : ∀ c a w, Q (.panic c) (a.put o.dst v) w → Q (.panic c) a w) (hy : YieldsIf P ops (Kept A g l0) o v a) (h : AnyR P ops Q A g l0 fuel (listed.setIfInBounds i true) (a.put d v) m) : AnyR P ops Q A g l0 (fuel + 1) listed a m := by
  subst hd
  exact fun W hW => wpAnyH_take hi hs hf hr hQ hy hW.pre (h W hW)
theorem yieldsIf_kept (k : Nat) (hw : Region.wanted o (yielded ops a.tmps) = true) (ty : TypeId) (x : Operand) (ho : o.op = .load ty x) {b : Nat} {cs : Array Value} (hx : a.eval x = .pointer (some ⟨b, 0, none⟩)) (hk : l0[k]? = some (b, cs, ty)) (d : TypeDesc)
    (hu : P.underlying ty = some d) (hd : (match d with | .struct _ | .array _ _ => true | _ => false) = true) (hs : (P.info? ty).map (·.size) = some cs.size) : YieldsIf P ops (Kept A g l0) o (.agg cs) a :=
  .inl ⟨hw, fun W hW => by
    unfold execOp
    simp only [ho, hx, Instr.loadAt, Instr.sureAddr, Sem.run_bind, Sem.run_pure, Result.andThen_ok, run_loadVar_row W b ty ty cs (0, 0) d (hW.get k hk) hu hd hs]⟩
theorem yieldsIf_cell (k : Nat) (hw : Region.wanted o (yielded ops a.tmps) = true) (ty : TypeId) (x : Operand) (ho : o.op = .load ty x) (v : Value) {b : Nat} {t : TypeId} (hx : a.eval x = .pointer (some ⟨b, 0, none⟩)) (hk : l0[k]? = some (b, #[v], t))
    (hl : ∀ w : World, w.cell? ⟨b, 0, none⟩ = some v → (loadVar ty ⟨b, 0, none⟩).run P w = .ok v w) : YieldsIf P ops (Kept A g l0) o v a :=
  .inl ⟨hw, fun W hW => by
    have hc : W.cell? ⟨b, 0, none⟩ = some v := hW.cell k hk 0
    unfold execOp
    simp only [ho, hx, Instr.loadAt, Instr.sureAddr, Sem.run_bind, Sem.run_pure, Result.andThen_ok, hl W hc]⟩
theorem AnyR.ready (rs : List Nat) (hr : Region.ready .any ops listed = rs) (hne : rs ≠ []) (h : ∀ i ∈ rs, StepR P ops Q A g l0 fuel listed a m i) : AnyR P ops Q A g l0 (fuel + 1) listed a m :=
  fun W hW => wpAnyH_all hr hne fun i hi => h i hi W hW
theorem StepR.call {f : FuncId} {args : Array Value} {v : Value} (d : Option Tmp) {i : Nat} (hi : ops[i]? = some o) (hd : o.dst = d) (hw : Region.wanted o (yielded ops a.tmps) = true) (ho : ∀ W, (execOp a.eval o).run P W = .ok (.enter f args) W)
    (hc : ∀ W, Calls P f args W fun e W' => e = .returned v ∧ Below W.heap.size W W') (h : AnyR P ops Q A g l0 fuel (listed.setIfInBounds i true) (a.put d v) m) : StepR P ops Q A g l0 fuel listed a m i := fun W hW => by
  subst hd
  refine wpOp_now hi hw ?_
  unfold Oper.wp
  rw [ho W]
  exact (hc W).mono fun e W' ⟨he, hb⟩ => by subst he; exact ⟨(hW.call hb).pre, h W' (hW.call hb)⟩
theorem StepR.load (k : Nat) (d : Option Tmp) {i : Nat} (hi : ops[i]? = some o) (hd : o.dst = d) (hw : Region.wanted o (yielded ops a.tmps) = true) (ty : TypeId) (x : Operand) (ho : o.op = .load ty x) {b : Nat} {cs : Array Value}
    (hx : a.eval x = .pointer (some ⟨b, 0, none⟩)) (hk : (l0 ++ m)[k]? = some (b, cs, ty)) (de : TypeDesc)
    (hu : P.underlying ty = some de) (hde : (match de with | .struct _ | .array _ _ => true | _ => false) = true) (hs : (P.info? ty).map (·.size) = some cs.size)
    (h : AnyR P ops Q A g l0 fuel (listed.setIfInBounds i true) (a.put d (.agg cs)) m) : StepR P ops Q A g l0 fuel listed a m i := fun W hW => by
  subst hd
  exact wpOp_now hi hw (wp_load_row ty x ho b hx ty cs (0, 0) de (hW.get k hk) hu hde hs ⟨hW.pre, h W hW⟩)
theorem StepR.store (k : Nat) {i : Nat} (hi : ops[i]? = some o) (hd : o.dst = none) (hw : Region.wanted o (yielded ops a.tmps) = true) (ty : TypeId) (x y : Operand) (ho : o.op = .store ty x y) {old cs : Array Value}
    (hx : a.eval x = .pointer (some ⟨g, 0, none⟩)) (hk : m[k]? = some (g, old, ty)) (hy : a.eval y = .agg cs) (hs : (P.info? ty).map (·.size) = some cs.size) (hold : old.size = cs.size) (h1 : cs.all (·.oneCell') = true)
    (h : AnyR P ops Q A g l0 fuel (listed.setIfInBounds i true) a (m.set k (g, cs, ty))) : StepR P ops Q A g l0 fuel listed a m i := fun W hW => by
  have hp : a.put o.dst undef = a := by rw [hd]; rfl
  have hk' : (l0 ++ m)[l0.length + k]? = some (g, old, ty) := by
    rw [List.getElem?_append_right (by omega), Nat.add_sub_cancel_left]
    exact hk
  have h2 := hW.put (l0.length + k) hk' (cs := cs)
  rw [List.set_append_right _ _ (by omega), Nat.add_sub_cancel_left] at h2
  exact wpOp_now hi hw (wp_store_row ty x y ho g cs hx hy ty old (hW.get _ hk') hs hold h1 ⟨h2.pre, by rw [hp]; exact h _ h2⟩)
theorem AnyR.done (hr : Region.ready .any ops listed = []) (h : ∀ W, Kept A g (l0 ++ m) W → Q .normal a W) : AnyR P ops Q A g l0 fuel listed a m :=
  fun W hW => wpAnyH_done hr (h W hW) fuel
/-- Behind a region whose act and blocks are known. -/
theorem wp_kept {c : Code} {W : World} {F : Act} {L : List (Nat × Array Value × TypeId)} (hreg : c.wp P (fun e a' W' => e = .normal ∧ a' = F ∧ Kept A g L W') a W) (hcont : ∀ W', Kept A g L W' → Q .normal F W') : c.wp P Q a W :=
  Code.wp_mono (fun e a' W' ⟨he, ha, hk⟩ => by subst he; subst ha; exact hcont W' hk) hreg
end
end
end Go.Proofs.Ytgmgejjlhlibkaa
