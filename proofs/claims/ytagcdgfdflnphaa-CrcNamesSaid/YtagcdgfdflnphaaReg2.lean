/- The steps of a walk over a drawn region, operation by operation (Reg). No condition. -/
import Derived.Test.YtagcdgfdflnphaaReg
import Derived.Test.YtagcdgfdflnphaaCrcE
import Derived.Deep.Draws
namespace Go.Proofs.Ytagcdgfdflnphaa
open Go.RowKit

theorem below_drewN {B : Nat} {a w : World} (h : Below B a w) (n : Nat) : Below B a (w.drewN n) := ⟨h.os, h.tape, h.output, h.size, h.block⟩

/-- What is known of a value, whatever later world it is looked at in. -/
structure Ty where
  p : Value → World → Prop
  mono : ∀ v W W', p v W → Later W W' → p v W'
def Ty.is (c : Value) : Ty := ⟨fun v _ => v = c, fun _ _ _ h _ => h⟩
def Ty.free : Ty := ⟨fun _ _ => True, fun _ _ _ _ _ => trivial⟩
def Ty.bytes (bs : List UInt8) : Ty := ⟨fun v W => ∃ A c, v = .slice A bs.length c ∧ Holds8 W.heap.size W A bs, fun _ _ _ ⟨A, c, e, h⟩ hl => ⟨A, c, e, h.later hl⟩⟩
/-- Where a list of values lies, one behind the other, from a block's start. -/
def Ty.row (vs : List Value) : Ty := ⟨fun v W => ∃ g, v = .slice (some ⟨g, 0, none⟩) vs.length vs.length ∧ g < W.heap.size ∧ ∀ j u, vs[j]? = some u → W.cell? ⟨g, j, none⟩ = some u, fun v W W' ⟨g, e, hg, hc⟩ hl => ⟨g, e, Nat.lt_of_lt_of_le hg hl.size, fun j u hj => (hl.cell (p := ⟨g, j, none⟩) hg).trans (hc j u hj)⟩⟩
def Ty.of (Ts : List Ty) (i : Nat) : Value → World → Prop := ((Ts[i]?).getD Ty.free).p
theorem Ty.of_is {Ts : List Ty} {i : Nat} {c : Value} {W : World} (h : Ts[i]? = some (Ty.is c)) : Ty.of Ts i c W := by
  unfold Ty.of
  rw [h]
  exact rfl
theorem Ty.of_mono (Ts : List Ty) (i : Nat) (v : Value) (W W' : World) (h : Ty.of Ts i v W) (hl : Later W W') : Ty.of Ts i v W' := Ty.mono _ _ _ _ h hl

section
variable {P : Program} {l : List Oper} {T : Nat → Value → World → Prop} {a0 F : Act} {vals : Nat → Value} {W : World} {i n : Nat} {o : Oper}

/-- F is the act with all values laid over it. -/
structure AllIn (n : Nat) (l : List Oper) (vals : Nat → Value) (a0 F : Act) : Prop where
  act : F = fin l 0 vals a0
  dis : distinctB l = true
  size : a0.tmps.size = n
theorem AllIn.out_ (h : AllIn n l vals a0 F) {t : Tmp} {v : Value} (hl : l.all (fun o => o.dst != some t) = true) (hv : a0.tmps.getD t undef = v) : F.eval (.tmp t) = v := by
  show F.tmps.getD t undef = v
  rw [Array.getD_eq_getD_getElem?, h.act, fin_other l t 0 vals a0 (fun o ho => by have := List.all_eq_true.1 hl o ho; simpa using this), ← Array.getD_eq_getD_getElem?, hv]
theorem AllIn.own_ (h : AllIn n l vals a0 F) (j : Nat) {o : Oper} {t : Tmp} (ho : l[j]? = some o) (hd : o.dst = some t) (ht : t < n) : F.tmps[t]? = some (vals j) := by
  rw [h.act, fin_at l 0 vals a0 h.dis j o t ho hd (by rw [h.size]; exact ht), Nat.zero_add]
theorem eval_some {t : Tmp} {v : Value} (h : F.tmps[t]? = some v) : F.eval (.tmp t) = v := by
  show F.tmps.getD t undef = v
  rw [Array.getD_eq_getD_getElem?, h]
  rfl
theorem wanted_none (hg : o.guard = none) : Region.wanted o (yielded l.toArray F.tmps) = true := by unfold Region.wanted; rw [hg]
theorem yielded_of {g : Nat} {og : Oper} {t : Tmp} {b : Bool} (hl : l[g]? = some og) (hd : og.dst = some t) (hv : F.tmps[t]? = some (.bool b)) : yielded l.toArray F.tmps g = some b := by
  unfold yielded
  have : l.toArray[g]? = some og := by simpa using hl
  rw [this, Option.bind_some, hd, Option.bind_some, hv]
theorem wanted_yes {g : Nat} {og : Oper} {t : Tmp} {b : Bool} (hg : o.guard = some (g, b)) (hl : l[g]? = some og) (hd : og.dst = some t) (hv : F.tmps[t]? = some (.bool b)) : Region.wanted o (yielded l.toArray F.tmps) = true := by
  unfold Region.wanted; simp only [hg, yielded_of hl hd hv, beq_self_eq_true]
theorem wanted_no {g : Nat} {og : Oper} {t : Tmp} {b c : Bool} (hg : o.guard = some (g, b)) (hl : l[g]? = some og) (hd : og.dst = some t) (hv : F.tmps[t]? = some (.bool c)) (hc : (c == b) = false) : Region.wanted o (yielded l.toArray F.tmps) = false := by
  unfold Region.wanted; simp only [hg, yielded_of hl hd hv]
  cases b <;> cases c <;> first | rfl | cases hc

/-- The obligation, at an act that is a name. -/
def OblF (n : Nat) (P : Program) (l : List Oper) (T : Nat → Value → World → Prop) (a0 : Act) (w0 : World) (i : Nat) (o : Oper) : Prop :=
  ∀ (vals : Nat → Value) (W : World) (F : Act), AllIn n l vals a0 F → Later w0 W → (∀ e ∈ o.after, Region.binds .any e = true → T e.on (vals e.on) W) →
    (Region.wanted o (yielded l.toArray F.tmps) = false ∧ T i undef W) ∨
    (Region.wanted o (yielded l.toArray F.tmps) = true ∧
      ((∃ v, (execOp F.eval o).run P W = .ok (.value v) W ∧ T i v W) ∨
       (∃ v W', (execOp F.eval o).run P W = .ok (.value v) W' ∧ Later W W' ∧ T i v W') ∨
       ∃ f args, (execOp F.eval o).run P W = .ok (.enter f args) W ∧ Calls P f args W fun e W' => ∃ v, e = .returned v ∧ Later W W' ∧ T i v W'))
theorem obl_of {w0 : World} (hsz : a0.tmps.size = n) (hdis : distinctB l = true) (hd : ∀ t, o.dst = some t → t < a0.tmps.size) (hn : o.dst ≠ none) (h : OblF n P l T a0 w0 i o) : Obl P l T a0 w0 i o := by
  intro vals W hS hdeps
  have slot : ∀ v, slotOf o ((fin l 0 vals a0).put o.dst v) = v := by
    intro v
    unfold slotOf
    cases hdst : o.dst with
    | none => exact absurd hdst hn
    | some t => simp only [Array.getD_eq_getD_getElem?, put_same _ t v (show t < (fin l 0 vals a0).tmps.size by rw [fin_size]; exact hd t hdst), Option.getD_some]
  unfold wpList
  rcases h vals W _ ⟨rfl, hdis, hsz⟩ hS hdeps with ⟨hw, hT⟩ | ⟨hw, h⟩
  · rw [if_neg (by rw [hw]; decide)]
    exact ⟨rfl, by rw [put_defers, fin_defers], Later.refl _, by rw [slot]; exact hT⟩
  · rw [if_pos hw]
    refine .inl ?_
    unfold Oper.wp
    rcases h with ⟨v, hrun, hT⟩ | ⟨v, W', hrun, hl, hT⟩ | ⟨f, args, hrun, hc⟩
    · rw [hrun]
      exact ⟨rfl, by rw [put_defers, fin_defers], Later.refl _, by rw [slot]; exact hT⟩
    · rw [hrun]
      exact ⟨rfl, by rw [put_defers, fin_defers], hl, by rw [slot]; exact hT⟩
    · rw [hrun]
      refine Calls.mono hc fun e W' ⟨v, he, hl, hT⟩ => ?_
      subst he
      exact ⟨rfl, by rw [put_defers, fin_defers], hl, by rw [slot]; exact hT⟩
def OblsF (n : Nat) (P : Program) (l : List Oper) (T : Nat → Value → World → Prop) (a0 : Act) (w0 : World) : Nat → List Oper → Prop
  | _, [] => True
  | k, o :: os => OblF n P l T a0 w0 k o ∧ OblsF n P l T a0 w0 (k + 1) os
def dstsB (l : List Oper) (n : Nat) : Bool := l.all fun o => match o.dst with | none => false | some t => decide (t < n)
theorem obls_of {w0 : World} (hsz : a0.tmps.size = n) (hdis : distinctB l = true) : ∀ (m : List Oper) (k : Nat), dstsB m a0.tmps.size = true → OblsF n P l T a0 w0 k m → Obls P l T a0 w0 k m
  | [], _, _, _ => trivial
  | x :: m, k, hb, h => by
    unfold dstsB at hb
    rw [List.all_cons, Bool.and_eq_true] at hb
    refine ⟨obl_of hsz hdis (fun t ht => ?_) (fun hn => ?_) h.1, obls_of hsz hdis m (k + 1) hb.2 h.2⟩
    · have := hb.1
      rw [ht] at this
      simpa using this
    · have := hb.1
      rw [hn] at this
      cases this
end
section
variable {P : Program} {Q : Exit → Act → World → Prop}
theorem wp_region_tys {id : Nat} {l : List Oper} {a0 : Act} {w0 : World} (n : Nat) (hn : a0.tmps.size = n) (Ts : List Ty) (hm : P.follows .mixedOrders = true)
    (hsel : Region.noSelect l.toArray = true) (hdis : distinctB l = true) (hwait : waitsB l = true) (hbeh : behindB l = true) (hdst : dstsB l n = true) (hobl : OblsF n P l (Ty.of Ts) a0 w0 0 l)
    (hend : ∀ vals W F, AllIn n l vals a0 F → F.defers = a0.defers → Later w0 W → (∀ j, j < l.length → Ty.of Ts j (vals j) W) → Q .normal F W) : (Code.region id l.toArray true).wp P Q a0 w0 :=
  wp_region_typed (Ty.of Ts) hm (Ty.of_mono Ts) hsel hdis hwait hbeh (obls_of hn hdis l 0 (by rw [hn]; exact hdst) hobl) fun vals W hl h => hend vals W _ ⟨rfl, hdis, hn⟩ (fin_defers _ _ _ _) hl h
end
end Go.Proofs.Ytagcdgfdflnphaa
