/- A region that draws its order within the round of a range over a function: the law of Reg3. No condition. -/
import Derived.Test.YtfpgjabbpcndfaaReg3
import Derived.TacticsIn
import Derived.RangeFuncCalls
namespace Go.Proofs.Ytfpgjabbpcndfaa
open Go.RowKit
theorem rowsIn_round {r n : Nat} {P : Program} {row : String} {args : Array Value} {w : World} {R : Value → World → Prop} (h : Rows P row args w R) : RowsIn (Fence.wide.inRound r) n P row args w R :=
  fun c cs _ => let ⟨v, w', q, s⟩ := h c cs; ⟨v, w', q, stepsIn_wide.2 s⟩
theorem wpOps_in {P : Program} {ops : Array Oper} {Q : Exit → Act → World → Prop} {r n : Nat} (hnd : ∀ (i : Nat) (o : Oper), ops[i]? = some o → ∀ c, o.op ≠ .defer c) (hL : ¬ LetsOut Q) :
    ∀ (l : List Nat) (a : Act) (w : World), wpOps P ops Q l a w → wpOpsIn (Fence.wide.inRound r) n P ops Q l a w
  | [], a, w, h => h
  | i :: rest, a, w, h => by
    have ih := fun a w => wpOps_in (P := P) (r := r) (n := n) hnd hL rest a w
    unfold wpOps at h
    unfold wpOpsIn
    cases ho : ops[i]? with
    | none =>
      rw [ho] at h
      exact ih _ _ h
    | some o =>
      rw [ho] at h
      simp only at h ⊢
      split at h
      · rename_i hw
        rw [if_pos hw]
        rcases h with h | ⟨_, h⟩
        · refine ⟨fun _ _ => trivial, ?_⟩
          show o.uponIn (Fence.wide.inRound r) n P a _ Q ((o.semAt (some r) a.eval).run P w)
          rw [Oper.semAt_some r a.eval o (hnd i o ho)]
          unfold Oper.wp at h
          generalize (execOp a.eval o).run P w = res at h ⊢
          unfold Oper.upon at h
          split at h
          · exact ih _ _ h
          · exact ih _ _ h
          · exact ih _ _ h
          · refine ⟨(fun hd => by cases hd), CallsIn.inRound r (callsIn_wide.2 (h.mono fun e w' q => ?_))⟩
            cases e with
            | returned v => exact ih _ _ q
            | panicked c => exact q
            | outgrown => exact q
          · exact ⟨(fun hd => by cases hd), rowsIn_round (r := r) (by
              intro c cs
              obtain ⟨v, w', q, s⟩ := h c cs
              exact ⟨v, w', ih _ _ q, s⟩)⟩
          · exact h
          · exact h.elim
        · exact absurd h hL
      · rename_i hw
        rw [if_neg hw]
        exact ⟨fun _ _ => trivial, ih _ _ h⟩
def noDeferB (l : List Oper) : Bool := l.all fun o => match o.op with | .defer _ => false | _ => true
theorem noDefer_of {l : List Oper} (h : noDeferB l = true) : ∀ (i : Nat) (o : Oper), l.toArray[i]? = some o → ∀ c, o.op ≠ .defer c := by
  intro i o ho c hc
  have := List.all_eq_true.1 h o (List.mem_of_getElem? (by simpa using ho))
  rw [hc] at this
  cases this
theorem wpIn_region_any {P : Program} {Q : Exit → Act → World → Prop} {id r n : Nat} {l : List Oper} {a : Act} {w : World} (hm : P.follows .mixedOrders = true) (hd : noDeferB l = true) (hL : ¬ LetsOut Q)
    (h : wpAny P .any l.toArray Q l.toArray.size (Array.replicate l.toArray.size false) a { w with drawn := w.drawn + 1 }) : (Code.region id l.toArray true).wpIn (Fence.wide.inRound r) n P Q a w :=
  wpIn_region_draw fun t => by
    simp only [Region.schedule, hm, Bool.true_or, if_true]
    exact wpOps_in (noDefer_of hd) hL _ a _ (wpAny_sound l.toArray.size t _ a _ h)
theorem wpIn_region_phased {P : Program} {r m : Nat} {Q : Exit → Act → World → Prop} {id : Nat} {l : List Oper} {a0 : Act} {w0 : World} (n : Nat) (hn : a0.tmps.size = n) (R : Nat → Nat → World → World → Prop) (I : Nat → World → Prop) (Ts : List (TyP R)) (effs los his : List Nat) (hL : ¬ LetsOut Q) (hdf : noDeferB l = true) (hm : P.follows .mixedOrders = true)
    (hf : fineB l n effs los his = true) (hfr : fromB (Ts.map fun t => t.from_) los effs = true) (hR : ∀ p d W, R p d W W) (h0 : I 0 w0.drew) (hobl : OblsG (fun i => (Ts.map fun t => t.till_).getD i 1000) n P l (TyP.of Ts) R I a0 effs los his 0 l)
    (hend : ∀ vals W F, AllIn n l vals a0 F → F.defers = a0.defers → I effs.length W → (∀ j, j < l.length → effs.length ≤ (Ts.map fun t => t.till_).getD j 1000 → TyP.of Ts j (vals j) W) → Q .normal F W) : (Code.region id l.toArray true).wpIn (Fence.wide.inRound r) m P Q a0 w0 := by
  simp only [fineB, Bool.and_eq_true] at hf
  obtain ⟨hsel, hdis, hwait, hbeh, hdst, hnd, hlo, hhi, heff, hins⟩ := hf
  have hin : ∀ (q j : Nat), effs[q]? = some j → j < l.length := fun q j hq => by
    have := List.all_eq_true.1 hins j (List.mem_of_getElem? hq)
    simpa using this
  refine wpIn_region_any hm hdf hL ?_
  have e : l.toArray.size = l.length := by simp
  rw [e]
  refine any_phased (a0 := a0) (effs := effs) (los := los) (his := his) (fun i => (Ts.map fun t => t.till_).getD i 1000) (TyP.of_mono hfr) hsel hdis hwait hbeh hnd hlo hhi heff (fun i o ho => by
    have := oblsG_get hR hn hdis l 0 (by rw [hn]; exact hdst) hobl i o ho
    rwa [Nat.zero_add] at this) hin (fun i o t ho hd => by
    have h := List.all_eq_true.1 hdst o (List.mem_of_getElem? ho)
    rw [hd] at h
    rw [hn]
    simpa using h) (fun vals W hI h => hend vals W _ ⟨rfl, hdis, hn⟩ (fin_defers _ _ _ _) hI h) _ _ 0 (fun _ => undef) a0 _ ⟨⟨by simp, fun j oj _ hl => absurd hl (by rw [getD_replicate_false]; decide), fun q j hq => ⟨fun hl => absurd hl (by rw [getD_replicate_false]; decide), fun h => by omega⟩, by omega⟩, h0, rfl, rfl, fun j hj => absurd hj (by rw [getD_replicate_false]; decide), fun _ _ => rfl, fun j o t _ _ _ hj => absurd hj (by rw [getD_replicate_false]; decide), fun _ _ _ _ _ _ => rfl⟩ (by
    unfold left
    exact Nat.le_trans List.countP_le_length (by simp))
end Go.Proofs.Ytfpgjabbpcndfaa
