/- A range over a function whose iterator keeps state of its own in cells: the caller's invariant abides the iterator's own steps. No condition. -/
import Derived.RangeFuncNested
import Derived.RangeFuncBound
import Derived.RangeFuncCalls
import Derived.RangeFuncLeaves
import Derived.RangeFuncFrom
import Derived.RangeFuncWrites
namespace Go.Proofs.Ytfpgjabbpcndfaa
open Go.RowKit
section
variable {F : Fence} {n : Nat} {P : Program} {α : Type}

/-- What an iterator gives to every loop body, where its own steps (between two rounds) are told by 'own'. -/
def SeqOwn (F : Fence) (n : Nat) (P : Program) (gf : Nat) (lb : Array Value) (encs : α → Array Value) (own Kp : World → World → Prop) (S Sp : List α → Prop) (N : Nat) (w : World) : Prop :=
  ∀ (l : Nat) (J Jx : List α → World → Prop) (W1 : World), Below w.heap.size w W1 → (∀ s A B, J s A → own A B → J s B) →
    (∀ pre x W, J pre W → pre.length < N → YieldAt F (n - 1) P l (encs x) W fun e W' =>
      (e = .returned (.bool true) ∧ J (pre ++ [x]) W' ∧ Kp W W') ∨ (e = .returned (.bool false) ∧ Jx (pre ++ [x]) W')) →
    J [] W1 → CallsIn F n P gf (#[.func (.yield l) #[] #[]] ++ lb) W1 fun e W' => (∃ v, e = .returned v) ∧ ((∃ xs, S xs ∧ J xs W') ∨ ∃ pre, Sp pre ∧ Jx pre W')

theorem wpIn_rangeFunc_steps {g : Operand} {ps : Array Tmp} {assign body : Code} {Q : Exit → Act → World → Prop} {a : Act} {w : World}
    (hro : F.round = none) (h1 : 1 ≤ n) {gf : Nat} {lb : Array Value} (hg : a.eval g = .func (.func gf) #[] lb) (hFg : F.fn gf) (eg : ∀ args w, (callFunc gf args).run P w = .ok (.enter gf args) w)
    {encs : α → Array Value} {own Kp : World → World → Prop} {S Sp : List α → Prop} {N : Nat} (hseq : SeqOwn F (n - 1) P gf lb encs own Kp S Sp N w)
    (hKt : ∀ {A B C : World}, Kp A B → Kp B C → Kp A C) (hKb : ∀ (W : World) (l : Nat) (o o' : Obj), w.heap.size ≤ l → W.heap[l]? = some o → o.isCells = false → o.isWalk = false → Kp W (W.putObj l o'))
    (hown : ∀ (A B : World) (k : Nat) (o : Obj), own A B → w.heap.size ≤ k → A.heap[k]? = some o → o.isCells = false → B.heap[k]? = some o) (hps : ∀ x, (encs x).size = ps.size)
    (I : List α → World → Prop) (Ix : Code → List α → World → Prop) (hI : OwnFrom w.heap.size I) (hIx : ∀ c, OwnFrom w.heap.size (Ix c)) (hIs : ∀ s A B, I s A → own A B → I s B) (h0 : I [] w) (a₁ : α → Act)
    (hassign : ∀ (l : Nat) (x : α) (W : World) (K : Act → World → Prop), K (a₁ x) W →
      assign.wpIn (F.inRound l) (n - 1 - 1) P (Exit.then K (fun _ _ _ => False)) { tmps := (ps.zip (encs x)).foldl (fun t (p, v) => t.setIfInBounds p v) a.tmps, defers := [] } W)
    (hbody : ∀ (l : Nat) (pre : List α) (x : α) (W : World), I pre W → pre.length < N → body.wpIn (F.inRound l) (n - 1 - 1) P (ownPostG w.heap.size Kp I Ix (pre ++ [x]) W) (a₁ x) W)
    (hdone : ∀ (D : Nat) (xs : List α) (W : World), w.heap.size ≤ D → S xs → I xs W → W.heap[D]? = some (.deferred (some [])) → Q .normal { a with defers := { target := .collected D, args := #[] } :: a.defers } W)
    (hstop : ∀ (D : Nat) (c : Code) (pre : List α) (W : World), w.heap.size ≤ D → Sp pre → Ix c pre W → W.heap[D]? = some (.deferred (some [])) → c.wpIn F n P Q { a with defers := { target := .collected D, args := #[] } :: a.defers } W) :
    (Code.rangeFunc g ps assign body).wpIn F n P Q a w := by
  refine wpIn_rangeFunc fun fn hfn => ?_
  rw [hro]
  -- the record of the loop, and where it and the block of its rounds' deferred calls lie
  generalize hD : w.heap.size = D at hKb hown hI hIx hbody hdone hstop
  obtain ⟨rec, hrec⟩ : ∃ rec : LoopState → Option Code → Loop, rec = fun st pe => { state := st, pending := pe, fn, tmps := a.tmps, params := ps, assign, body, defers := D } := ⟨_, rfl⟩
  let R (st : LoopState) (pe : Option Code) (W : World) : Prop := W.heap[D + 1]? = some (.loop (rec st pe)) ∧ W.heap[D]? = some (.deferred (some []))
  have Rputs : ∀ (st st' : LoopState) (pe pe' : Option Code) (W : World), R st pe W → R st' pe' (W.putObj (D + 1) (.loop (rec st' pe'))) := fun st st' pe pe' W h =>
    ⟨World.putObj_heap_same (Array.getElem?_eq_some_iff.1 h.1).1, (World.putObj_heap_other (by omega)).trans h.2⟩
  have hR1 : R .ready none ((w.alloc (.deferred (some []))).alloc (.loop (rec .ready none))) := by
    refine ⟨?_, (Below.heap_alloc _ _ _ (by simp; omega)).trans (by rw [← hD]; exact World.alloc_heap_new w _)⟩
    have := World.alloc_heap_new (w.alloc (.deferred (some []))) (.loop (rec .ready none))
    rwa [World.size_alloc, hD] at this
  have hb1 : Below w.heap.size w ((w.alloc (.deferred (some []))).alloc (.loop (rec .ready none))) := ((Below.refl _ w).alloc (Nat.le_refl _) _).alloc (by simp) _
  have hi1 : I [] ((w.alloc (.deferred (some []))).alloc (.loop (rec .ready none))) := hI.alloc _ (hI.alloc _ h0)
  refine ⟨D + 1, [{ target := .collected D, args := #[] }], (w.alloc (.deferred (some []))).alloc (.loop (rec .ready none)), { target := .fn (.func gf) lb, args := #[.func (.yield (D + 1)) #[] #[]] }, (w.alloc (.deferred (some []))).alloc (.loop (rec .ready none)), gf,
    #[.func (.yield (D + 1)) #[] #[]] ++ lb, (w.alloc (.deferred (some []))).alloc (.loop (rec .ready none)), ?_, ?_, ?_, ?_, fun _ => h1, ?_⟩
  · rw [hrec, ← hD]
    exact run_enterLoop_outer _ _ _ _ _
  · simp only [resolve, hg]
    simp [go_sem]
  · intro f' hf'
    simp [Target.leads] at hf'
    subst hf'
    exact hFg
  · simp [invoke, go_sem, eg]
  refine (hseq (D + 1) (fun pre W => I pre W ∧ R .ready none W) (fun pre W => ∃ c, Ix c pre W ∧ R .done (some c) W) _ hb1 (fun s A B h ho => ⟨hIs s A B h.1 ho, hown A B _ _ ho (by omega) h.2.1 rfl, hown A B _ _ ho (Nat.le_refl _) h.2.2 rfl⟩) ?_ ⟨hi1, hR1⟩).mono ?_
  · rintro pre x W ⟨hi, hr⟩ hlen
    have hy := run_yield (P := P) (args := encs x) hr.1 (by rw [hrec]; exact hps x)
    rw [hrec] at hy
    refine ⟨fn, _, assign, body, hy, roundIn_of_wpIn hfn (hassign _ x W _ ⟨_, run_beginRound hr.1 (by rw [hrec]), ?_⟩)⟩
    have hr2 := Rputs .ready .busy none none W hr
    have hk2 : Kp W (W.putObj (D + 1) (.loop (rec .busy none))) := hKb _ _ _ _ (by omega) hr.1 rfl rfl
    have e2 : ({ rec .ready none with state := .busy } : Loop) = rec .busy none := by rw [hrec]
    rw [e2]
    refine wpIn_mono (hbody _ pre x _ (hI.putObj _ hi (by omega) hr.1 rfl) hlen) ?_
    have close : ∀ (jump : Option Code) (W3 : World), KeepsFrom D (W.putObj (D + 1) (.loop (rec .busy none))) W3 →
        R .busy none W3 ∧ (Instr.endRound (D + 1) jump).run P W3 = .ok (.bool jump.isNone) (W3.putObj (D + 1) (.loop (rec (if jump.isNone then .ready else .done) jump))) := fun jump W3 hk => by
      have hr3 : R .busy none W3 := ⟨hk.same _ _ (by omega) hr2.1 rfl, hk.same _ _ (Nat.le_refl _) hr2.2 rfl⟩
      refine ⟨hr3, ?_⟩
      have h3 := hr3.1
      rw [hrec] at h3 ⊢
      exact run_endRound (P := P) jump h3
    have leave : ∀ (c : Code) (W3 : World), KeepsFrom D (W.putObj (D + 1) (.loop (rec .busy none))) W3 → Ix c (pre ++ [x]) W3 →
        ∃ v W4, (Instr.endRound (D + 1) (some c)).run P W3 = .ok v W4 ∧ ((Ending.returned v = .returned (.bool true) ∧ (I (pre ++ [x]) W4 ∧ R .ready none W4) ∧ Kp W W4) ∨ (Ending.returned v = .returned (.bool false) ∧ ∃ c, Ix c (pre ++ [x]) W4 ∧ R .done (some c) W4)) := fun c W3 hk hx => by
      obtain ⟨hr3, hend⟩ := close (some c) W3 hk
      exact ⟨_, _, hend, .inr ⟨rfl, c, (hIx c).putObj _ hx (by omega) hr3.1 rfl, Rputs _ _ _ _ W3 hr3⟩⟩
    rintro e a3 W3 hp
    cases e with
    | normal =>
      obtain ⟨hk, hkp, hi3⟩ := hp
      obtain ⟨hr3, hend⟩ := close none W3 hk
      exact ⟨_, _, hend, .inl ⟨rfl, ⟨hI.putObj _ hi3 (by omega) hr3.1 rfl, Rputs _ _ _ _ W3 hr3⟩, hKt (hKt hk2 hkp) (hKb _ _ _ _ (by omega) hr3.1 rfl rfl)⟩⟩
    | ret => exact leave _ W3 hp.1 hp.2
    | exit id => exact leave _ W3 hp.1 hp.2
    | goto t => exact leave _ W3 hp.1 hp.2
    | panic ch => exact hp.elim
    | outgrown => exact hp.elim
  · have ends : ∀ (st : LoopState) (pe : Option Code) (W : World), R st pe W → st ≠ .busy → (Instr.endLoop (D + 1)).run P W = .ok pe (W.putObj (D + 1) (.loop { rec st pe with state := .exhausted })) ∧ (W.putObj (D + 1) (.loop { rec st pe with state := .exhausted })).heap[D]? = some (.deferred (some [])) := fun st pe W hr hne => by
      refine ⟨?_, (World.putObj_heap_other (by omega)).trans hr.2⟩
      have := run_endLoop (P := P) hr.1 (by rw [hrec]; exact hne)
      have e : (rec st pe).pending = pe := by rw [hrec]
      exact this.trans (congrArg (fun j => Result.ok j _) e)
    rintro e W2 ⟨⟨v, rfl⟩, ⟨xs, hS, hi, hr⟩ | ⟨pre, hSp, c, hx, hr⟩⟩
    · obtain ⟨h2, h3⟩ := ends _ _ W2 hr (by simp)
      exact ⟨none, _, h2, hdone D xs _ (Nat.le_refl _) hS (hI.putObj _ hi (by omega) hr.1 rfl) h3⟩
    · obtain ⟨h2, h3⟩ := ends _ _ W2 hr (by simp)
      exact ⟨some c, _, h2, hstop D c pre _ (Nat.le_refl _) hSp ((hIx c).putObj _ hx (by omega) hr.1 rfl) h3⟩
end
end Go.Proofs.Ytfpgjabbpcndfaa
