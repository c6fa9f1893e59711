/- A region that draws its order, in which memory that stood there before is written, one write behind the other: each operation is walked once, by itself, at whatever phase it may stand in. No condition. -/
import Derived.Test.YtfpgjabbpcndfaaReg
import Derived.Deep.Draws
namespace Go.Proofs.Ytfpgjabbpcndfaa
open Go.RowKit
theorem below_drewN {B : Nat} {a w : World} (h : Below B a w) (n : Nat) : Below B a (w.drewN n) := ⟨h.os, h.tape, h.output, h.size, h.block⟩
section
variable {P : Program} {l : List Oper} {T : Nat → Value → World → Prop} {a0 F : Act} {vals : Nat → Value} {W : World} {i n : Nat} {o : Oper}

/-- F is the act with all values laid over it. -/
structure AllIn (n : Nat) (l : List Oper) (vals : Nat → Value) (a0 F : Act) : Prop where
  act : F = fin l 0 vals a0
  dis : distinctB l = true
  size : a0.tmps.size = n
theorem AllIn.out_ (h : AllIn n l vals a0 F) {t : Tmp} {v : Value} (hl : l.all (fun o => o.dst != some t) = true) (hv : a0.tmps.getD t undef = v) : F.eval (.tmp t) = v := by
  show F.tmps.getD t undef = v
  rw [Array.getD_eq_getD_getElem?, h.act, fin_other l t 0 vals a0 (fun o ho => by have := List.all_eq_true.1 hl o ho; simpa using this), ← Array.getD_eq_getD_getElem?, hv]
theorem AllIn.own_ (h : AllIn n l vals a0 F) (j : Nat) {o : Oper} {t : Tmp} (ho : l[j]? = some o) (hd : o.dst = some t) (ht : t < n) : F.tmps[t]? = some (vals j) := by
  rw [h.act, fin_at l 0 vals a0 h.dis j o t ho hd (by rw [h.size]; exact ht), Nat.zero_add]
theorem eval_some {t : Tmp} {v : Value} (h : F.tmps[t]? = some v) : F.eval (.tmp t) = v := by
  show F.tmps.getD t undef = v
  rw [Array.getD_eq_getD_getElem?, h]
  rfl
theorem wanted_none (hg : o.guard = none) : Region.wanted o (yielded l.toArray F.tmps) = true := by unfold Region.wanted; rw [hg]
theorem yielded_of {g : Nat} {og : Oper} {t : Tmp} {b : Bool} (hl : l[g]? = some og) (hd : og.dst = some t) (hv : F.tmps[t]? = some (.bool b)) : yielded l.toArray F.tmps g = some b := by
  unfold yielded
  have : l.toArray[g]? = some og := by simpa using hl
  rw [this, Option.bind_some, hd, Option.bind_some, hv]
theorem wanted_yes {g : Nat} {og : Oper} {t : Tmp} {b : Bool} (hg : o.guard = some (g, b)) (hl : l[g]? = some og) (hd : og.dst = some t) (hv : F.tmps[t]? = some (.bool b)) : Region.wanted o (yielded l.toArray F.tmps) = true := by
  unfold Region.wanted; simp only [hg, yielded_of hl hd hv, beq_self_eq_true]
theorem wanted_no {g : Nat} {og : Oper} {t : Tmp} {b c : Bool} (hg : o.guard = some (g, b)) (hl : l[g]? = some og) (hd : og.dst = some t) (hv : F.tmps[t]? = some (.bool c)) (hc : (c == b) = false) : Region.wanted o (yielded l.toArray F.tmps) = false := by
  unfold Region.wanted; simp only [hg, yielded_of hl hd hv]
  cases b <;> cases c <;> first | rfl | cases hc

end

/-- Where an operation stands among those that write: one, or none. -/
def effN (effs : List Nat) (i : Nat) : Nat := if effs.contains i then 1 else 0
def loB (l : List Oper) (effs los : List Nat) : Bool :=
  l.zipIdx.all fun x => decide (los.getD x.2 0 = 0) || x.1.after.any fun e => Region.binds .any e && (decide (los.getD x.2 0 ≤ los.getD e.on 0) || effs.zipIdx.any fun y => y.1 == e.on && decide (los.getD x.2 0 ≤ y.2 + 1))
def hiB (l : List Oper) (effs his : List Nat) : Bool :=
  l.zipIdx.all fun x => decide (effs.length ≤ his.getD x.2 0) || (effs.zipIdx.any fun y => y.1 == x.2 && decide (y.2 ≤ his.getD x.2 0)) || l.zipIdx.any fun z => decide (his.getD z.2 0 ≤ his.getD x.2 0) && z.1.after.any fun e => Region.binds .any e && e.on == x.2
def effB (effs los his : List Nat) : Bool := effs.zipIdx.all fun y => decide (los.getD y.1 0 = y.2) && decide (his.getD y.1 0 ≤ y.2)
def nodupB : List Nat → Bool
  | [] => true
  | x :: l => !l.contains x && nodupB l
theorem nodupB_at : ∀ {l : List Nat}, nodupB l = true → ∀ {p q x : Nat}, l[p]? = some x → l[q]? = some x → p = q
  | [], _, p, q, x, h, _ => by simp at h
  | y :: l, hd, p, q, x, h1, h2 => by
    rw [nodupB, Bool.and_eq_true] at hd
    cases p with
    | zero =>
      cases q with
      | zero => rfl
      | succ q =>
        have e1 : y = x := by simpa using h1
        have e2 : l[q]? = some x := by simpa using h2
        have h3 := hd.1
        rw [e1] at h3
        have h4 : x ∈ l := List.mem_of_getElem? e2
        simp [h4] at h3
    | succ p =>
      cases q with
      | zero =>
        have e1 : y = x := by simpa using h2
        have e2 : l[p]? = some x := by simpa using h1
        have h3 := hd.1
        rw [e1] at h3
        have h4 : x ∈ l := List.mem_of_getElem? e2
        simp [h4] at h3
      | succ q => rw [nodupB_at hd.2 (by simpa using h1 : l[p]? = some x) (by simpa using h2 : l[q]? = some x)]

/-- Does o wait for operation j? -/
def waitsOn (o : Oper) (j : Nat) : Bool := o.after.any fun e => Region.binds .any e && e.on == j
/-- The operations of which f says yes, with their slots; the others without. -/
def onlyFrom (f : Nat → Bool) : Nat → List Oper → List Oper
  | _, [] => []
  | k, o :: os => (if f k then o else { o with dst := none }) :: onlyFrom f (k + 1) os
theorem onlyFrom_get (f : Nat → Bool) : ∀ (l : List Oper) (k j : Nat), (onlyFrom f k l)[j]? = (l[j]?).map fun o => if f (k + j) then o else { o with dst := none }
  | [], _, _ => by simp [onlyFrom]
  | o :: os, k, 0 => by simp [onlyFrom]
  | o :: os, k, j + 1 => by
    have := onlyFrom_get f os (k + 1) j
    simp only [onlyFrom, List.getElem?_cons_succ]
    rw [this, show k + 1 + j = k + (j + 1) by omega]
theorem onlyFrom_dst (f : Nat → Bool) (t : Tmp) (l : List Oper) : ∀ (k : Nat), (l.all fun o => o.dst != some t) = true → ((onlyFrom f k l).all fun o => o.dst != some t) = true := by
  induction l with
  | nil => intro k _; rfl
  | cons o os ih =>
    intro k h
    rw [List.all_cons, Bool.and_eq_true] at h
    rw [onlyFrom, List.all_cons, Bool.and_eq_true]
    refine ⟨?_, ih _ h.2⟩
    by_cases hf : f k = true
    · rw [if_pos hf]; exact h.1
    · rw [if_neg hf]; rfl
theorem distinct_only (f : Nat → Bool) (l : List Oper) : ∀ (k : Nat), distinctB l = true → distinctB (onlyFrom f k l) = true := by
  induction l with
  | nil => intro k _; rfl
  | cons o os ih =>
    intro k h
    rw [distinctB, Bool.and_eq_true] at h
    rw [onlyFrom, distinctB, Bool.and_eq_true]
    refine ⟨?_, ih _ h.2⟩
    by_cases hf : f k = true
    · rw [if_pos hf]
      have h1 := h.1
      cases hd : o.dst with
      | none => rfl
      | some t =>
        rw [hd] at h1
        exact onlyFrom_dst f t os (k + 1) h1
    · rw [if_neg hf]
/-- The act over which operation o is looked at: what it waits for is laid, nothing else. -/
def finO (l : List Oper) (o : Oper) (vals : Nat → Value) (a : Act) : Act := fin (onlyFrom (waitsOn o) 0 l) 0 vals a
/-- What an operation looks at, and one of the region writes: it waits for that, or that waits for it. -/
def waits2B (l : List Oper) : Bool :=
  l.zipIdx.all fun x => (x.1.looksAt l.toArray).all fun t => l.zipIdx.all fun y => y.1.dst != some t || (waitsOn x.1 y.2 || (waitsOn y.1 x.2 || x.2 == y.2))
theorem waits2_of {l : List Oper} (h : waits2B l = true) {i j : Nat} {o oj : Oper} (ho : l[i]? = some o) (hj : l[j]? = some oj) {t : Tmp} (ht : t ∈ o.looksAt l.toArray) (hd : oj.dst = some t) : waitsOn o j = true ∨ waitsOn oj i = true ∨ i = j := by
  have h1 := List.all_eq_true.1 h (o, i) (by rw [List.mem_zipIdx_iff_getElem?]; exact ho)
  have h2 := List.all_eq_true.1 h1 t ht
  have h3 := List.all_eq_true.1 h2 (oj, j) (by rw [List.mem_zipIdx_iff_getElem?]; exact hj)
  simpa [hd] using h3
theorem waitsOn_edge {o : Oper} {j : Nat} (h : waitsOn o j = true) : ∃ e ∈ o.after, Region.binds .any e = true ∧ e.on = j := by
  unfold waitsOn at h
  simpa only [Array.any_eq_true', Bool.and_eq_true, beq_iff_eq] using h
theorem finO_own {l : List Oper} {o : Oper} {vals : Nat → Value} {a : Act} (hdis : distinctB l = true) {j : Nat} {oj : Oper} {t : Tmp} (hj : l[j]? = some oj) (hd : oj.dst = some t) (hw : waitsOn o j = true) (ht : t < a.tmps.size) : (finO l o vals a).tmps[t]? = some (vals j) := by
  have h := fin_at (onlyFrom (waitsOn o) 0 l) 0 vals a (distinct_only _ l 0 hdis) j oj t (by rw [onlyFrom_get, hj]; simp [hw]) hd ht
  rwa [Nat.zero_add] at h
theorem finO_out {l : List Oper} {o : Oper} {vals : Nat → Value} {a : Act} {t : Tmp} (h : ∀ j oj, l[j]? = some oj → oj.dst = some t → waitsOn o j = false) : (finO l o vals a).tmps[t]? = a.tmps[t]? := by
  refine fin_other _ t 0 vals a fun o' ho' => ?_
  obtain ⟨j, hj⟩ := List.mem_iff_getElem?.1 ho'
  rw [onlyFrom_get] at hj
  cases hl : l[j]? with
  | none => rw [hl] at hj; cases hj
  | some oj =>
    rw [hl] at hj
    simp only [Option.map_some, Nat.zero_add, Option.some.injEq] at hj
    subst hj
    by_cases hw : waitsOn o j = true
    · rw [if_pos hw]
      intro hd
      rw [h j oj hl hd] at hw
      cases hw
    · rw [if_neg hw]
      exact fun hd => by cases hd
/-- F is the act over which operation o is looked at. -/
structure AllO (n : Nat) (l : List Oper) (o : Oper) (vals : Nat → Value) (a0 F : Act) : Prop where
  act : F = finO l o vals a0
  dis : distinctB l = true
  size : a0.tmps.size = n
def outB (l : List Oper) (o : Oper) (t : Tmp) : Bool := l.zipIdx.all fun y => y.1.dst != some t || !waitsOn o y.2
theorem AllO.out_ {n : Nat} {l : List Oper} {o : Oper} {vals : Nat → Value} {a0 F : Act} (h : AllO n l o vals a0 F) {t : Tmp} {v : Value} (hl : outB l o t = true) (hv : a0.tmps.getD t undef = v) : F.eval (.tmp t) = v := by
  show F.tmps.getD t undef = v
  rw [Array.getD_eq_getD_getElem?, h.act, finO_out (fun j oj hj hd => by
    have h3 := List.all_eq_true.1 hl (oj, j) (by rw [List.mem_zipIdx_iff_getElem?]; exact hj)
    simpa [hd] using h3), ← Array.getD_eq_getD_getElem?, hv]
theorem AllO.own_ {n : Nat} {l : List Oper} {o : Oper} {vals : Nat → Value} {a0 F : Act} (h : AllO n l o vals a0 F) (j : Nat) {oj : Oper} {t : Tmp} (ho : l[j]? = some oj) (hd : oj.dst = some t) (hw : waitsOn o j = true) (ht : t < n) : F.tmps[t]? = some (vals j) := by
  rw [h.act]
  exact finO_own h.dis ho hd hw (by rw [h.size]; exact ht)

structure Done (l : List Oper) (effs : List Nat) (listed : Array Bool) (p : Nat) : Prop where
  size : listed.size = l.length
  closed : ∀ (j : Nat) oj, l[j]? = some oj → listed.getD j false = true → ∀ e ∈ oj.after, Region.binds .any e = true → listed.getD e.on false = true
  effi : ∀ (q j : Nat), effs[q]? = some j → (listed.getD j false = true ↔ q < p)
  ple : p ≤ effs.length

theorem behind_of {l : List Oper} (hb : behindB l = true) {i : Nat} {o : Oper} (ho : l[i]? = some o) {e : Edge} (he : e ∈ o.after) (hbd : Region.binds .any e = true) : e.on < i := by
  have h2 := List.all_eq_true.1 hb (o, i) (by rw [List.mem_zipIdx_iff_getElem?]; exact ho)
  have h3 := Array.all_eq_true_iff_forall_mem.1 h2 e he
  rw [hbd] at h3
  simpa using h3
theorem Done.lo {l : List Oper} {effs los : List Nat} {listed : Array Bool} {p : Nat} (h : Done l effs listed p) (hb : behindB l = true) (hlo : loB l effs los = true) :
    ∀ (i : Nat) o, l[i]? = some o → (∀ e ∈ o.after, Region.binds .any e = true → listed.getD e.on false = true) → los.getD i 0 ≤ p := by
  intro i
  induction i using Nat.strongRecOn with
  | _ i ih =>
    intro o ho hdeps
    have h1 := List.all_eq_true.1 hlo (o, i) (by rw [List.mem_zipIdx_iff_getElem?]; exact ho)
    simp only [Bool.or_eq_true, decide_eq_true_eq, Array.any_eq_true', Bool.and_eq_true, List.any_eq_true, beq_iff_eq] at h1
    rcases h1 with h1 | ⟨e, he, hbd, h2⟩
    · omega
    · have hl := hdeps e he hbd
      rcases h2 with h2 | ⟨y, hy, hy1, hy2⟩
      · have hlt := behind_of hb ho he hbd
        have hil : i < l.length := (List.getElem?_eq_some_iff.1 ho).1
        have hoe : l[e.on]? = some (l[e.on]'(by omega)) := List.getElem?_eq_getElem (by omega)
        have := ih e.on hlt _ hoe (h.closed e.on _ hoe hl)
        omega
      · obtain ⟨yj, yq⟩ := y
        rw [List.mem_zipIdx_iff_getElem?] at hy
        simp only at hy hy1 hy2
        subst hy1
        have := (h.effi yq _ hy).1 hl
        omega
theorem Done.hi {l : List Oper} {effs his : List Nat} {listed : Array Bool} {p : Nat} (h : Done l effs listed p) (hb : behindB l = true) (hhi : hiB l effs his = true) :
    ∀ (d i : Nat), l.length - i ≤ d → i < l.length → listed.getD i false = false → p ≤ his.getD i 0 := by
  intro d
  induction d with
  | zero => intro i h1 h2; omega
  | succ d ih =>
    intro i hd hil hun
    have ho : l[i]? = some l[i] := List.getElem?_eq_getElem hil
    have h1 := List.all_eq_true.1 hhi (l[i], i) (by rw [List.mem_zipIdx_iff_getElem?]; exact ho)
    simp only [Bool.or_eq_true, decide_eq_true_eq, Array.any_eq_true', Bool.and_eq_true, List.any_eq_true, beq_iff_eq] at h1
    rcases h1 with (h1 | ⟨y, hy, hy1, hy2⟩) | ⟨z, hz, hz1, e, he, hbd, hei⟩
    · have := h.ple; omega
    · obtain ⟨yj, yq⟩ := y
      rw [List.mem_zipIdx_iff_getElem?] at hy
      simp only at hy hy1 hy2
      subst hy1
      have hq : ¬ yq < p := fun hq => by
        have := (h.effi yq _ hy).2 hq
        rw [hun] at this
        cases this
      omega
    · obtain ⟨ok, k⟩ := z
      rw [List.mem_zipIdx_iff_getElem?] at hz
      simp only at hz hz1 he
      have hlt := behind_of hb hz he hbd
      rw [hei] at hlt
      have hkl : k < l.length := (List.getElem?_eq_some_iff.1 hz).1
      have hku : listed.getD k false = false := by
        cases hk : listed.getD k false with
        | false => rfl
        | true =>
          have := h.closed k ok hz hk e he hbd
          rw [hei, hun] at this
          cases this
      have := ih k (by omega) hkl hku
      omega

section
variable {P : Program} {Q : Exit → Act → World → Prop}
/-- One operation: what it does at the act with all values laid over it, it does at the act that the schedule has reached. -/
theorem wpOp_typed2 {l : List Oper} {T : Nat → Value → World → Prop} {S : World → Prop} {i : Nat} {o : Oper} {a f : Act} {W : World} (hi : l.toArray[i]? = some o) (hsel : ∀ cs b, o.op ≠ .select cs b)
    (hd : f.defers = a.defers) (hev : ∀ t ∈ o.looksAt l.toArray, a.tmps[t]? = f.tmps[t]?)
    (h : wpList P l.toArray (fun e a' W' => e = .normal ∧ a'.defers = a.defers ∧ S W' ∧ T i (slotOf o a') W') [o] f W) :
    wpOp P l.toArray Q i (fun a' W' => ∃ v, a' = a.put o.dst v ∧ S W' ∧ T i (slotOf o (f.put o.dst v)) W') a W := by
  have hx : execOp a.eval o = execOp f.eval o := execOp_congr o hsel fun x hx => by
    cases x with
    | tmp t =>
      have := hev t (List.mem_append_left _ (List.mem_filterMap.2 ⟨.tmp t, by simpa using hx, rfl⟩))
      simp only [Act.eval, Array.getD_eq_getD_getElem?, this]
    | _ => rfl
  have hw : Region.wanted o (yielded l.toArray a.tmps) = Region.wanted o (yielded l.toArray f.tmps) := by
    unfold Region.wanted
    cases hg : o.guard with
    | none => rfl
    | some gw =>
      obtain ⟨g, want⟩ := gw
      have hy : yielded l.toArray a.tmps g = yielded l.toArray f.tmps g := by
        unfold yielded
        cases ht : (l.toArray[g]?).bind (·.dst) with
        | none => rfl
        | some t =>
          have := hev t (List.mem_append_right _ (by simp only [hg, ht, Option.toList_some, List.mem_singleton]))
          simp only [Option.bind_some, this]
      simp only [hy]
  have noOut : ¬ LetsOut (fun e a' W' => e = Exit.normal ∧ a'.defers = a.defers ∧ S W' ∧ T i (slotOf o a') W') := fun ⟨_, _, h0, _⟩ => by cases h0
  unfold wpList at h
  unfold wpOp
  simp only [hi]
  rw [hw]
  split
  · rename_i hwt
    rw [if_pos hwt] at h
    rcases h with h | ⟨_, h⟩
    · refine .inl ?_
      unfold Oper.wp at *
      rw [hx]
      generalize (execOp f.eval o).run P W = r at *
      cases r with
      | ok n w' =>
        cases n <;> simp only [Oper.upon, wpList] at h ⊢
        case value v => exact ⟨v, rfl, h.2.2.1, h.2.2.2⟩
        case skip => exact ⟨undef, rfl, h.2.2.1, h.2.2.2⟩
        case defer d =>
          have h1 := h.2.1
          rw [put_defers] at h1
          simp only at h1
          rw [hd] at h1
          exact absurd (congrArg List.length h1) (by simp)
        case enter g args =>
          refine Calls.mono h fun e w'' he => ?_
          cases e with
          | returned v => exact ⟨v, rfl, he.2.2.1, he.2.2.2⟩
          | panicked c => exact absurd he.1 (by simp)
          | outgrown => exact absurd he noOut
        case row g args => exact Rows.mono h fun v w'' he => ⟨v, rfl, he.2.2.1, he.2.2.2⟩
      | halt x w' =>
        cases x <;> simp only [Oper.upon] at h ⊢
        all_goals first | exact absurd h.1 (by simp) | exact h | exact h.elim
    · exact absurd h noOut
  · rename_i hwt
    rw [if_neg hwt] at h
    exact ⟨undef, rfl, h.2.2.1, h.2.2.2⟩

/-- Operation i, walked by itself. -/
def OblP (till : Nat → Nat) (P : Program) (l : List Oper) (T : Nat → Value → World → Prop) (R : Nat → Nat → World → World → Prop) (I : Nat → World → Prop) (a0 : Act) (lo hi d : Nat) (i : Nat) (o : Oper) : Prop :=
  ∀ (p : Nat) (vals : Nat → Value) (W : World), lo ≤ p → p ≤ hi → I p W → (∀ e ∈ o.after, Region.binds .any e = true → p ≤ till e.on → T e.on (vals e.on) W) →
    wpList P l.toArray (fun e a' W' => e = .normal ∧ a'.defers = a0.defers ∧ (R p d W W' ∧ I (p + d) W') ∧ T i (slotOf o a') W') [o] (finO l o vals a0) W

structure InvP (till : Nat → Nat) (T : Nat → Value → World → Prop) (I : Nat → World → Prop) (l : List Oper) (effs : List Nat) (a0 : Act) (listed : Array Bool) (p : Nat) (vals : Nat → Value) (a : Act) (W : World) : Prop where
  done : Done l effs listed p
  S : I p W
  defers : a.defers = a0.defers
  tsz : a.tmps.size = a0.tmps.size
  ty : ∀ j, listed.getD j false = true → p ≤ till j → T j (vals j) W
  other : ∀ t, (∀ o ∈ l, o.dst ≠ some t) → a.tmps[t]? = a0.tmps[t]?
  at_ : ∀ (j : Nat) o t, l[j]? = some o → o.dst = some t → t < a0.tmps.size → listed.getD j false = true → a.tmps[t]? = some (vals j)
  old : ∀ (j : Nat) o t, l[j]? = some o → o.dst = some t → listed.getD j false = false → a.tmps[t]? = a0.tmps[t]?

theorem any_phased {l : List Oper} {T : Nat → Value → World → Prop} {R : Nat → Nat → World → World → Prop} {I : Nat → World → Prop} {effs los his : List Nat} {a0 : Act} (till : Nat → Nat) (hmono : ∀ i v p d W W', los.getD i 0 + effN effs i ≤ p → p + d ≤ till i → T i v W → R p d W W' → T i v W')
    (hsel : Region.noSelect l.toArray = true) (hdis : distinctB l = true) (hwait : waits2B l = true) (hbeh : behindB l = true)
    (hnd : nodupB effs = true) (hlo : loB l effs los = true) (hhi : hiB l effs his = true) (heff : effB effs los his = true)
    (hobl : ∀ i o, l[i]? = some o → OblP till P l T R I a0 (los.getD i 0) (his.getD i 0) (effN effs i) i o) (hin : ∀ (q j : Nat), effs[q]? = some j → j < l.length) (hdt : ∀ (i : Nat) o t, l[i]? = some o → o.dst = some t → t < a0.tmps.size)
    (hend : ∀ vals W, I effs.length W → (∀ j, j < l.length → effs.length ≤ till j → T j (vals j) W) → Q .normal (fin l 0 vals a0) W) :
    ∀ (fuel : Nat) (listed : Array Bool) (p : Nat) (vals : Nat → Value) (a : Act) (W : World), InvP till T I l effs a0 listed p vals a W → left l.length listed ≤ fuel → wpAny P .any l.toArray Q fuel listed a W := by
  have stop : ∀ (listed : Array Bool) (p : Nat) (vals : Nat → Value) (a : Act) (W : World), InvP till T I l effs a0 listed p vals a W → left l.length listed = 0 → Q .normal a W := by
    intro listed p vals a W inv h0
    have hall := left_zero l.length listed h0 inv.done.size
    have hp : p = effs.length := by
      rcases Nat.lt_or_ge p effs.length with hlt | hge
      · have hq := inv.done.effi p _ (List.getElem?_eq_getElem hlt)
        have := hq.1 (hall _ (hin p _ (List.getElem?_eq_getElem hlt)))
        omega
      · have := inv.done.ple; omega
    have e : a = fin l 0 vals a0 := by
      have e1 : a.tmps = (fin l 0 vals a0).tmps := by
        refine Array.ext_getElem? fun t => ?_
        by_cases ht : t < a0.tmps.size
        · by_cases hw : ∀ o ∈ l, o.dst ≠ some t
          · rw [inv.other t hw, fin_other l t 0 vals a0 hw]
          · simp only [Classical.not_forall, Classical.not_not] at hw
            obtain ⟨o, ho, hdst⟩ := hw
            obtain ⟨j, hj⟩ := List.mem_iff_getElem?.1 ho
            rw [inv.at_ j o t hj hdst ht (hall j (List.getElem?_eq_some_iff.1 hj).1), fin_at l 0 vals a0 hdis j o t hj hdst ht, Nat.zero_add]
        · rw [Array.getElem?_eq_none (by rw [inv.tsz]; omega), Array.getElem?_eq_none (by rw [fin_size]; omega)]
      have e2 : a.defers = (fin l 0 vals a0).defers := by rw [inv.defers, fin_defers]
      cases a
      cases hf : fin l 0 vals a0
      rw [hf] at e1 e2
      simp only at e1 e2
      rw [e1, e2]
    rw [e]
    exact hend vals W (hp ▸ inv.S) fun j hj ht => inv.ty j (hall j hj) (by rw [hp]; exact ht)
  intro fuel
  induction fuel with
  | zero =>
    intro listed p vals a W inv hl
    have h0 : left l.length listed = 0 := by omega
    refine ⟨?_, stop listed p vals a W inv h0⟩
    refine List.eq_nil_iff_forall_not_mem.2 fun j hj => ?_
    obtain ⟨hun, o, ho, _⟩ := mem_ready.1 hj
    have hj2 : j < l.length := by have := (Array.getElem?_eq_some_iff.1 ho).1; simpa using this
    have h1 := left_zero l.length listed h0 inv.done.size j hj2
    have hl2 : j < listed.size := by rw [inv.done.size]; exact hj2
    simp only [Array.getD_eq_getD_getElem?, Array.getElem?_eq_getElem hl2, Option.getD_some] at hun h1
    rw [h1] at hun
    cases hun
  | succ fuel ih =>
    intro listed p vals a W inv hl
    refine ⟨fun hr => ?_, fun i hi => ?_⟩
    · by_cases h0 : left l.length listed = 0
      · exact stop listed p vals a W inv h0
      · exact absurd hr (some_ready hbeh listed inv.done.size h0)
    · obtain ⟨hun, o, ho, hdeps⟩ := mem_ready.1 hi
      have hol : l[i]? = some o := by simpa using ho
      have hil : i < l.length := (List.getElem?_eq_some_iff.1 hol).1
      have hls : i < listed.size := by rw [inv.done.size]; exact hil
      have hunf : listed.getD i false = false := by
        simp only [Array.getD_eq_getD_getElem?, Array.getElem?_eq_getElem hls, Option.getD_some] at hun ⊢
        exact hun
      have blo := inv.done.lo hbeh hlo i o hol hdeps
      have bhi := inv.done.hi hbeh hhi _ i (Nat.le_refl _) hil hunf
      have hob := hobl i o hol p vals W blo bhi inv.S fun e he hb => inv.ty e.on (hdeps e he hb)
      have hev : ∀ t ∈ o.looksAt l.toArray, a.tmps[t]? = (finO l o vals a0).tmps[t]? := by
        intro t ht
        by_cases hts : t < a0.tmps.size
        · by_cases hw : ∃ j oj, l[j]? = some oj ∧ oj.dst = some t ∧ waitsOn o j = true
          · obtain ⟨j, oj, hj, hdst, hwo⟩ := hw
            obtain ⟨e, he, hb, heq⟩ := waitsOn_edge hwo
            rw [inv.at_ j oj t hj hdst hts (heq ▸ hdeps e he hb), finO_own hdis hj hdst hwo hts]
          · have hno : ∀ j oj, l[j]? = some oj → oj.dst = some t → waitsOn o j = false := fun j oj hj hdst => by
              cases hq : waitsOn o j with
              | false => rfl
              | true => exact absurd ⟨j, oj, hj, hdst, hq⟩ hw
            rw [finO_out hno]
            by_cases hz : ∀ o' ∈ l, o'.dst ≠ some t
            · exact inv.other t hz
            · simp only [Classical.not_forall, Classical.not_not] at hz
              obtain ⟨oj, hoj, hdst⟩ := hz
              obtain ⟨j, hj⟩ := List.mem_iff_getElem?.1 hoj
              refine inv.old j oj t hj hdst ?_
              rcases waits2_of hwait hol hj ht hdst with h | h | h
              · rw [hno j oj hj hdst] at h; cases h
              · obtain ⟨e, he, hb, heq⟩ := waitsOn_edge h
                cases hl : listed.getD j false with
                | false => rfl
                | true =>
                  have h2 := inv.done.closed j oj hj hl e he hb
                  rw [heq, hunf] at h2
                  cases h2
              · rw [← h]; exact hunf
        · rw [Array.getElem?_eq_none (by rw [inv.tsz]; exact Nat.le_of_not_lt hts), Array.getElem?_eq_none (by unfold finO; rw [fin_size]; exact Nat.le_of_not_lt hts)]
      refine wpOp_mono ?_ (wpOp_typed2 (Q := Q) (S := fun W' => R p (effN effs i) W W' ∧ I (p + effN effs i) W') ho (Region.noSelect_spec hsel i o · · ho) (by unfold finO; rw [fin_defers, inv.defers]) hev (by rw [inv.defers]; exact hob))
      rintro a' W' ⟨v, rfl, ⟨hlt, hI⟩, hT⟩
      have hfs : (finO l o vals a0).tmps.size = a0.tmps.size := fin_size _ _ _ _
      have hset : ∀ j, (listed.setIfInBounds i true).getD j false = true ↔ (j = i ∨ listed.getD j false = true) := by
        intro j
        by_cases e : j = i
        · subst e
          simp [hls]
        · rw [getD_set_ne false (Ne.symm e)]
          simp [e]
      refine ih (listed.setIfInBounds i true) (p + effN effs i) (fun j => if j = i then slotOf o ((finO l o vals a0).put o.dst v) else vals j) _ W' ?_ (by have := left_set l.length listed i hil inv.done.size hun; omega)
      refine ⟨⟨by rw [Array.size_setIfInBounds]; exact inv.done.size, fun j oj hj hlj e he hb => ?_, fun q j hq => ?_, ?_⟩, hI, by rw [put_defers]; exact inv.defers, by rw [put_size]; exact inv.tsz, fun j hj hjt => ?_, fun t ht => ?_, fun j oj t hj hdst hts hlj => ?_, fun j oj t hj hdst hlj => ?_⟩
      · rw [hset] at hlj ⊢
        rcases hlj with rfl | hlj
        · rw [hol] at hj
          obtain rfl : o = oj := by simpa using hj
          exact .inr (hdeps e he hb)
        · exact .inr (inv.done.closed j oj hj hlj e he hb)
      · rw [hset]
        have h0 := inv.done.effi q j hq
        unfold effN
        by_cases hc : i ∈ effs
        · obtain ⟨qi, hqi⟩ := List.mem_iff_getElem?.1 hc
          have h1 := List.all_eq_true.1 heff (i, qi) (by rw [List.mem_zipIdx_iff_getElem?]; exact hqi)
          simp only [Bool.and_eq_true, decide_eq_true_eq] at h1
          have hpq : p = qi := by omega
          have hci : effs.contains i = true := by simpa using hc
          rw [if_pos hci]
          by_cases e : j = i
          · subst e
            have := nodupB_at hnd hq hqi
            constructor
            · intro _; omega
            · intro _; exact .inl rfl
          · have hqq : q ≠ qi := fun h => e (by rw [h, hqi] at hq; simpa using hq.symm)
            constructor
            · rintro (h | h)
              · exact absurd h e
              · have := h0.1 h; omega
            · intro h
              exact .inr (h0.2 (by omega))
        · have hci : effs.contains i = false := by simpa using hc
          rw [if_neg (by rw [hci]; decide), Nat.add_zero]
          have e : j ≠ i := fun h => hc (by rw [← h]; exact List.mem_of_getElem? hq)
          constructor
          · rintro (h | h)
            · exact absurd h e
            · exact h0.1 h
          · intro h
            exact .inr (h0.2 h)
      · unfold effN
        by_cases hc : i ∈ effs
        · obtain ⟨qi, hqi⟩ := List.mem_iff_getElem?.1 hc
          have h1 := List.all_eq_true.1 heff (i, qi) (by rw [List.mem_zipIdx_iff_getElem?]; exact hqi)
          simp only [Bool.and_eq_true, decide_eq_true_eq] at h1
          have hpq : p = qi := by omega
          have hlt2 : qi < effs.length := (List.getElem?_eq_some_iff.1 hqi).1
          have hci : effs.contains i = true := by simpa using hc
          rw [if_pos hci]
          omega
        · have hci : effs.contains i = false := by simpa using hc
          rw [if_neg (by rw [hci]; decide)]
          exact inv.done.ple
      · by_cases e : j = i
        · subst e
          simp only [if_true]
          exact hT
        · simp only [e, if_false]
          rw [getD_set_ne false (Ne.symm e)] at hj
          have hjl : j < l.length := by
            rcases Nat.lt_or_ge j l.length with h | h
            · exact h
            · have : listed.size ≤ j := by rw [inv.done.size]; exact h
              simp [Array.getD_eq_getD_getElem?, Array.getElem?_eq_none this] at hj
          have hoj : l[j]? = some l[j] := List.getElem?_eq_getElem hjl
          refine hmono _ _ p _ _ _ ?_ hjt (inv.ty j hj (by omega)) hlt
          have b1 := inv.done.lo hbeh hlo j _ hoj (inv.done.closed j _ hoj hj)
          unfold effN
          by_cases hc : j ∈ effs
          · obtain ⟨qi, hqi⟩ := List.mem_iff_getElem?.1 hc
            have h1 := List.all_eq_true.1 heff (j, qi) (by rw [List.mem_zipIdx_iff_getElem?]; exact hqi)
            simp only [Bool.and_eq_true, decide_eq_true_eq] at h1
            have := (inv.done.effi qi j hqi).1 hj
            rw [if_pos (by simpa using hc)]
            omega
          · rw [if_neg (by simpa using hc)]
            exact b1
      · rw [put_other _ _ _ _ (ht o (List.mem_of_getElem? hol)), inv.other t ht]
      · by_cases e : j = i
        · subst e
          rw [hol] at hj
          obtain rfl : o = oj := by simpa using hj
          simp only [if_true]
          rw [hdst, put_same _ _ _ (by rw [inv.tsz]; exact hts)]
          unfold slotOf
          rw [hdst]
          simp only [Array.getD_eq_getD_getElem?, put_same _ _ _ (show t < (finO l o vals a0).tmps.size by rw [hfs]; exact hts), Option.getD_some]
        · simp only [e, if_false]
          rw [getD_set_ne false (Ne.symm e)] at hlj
          have hne : o.dst ≠ some t := by
            intro h
            have h1 := fin_at l 0 (fun j => .int .i64 (j : Int)) a0 hdis j oj t hj hdst hts
            have h2 := fin_at l 0 (fun j => .int .i64 (j : Int)) a0 hdis i o t hol h hts
            rw [h1] at h2
            simp at h2
            omega
          rw [put_other _ _ _ _ hne]
          exact inv.at_ j oj t hj hdst hts hlj
      · have e : j ≠ i := fun e => by
          have := (hset j).2 (.inl e)
          rw [hlj] at this
          cases this
        rw [getD_set_ne false (Ne.symm e)] at hlj
        have hne : o.dst ≠ some t := by
          intro h
          by_cases hts : t < a0.tmps.size
          · have h1 := fin_at l 0 (fun j => .int .i64 (j : Int)) a0 hdis j oj t hj hdst hts
            have h2 := fin_at l 0 (fun j => .int .i64 (j : Int)) a0 hdis i o t hol h hts
            rw [h1] at h2
            simp at h2
            omega
          · exact absurd (hdt i o t hol h) hts
        rw [put_other _ _ _ _ hne]
        exact inv.old j oj t hj hdst hlj
end

theorem wanted_un {l : List Oper} {F : Act} {o : Oper} {g : Nat} {og : Oper} {t : Tmp} {b : Bool} (hg : o.guard = some (g, b)) (hl : l[g]? = some og) (hd : og.dst = some t) (hv : F.tmps[t]? = some undef) : Region.wanted o (yielded l.toArray F.tmps) = false := by
  unfold Region.wanted
  have hy : yielded l.toArray F.tmps g = none := by
    unfold yielded
    have : l.toArray[g]? = some og := by simpa using hl
    rw [this, Option.bind_some, hd, Option.bind_some, hv]
    rfl
  simp only [hg, hy]
  cases b <;> rfl
/-- What an operation leaves in its slot. -/
def keep (o : Oper) (v : Value) : Value := match o.dst with | none => undef | some _ => v
section
variable {P : Program} {l : List Oper} {T : Nat → Value → World → Prop} {R : Nat → Nat → World → World → Prop} {I : Nat → World → Prop} {a0 : Act} {i n : Nat} {o : Oper} {lo hi d : Nat}
/-- The obligation, at an act that is a name. -/
def OblG (till : Nat → Nat) (n : Nat) (P : Program) (l : List Oper) (T : Nat → Value → World → Prop) (R : Nat → Nat → World → World → Prop) (I : Nat → World → Prop) (a0 : Act) (lo hi d : Nat) (i : Nat) (o : Oper) : Prop :=
  ∀ (p : Nat) (vals : Nat → Value) (W : World) (F : Act), AllO n l o vals a0 F → lo ≤ p → p ≤ hi → I p W → (∀ e ∈ o.after, Region.binds .any e = true → p ≤ till e.on → T e.on (vals e.on) W) →
    (Region.wanted o (yielded l.toArray F.tmps) = false ∧ I (p + d) W ∧ T i undef W) ∨
    (Region.wanted o (yielded l.toArray F.tmps) = true ∧
      ((∃ v, (execOp F.eval o).run P W = .ok (.value v) W ∧ I (p + d) W ∧ T i (keep o v) W) ∨
       (∃ v W', (execOp F.eval o).run P W = .ok (.value v) W' ∧ R p d W W' ∧ I (p + d) W' ∧ T i (keep o v) W') ∨
       (∃ f args, (execOp F.eval o).run P W = .ok (.enter f args) W ∧ Calls P f args W fun e W' => ∃ v, e = .returned v ∧ R p d W W' ∧ I (p + d) W' ∧ T i (keep o v) W') ∨
       (∃ W', (execOp F.eval o).run P W = .ok .skip W' ∧ R p d W W' ∧ I (p + d) W' ∧ T i undef W')))
theorem oblP_of {till : Nat → Nat} (hR : ∀ p d W, R p d W W) (hsz : a0.tmps.size = n) (hdis : distinctB l = true) (hd : ∀ t, o.dst = some t → t < a0.tmps.size) (h : OblG till n P l T R I a0 lo hi d i o) : OblP till P l T R I a0 lo hi d i o := by
  intro p vals W h1 h2 hI hdeps
  have hfd : (finO l o vals a0).defers = a0.defers := fin_defers _ _ _ _
  have slot : ∀ v, slotOf o ((finO l o vals a0).put o.dst v) = keep o v := by
    intro v
    unfold slotOf keep
    cases hdst : o.dst with
    | none => rfl
    | some t => simp only [Array.getD_eq_getD_getElem?, put_same _ t v (show t < (finO l o vals a0).tmps.size by unfold finO; rw [fin_size]; exact hd t hdst), Option.getD_some]
  have slotU : slotOf o ((finO l o vals a0).put o.dst undef) = undef := by
    rw [slot]
    unfold keep
    cases o.dst <;> rfl
  unfold wpList
  rcases h p vals W _ ⟨rfl, hdis, hsz⟩ h1 h2 hI hdeps with ⟨hw, hJ, hT⟩ | ⟨hw, h⟩
  · rw [if_neg (by rw [hw]; decide)]
    exact ⟨rfl, by rw [put_defers, hfd], ⟨hR _ _ _, hJ⟩, by rw [slotU]; exact hT⟩
  · rw [if_pos hw]
    refine .inl ?_
    unfold Oper.wp
    rcases h with ⟨v, hrun, hJ, hT⟩ | ⟨v, W', hrun, hl, hJ, hT⟩ | ⟨f, args, hrun, hc⟩ | ⟨W', hrun, hl, hJ, hT⟩
    · rw [hrun]
      exact ⟨rfl, by rw [put_defers, hfd], ⟨hR _ _ _, hJ⟩, by rw [slot]; exact hT⟩
    · rw [hrun]
      exact ⟨rfl, by rw [put_defers, hfd], ⟨hl, hJ⟩, by rw [slot]; exact hT⟩
    · rw [hrun]
      refine Calls.mono hc fun e W' ⟨v, he, hl, hJ, hT⟩ => ?_
      subst he
      exact ⟨rfl, by rw [put_defers, hfd], ⟨hl, hJ⟩, by rw [slot]; exact hT⟩
    · rw [hrun]
      exact ⟨rfl, by rw [put_defers, hfd], ⟨hl, hJ⟩, by rw [slotU]; exact hT⟩
def OblsG (till : Nat → Nat) (n : Nat) (P : Program) (l : List Oper) (T : Nat → Value → World → Prop) (R : Nat → Nat → World → World → Prop) (I : Nat → World → Prop) (a0 : Act) (effs los his : List Nat) : Nat → List Oper → Prop
  | _, [] => True
  | k, o :: os => OblG till n P l T R I a0 (los.getD k 0) (his.getD k 0) (effN effs k) k o ∧ OblsG till n P l T R I a0 effs los his (k + 1) os
def dstsB2 (l : List Oper) (n : Nat) : Bool := l.all fun o => match o.dst with | none => true | some t => decide (t < n)
theorem oblsG_get {till : Nat → Nat} {effs los his : List Nat} (hR : ∀ p d W, R p d W W) (hsz : a0.tmps.size = n) (hdis : distinctB l = true) : ∀ (m : List Oper) (k : Nat), dstsB2 m a0.tmps.size = true → OblsG till n P l T R I a0 effs los his k m →
    ∀ i o, m[i]? = some o → OblP till P l T R I a0 (los.getD (k + i) 0) (his.getD (k + i) 0) (effN effs (k + i)) (k + i) o
  | [], _, _, _, i, o, h => by simp at h
  | x :: m, k, hb, hO, 0, o, h => by
    have e : x = o := by simpa using h
    subst e
    unfold dstsB2 at hb
    rw [List.all_cons, Bool.and_eq_true] at hb
    exact oblP_of hR hsz hdis (fun t ht => by have := hb.1; rw [ht] at this; simpa using this) hO.1
  | x :: m, k, hb, hO, i + 1, o, h => by
    unfold dstsB2 at hb
    rw [List.all_cons, Bool.and_eq_true] at hb
    have := oblsG_get hR hsz hdis m (k + 1) hb.2 hO.2 i o (by simpa using h)
    rw [show k + (i + 1) = k + 1 + i by omega]
    exact this
end
/-- What is known of a value: stable from a phase on, till a phase. -/
structure TyP (R : Nat → Nat → World → World → Prop) where
  from_ : Nat
  till_ : Nat
  p : Value → World → Prop
  mono : ∀ k d v W W', from_ ≤ k → k + d ≤ till_ → p v W → R k d W W' → p v W'
def TyP.is {R : Nat → Nat → World → World → Prop} (c : Value) : TyP R := ⟨0, 1000, fun v _ => v = c, fun _ _ _ _ _ _ _ h _ => h⟩
def TyP.free {R : Nat → Nat → World → World → Prop} : TyP R := ⟨0, 1000, fun _ _ => True, fun _ _ _ _ _ _ _ _ _ => trivial⟩
def TyP.of {R : Nat → Nat → World → World → Prop} (Ts : List (TyP R)) (i : Nat) : Value → World → Prop := ((Ts[i]?).getD TyP.free).p
theorem TyP.of_is {R : Nat → Nat → World → World → Prop} {Ts : List (TyP R)} {i : Nat} {c : Value} {W : World} (h : Ts[i]? = some (TyP.is c)) : TyP.of Ts i c W := by
  unfold TyP.of
  rw [h]
  exact rfl
def fromB (fs los effs : List Nat) : Bool := fs.zipIdx.all fun x => decide (x.1 ≤ los.getD x.2 0 + effN effs x.2)
theorem TyP.of_mono {R : Nat → Nat → World → World → Prop} {Ts : List (TyP R)} {los effs : List Nat} (h : fromB (Ts.map fun t => t.from_) los effs = true) (i : Nat) (v : Value) (p d : Nat) (W W' : World) (hp : los.getD i 0 + effN effs i ≤ p) (hq : p + d ≤ (Ts.map fun t => t.till_).getD i 1000) (hv : TyP.of Ts i v W) (hr : R p d W W') : TyP.of Ts i v W' := by
  unfold TyP.of at *
  cases ht : Ts[i]? with
  | none => trivial
  | some t =>
    rw [ht] at hv
    have h1 := List.all_eq_true.1 h (t.from_, i) (by rw [List.mem_zipIdx_iff_getElem?, List.getElem?_map, ht]; rfl)
    have h2 : t.from_ ≤ los.getD i 0 + effN effs i := by simpa using h1
    have h3 : (Ts.map fun t => t.till_).getD i 1000 = t.till_ := by rw [List.getD_eq_getElem?_getD, List.getElem?_map, ht]; rfl
    rw [h3] at hq
    exact t.mono p d v W W' (by omega) hq hv hr
def insB (l : List Oper) (effs : List Nat) : Bool := effs.all fun j => decide (j < l.length)
/-- All that a kernel's look can tell of a region and its phases. -/
def fineB (l : List Oper) (n : Nat) (effs los his : List Nat) : Bool :=
  Region.noSelect l.toArray && (distinctB l && (waits2B l && (behindB l && (dstsB2 l n && (nodupB effs && (loB l effs los && (hiB l effs his && (effB effs los his && insB l effs))))))))
theorem wp_region_phased {P : Program} {Q : Exit → Act → World → Prop} {id : Nat} {l : List Oper} {a0 : Act} {w0 : World} (n : Nat) (hn : a0.tmps.size = n) (R : Nat → Nat → World → World → Prop) (I : Nat → World → Prop) (Ts : List (TyP R)) (effs los his : List Nat) (hm : P.follows .mixedOrders = true)
    (hf : fineB l n effs los his = true) (hfr : fromB (Ts.map fun t => t.from_) los effs = true) (hR : ∀ p d W, R p d W W) (h0 : I 0 w0.drew) (hobl : OblsG (fun i => (Ts.map fun t => t.till_).getD i 1000) n P l (TyP.of Ts) R I a0 effs los his 0 l)
    (hend : ∀ vals W F, AllIn n l vals a0 F → F.defers = a0.defers → I effs.length W → (∀ j, j < l.length → effs.length ≤ (Ts.map fun t => t.till_).getD j 1000 → TyP.of Ts j (vals j) W) → Q .normal F W) : (Code.region id l.toArray true).wp P Q a0 w0 := by
  simp only [fineB, Bool.and_eq_true] at hf
  obtain ⟨hsel, hdis, hwait, hbeh, hdst, hnd, hlo, hhi, heff, hins⟩ := hf
  have hin : ∀ (q j : Nat), effs[q]? = some j → j < l.length := fun q j hq => by
    have := List.all_eq_true.1 hins j (List.mem_of_getElem? hq)
    simpa using this
  refine wp_region_any hm ?_
  have e : l.toArray.size = l.length := by simp
  rw [e]
  refine any_phased (a0 := a0) (effs := effs) (los := los) (his := his) (fun i => (Ts.map fun t => t.till_).getD i 1000) (TyP.of_mono hfr) hsel hdis hwait hbeh hnd hlo hhi heff (fun i o ho => by
    have := oblsG_get hR hn hdis l 0 (by rw [hn]; exact hdst) hobl i o ho
    rwa [Nat.zero_add] at this) hin (fun i o t ho hd => by
    have h := List.all_eq_true.1 hdst o (List.mem_of_getElem? ho)
    rw [hd] at h
    rw [hn]
    simpa using h) (fun vals W hI h => hend vals W _ ⟨rfl, hdis, hn⟩ (fin_defers _ _ _ _) hI h) _ _ 0 (fun _ => undef) a0 _ ⟨⟨by simp, fun j oj _ hl => absurd hl (by rw [getD_replicate_false]; decide), fun q j hq => ⟨fun hl => absurd hl (by rw [getD_replicate_false]; decide), fun h => by omega⟩, by omega⟩, h0, rfl, rfl, fun j hj => absurd hj (by rw [getD_replicate_false]; decide), fun _ _ => rfl, fun j o t _ _ _ hj => absurd hj (by rw [getD_replicate_false]; decide), fun _ _ _ _ _ _ => rfl⟩ (by
    unfold left
    exact Nat.le_trans List.countP_le_length (by simp))

end Go.Proofs.Ytfpgjabbpcndfaa
