/- A region that draws its order, with calls that make memory: each operation is walked once, by itself, at whatever later world, over what is known of the values that it waits for. No condition. -/
import Derived.WalkKit
import Derived.StillTail
namespace Go.Proofs.Ytfpgjabbpcndfaa
open Go.RowKit

/-- W' comes behind W: what stood at W stands as it was. -/
def Later (W W' : World) : Prop := Below W.heap.size W W'
theorem Later.refl (W : World) : Later W W := Below.refl _ _
theorem Later.trans {A B C : World} (h : Later A B) (k : Later B C) : Later A C := Below.trans h (Below.mono k h.size)

/-- The values of all operations, laid over an act. -/
def fin : List Oper → Nat → (Nat → Value) → Act → Act
  | [], _, _, a => a
  | o :: os, k, vals, a => fin os (k + 1) vals (a.put o.dst (vals k))
def distinctB : List Oper → Bool
  | [] => true
  | o :: os => (match o.dst with | none => true | some t => os.all fun o' => o'.dst != some t) && distinctB os
/-- What an operation looks at, and another of the region writes, it waits for. -/
def waitsB (l : List Oper) : Bool :=
  l.all fun o => (o.looksAt l.toArray).all fun t => l.zipIdx.all fun p => p.1.dst != some t || o.after.any fun e => e.on == p.2 && Region.binds .any e
def behindB (l : List Oper) : Bool := l.zipIdx.all fun p => p.1.after.all fun e => !(Region.binds .any e) || decide (e.on < p.2)
def slotOf (o : Oper) (a : Act) : Value := match o.dst with | some d => a.tmps.getD d undef | none => undef

theorem put_size (a : Act) (d : Option Tmp) (v : Value) : (a.put d v).tmps.size = a.tmps.size := by cases d <;> simp [Act.put]
theorem put_defers (a : Act) (d : Option Tmp) (v : Value) : (a.put d v).defers = a.defers := by cases d <;> rfl
theorem put_other (a : Act) (d : Option Tmp) (v : Value) (t : Tmp) (h : d ≠ some t) : (a.put d v).tmps[t]? = a.tmps[t]? := by
  cases d with
  | none => rfl
  | some e =>
    have : e ≠ t := fun h' => h (by rw [h'])
    simp [Act.put, Array.getElem?_setIfInBounds_ne this]
theorem put_same (a : Act) (t : Tmp) (v : Value) (h : t < a.tmps.size) : (a.put (some t) v).tmps[t]? = some v := by simp [Act.put, h]
theorem fin_size (l : List Oper) : ∀ k vals a, (fin l k vals a).tmps.size = a.tmps.size := by
  induction l with
  | nil => intro k vals a; rfl
  | cons o os ih => intro k vals a; rw [fin, ih, put_size]
theorem fin_defers (l : List Oper) : ∀ k vals a, (fin l k vals a).defers = a.defers := by
  induction l with
  | nil => intro k vals a; rfl
  | cons o os ih => intro k vals a; rw [fin, ih, put_defers]
theorem fin_other (l : List Oper) (t : Tmp) : ∀ k vals a, (∀ o ∈ l, o.dst ≠ some t) → (fin l k vals a).tmps[t]? = a.tmps[t]? := by
  induction l with
  | nil => intro k vals a _; rfl
  | cons o os ih => intro k vals a h; rw [fin, ih _ _ _ (fun o' ho' => h o' (List.mem_cons_of_mem _ ho')), put_other _ _ _ _ (h o List.mem_cons_self)]
theorem fin_at (l : List Oper) : ∀ k vals a, distinctB l = true → ∀ j o t, l[j]? = some o → o.dst = some t → t < a.tmps.size → (fin l k vals a).tmps[t]? = some (vals (k + j)) := by
  induction l with
  | nil => intro k vals a _ j o t h; simp at h
  | cons o os ih =>
    intro k vals a hd j o' t ho hdst ht
    rw [distinctB, Bool.and_eq_true] at hd
    cases j with
    | zero =>
      have e : o = o' := by simpa using ho
      subst e
      rw [fin, fin_other os t _ _ _ (fun o2 h2 => by
        have h3 := hd.1
        rw [hdst] at h3
        have h4 := List.all_eq_true.1 h3 o2 h2
        simpa using h4), hdst, put_same _ _ _ ht]
      rfl
    | succ j =>
      have ho' : os[j]? = some o' := by simpa using ho
      rw [fin, ih _ _ _ hd.2 j o' t ho' hdst (by rw [put_size]; exact ht)]
      congr 2
      omega

section
variable {P : Program} {Q : Exit → Act → World → Prop}

/-- Operation i, walked by itself. -/
def Obl (P : Program) (l : List Oper) (T : Nat → Value → World → Prop) (a0 : Act) (w0 : World) (i : Nat) (o : Oper) : Prop :=
  ∀ (vals : Nat → Value) (W : World), Later w0 W → (∀ e ∈ o.after, Region.binds .any e = true → T e.on (vals e.on) W) →
    wpList P l.toArray (fun e a' W' => e = .normal ∧ a'.defers = a0.defers ∧ Later W W' ∧ T i (slotOf o a') W') [o] (fin l 0 vals a0) W

structure InvT (T : Nat → Value → World → Prop) (l : List Oper) (a0 : Act) (w0 : World) (listed : Array Bool) (vals : Nat → Value) (a : Act) (W : World) : Prop where
  size : listed.size = l.length
  S : Later w0 W
  defers : a.defers = a0.defers
  tsz : a.tmps.size = a0.tmps.size
  ty : ∀ j, listed.getD j false = true → T j (vals j) W
  other : ∀ t, (∀ o ∈ l, o.dst ≠ some t) → a.tmps[t]? = a0.tmps[t]?
  at_ : ∀ j o t, l[j]? = some o → o.dst = some t → t < a0.tmps.size → listed.getD j false = true → a.tmps[t]? = some (vals j)

theorem countP_drop {p q : Nat → Bool} (h : ∀ x, q x = true → p x = true) {i : Nat} (hp : p i = true) (hq : q i = false) : ∀ l : List Nat, i ∈ l → l.countP q + 1 ≤ l.countP p
  | [], hi => by cases hi
  | x :: l, hi => by
    rcases List.mem_cons.1 hi with rfl | hi
    · have := List.countP_mono_left (l := l) (fun x _ => h x)
      rw [List.countP_cons_of_neg (by simp [hq]), List.countP_cons_of_pos hp]
      omega
    · have ih := countP_drop h hp hq l hi
      by_cases hx : q x = true
      · rw [List.countP_cons_of_pos hx, List.countP_cons_of_pos (h x hx)]; omega
      · rw [List.countP_cons_of_neg hx]
        by_cases hx2 : p x = true
        · rw [List.countP_cons_of_pos hx2]; omega
        · rw [List.countP_cons_of_neg hx2]; omega
/-- How many are still to come. -/
def left (n : Nat) (listed : Array Bool) : Nat := (List.range n).countP fun j => !listed.getD j true
theorem left_set (n : Nat) (listed : Array Bool) (i : Nat) (hi : i < n) (hs : listed.size = n) (h : listed.getD i true = false) : left n (listed.setIfInBounds i true) + 1 ≤ left n listed := by
  refine countP_drop (fun x hx => ?_) (i := i) (by simp only [h]; rfl) ?_ _ (List.mem_range.2 hi)
  · by_cases e : i = x
    · subst e
      simp only [h]; rfl
    · rw [getD_set_ne true e] at hx
      exact hx
  · have : i < listed.size := by omega
    simp [this]
theorem left_zero (n : Nat) (listed : Array Bool) (h : left n listed = 0) (hs : listed.size = n) (j : Nat) (hj : j < n) : listed.getD j false = true := by
  unfold left at h
  rw [List.countP_eq_zero] at h
  have h1 := h j (List.mem_range.2 hj)
  have hj2 : j < listed.size := by omega
  simp only [Array.getD_eq_getD_getElem?, Array.getElem?_eq_getElem hj2, Option.getD_some] at h1 ⊢
  simpa using h1

theorem some_ready {l : List Oper} (hb : behindB l = true) (listed : Array Bool) (hs : listed.size = l.length) (h : left l.length listed ≠ 0) : Region.ready .any l.toArray listed ≠ [] := by
  have h1 : ∃ j, j < l.length ∧ listed.getD j true = false := by
    unfold left at h
    rw [Ne, List.countP_eq_zero] at h
    simp only [Classical.not_forall] at h
    obtain ⟨j, hj, hh⟩ := h
    exact ⟨j, List.mem_range.1 hj, by simpa using hh⟩
  obtain ⟨j, hj, hh⟩ := h1
  induction j using Nat.strongRecOn with
  | _ j ih =>
    have ho : l.toArray[j]? = some l[j] := by simp [hj]
    by_cases hall : ∀ e ∈ l[j].after, Region.binds .any e = true → listed.getD e.on false = true
    · exact List.ne_nil_of_mem (mem_ready.2 ⟨hh, l[j], ho, hall⟩)
    · simp only [Classical.not_forall] at hall
      obtain ⟨e, he, hbind, hun⟩ := hall
      have hlt : e.on < j := by
        have h2 := List.all_eq_true.1 hb (l[j], j) (by rw [List.mem_zipIdx_iff_getElem?]; simp [hj])
        have h3 := Array.all_eq_true_iff_forall_mem.1 h2 e he
        rw [hbind] at h3
        simpa using h3
      refine ih e.on hlt (by omega) ?_
      have hl : e.on < listed.size := by omega
      simp only [Array.getD_eq_getD_getElem?, Array.getElem?_eq_getElem hl, Option.getD_some] at hun ⊢
      simpa using hun

/-- One operation: what it does at the act with all values laid over it, it does at the act that the schedule has reached. -/
theorem wpOp_typed {l : List Oper} {T : Nat → Value → World → Prop} {i : Nat} {o : Oper} {a f : Act} {W : World} (hi : l.toArray[i]? = some o) (hsel : ∀ cs b, o.op ≠ .select cs b)
    (hd : f.defers = a.defers) (hev : ∀ t ∈ o.looksAt l.toArray, a.tmps[t]? = f.tmps[t]?)
    (h : wpList P l.toArray (fun e a' W' => e = .normal ∧ a'.defers = a.defers ∧ Later W W' ∧ T i (slotOf o a') W') [o] f W) :
    wpOp P l.toArray Q i (fun a' W' => ∃ v, a' = a.put o.dst v ∧ Later W W' ∧ T i (slotOf o (f.put o.dst v)) W') a W := by
  have hx : execOp a.eval o = execOp f.eval o := execOp_congr o hsel fun x hx => by
    cases x with
    | tmp t =>
      have := hev t (List.mem_append_left _ (List.mem_filterMap.2 ⟨.tmp t, by simpa using hx, rfl⟩))
      simp only [Act.eval, Array.getD_eq_getD_getElem?, this]
    | _ => rfl
  have hw : Region.wanted o (yielded l.toArray a.tmps) = Region.wanted o (yielded l.toArray f.tmps) := by
    unfold Region.wanted
    cases hg : o.guard with
    | none => rfl
    | some gw =>
      obtain ⟨g, want⟩ := gw
      have hy : yielded l.toArray a.tmps g = yielded l.toArray f.tmps g := by
        unfold yielded
        cases ht : (l.toArray[g]?).bind (·.dst) with
        | none => rfl
        | some t =>
          have := hev t (List.mem_append_right _ (by simp only [hg, ht, Option.toList_some, List.mem_singleton]))
          simp only [Option.bind_some, this]
      simp only [hy]
  have noOut : ¬ LetsOut (fun e a' W' => e = Exit.normal ∧ a'.defers = a.defers ∧ Later W W' ∧ T i (slotOf o a') W') := fun ⟨_, _, h0, _⟩ => by cases h0
  unfold wpList at h
  unfold wpOp
  simp only [hi]
  rw [hw]
  split
  · rename_i hwt
    rw [if_pos hwt] at h
    rcases h with h | ⟨_, h⟩
    · refine .inl ?_
      unfold Oper.wp at *
      rw [hx]
      generalize (execOp f.eval o).run P W = r at *
      cases r with
      | ok n w' =>
        cases n <;> simp only [Oper.upon, wpList] at h ⊢
        case value v => exact ⟨v, rfl, h.2.2.1, h.2.2.2⟩
        case skip => exact ⟨undef, rfl, h.2.2.1, h.2.2.2⟩
        case defer d =>
          have h1 := h.2.1
          rw [put_defers] at h1
          simp only at h1
          rw [hd] at h1
          exact absurd (congrArg List.length h1) (by simp)
        case enter g args =>
          refine Calls.mono h fun e w'' he => ?_
          cases e with
          | returned v => exact ⟨v, rfl, he.2.2.1, he.2.2.2⟩
          | panicked c => exact absurd he.1 (by simp)
          | outgrown => exact absurd he noOut
        case row g args => exact Rows.mono h fun v w'' he => ⟨v, rfl, he.2.2.1, he.2.2.2⟩
      | halt x w' =>
        cases x <;> simp only [Oper.upon] at h ⊢
        all_goals first | exact absurd h.1 (by simp) | exact h | exact h.elim
    · exact absurd h noOut
  · rename_i hwt
    rw [if_neg hwt] at h
    exact ⟨undef, rfl, h.2.2.1, h.2.2.2⟩

theorem any_typed {l : List Oper} {T : Nat → Value → World → Prop} {a0 : Act} {w0 : World} (hmono : ∀ i v W W', T i v W → Later W W' → T i v W')
    (hsel : Region.noSelect l.toArray = true) (hdis : distinctB l = true) (hwait : waitsB l = true) (hbeh : behindB l = true) (hobl : ∀ i o, l[i]? = some o → Obl P l T a0 w0 i o)
    (hend : ∀ vals W, Later w0 W → (∀ j, j < l.length → T j (vals j) W) → Q .normal (fin l 0 vals a0) W) :
    ∀ (fuel : Nat) (listed : Array Bool) (vals : Nat → Value) (a : Act) (W : World), InvT T l a0 w0 listed vals a W → left l.length listed ≤ fuel → wpAny P .any l.toArray Q fuel listed a W := by
  have stop : ∀ (listed : Array Bool) (vals : Nat → Value) (a : Act) (W : World), InvT T l a0 w0 listed vals a W → left l.length listed = 0 → Q .normal a W := by
    intro listed vals a W inv h0
    have hall := left_zero l.length listed h0 inv.size
    have e : a = fin l 0 vals a0 := by
      have e1 : a.tmps = (fin l 0 vals a0).tmps := by
        refine Array.ext_getElem? fun t => ?_
        by_cases ht : t < a0.tmps.size
        · by_cases hw : ∀ o ∈ l, o.dst ≠ some t
          · rw [inv.other t hw, fin_other l t 0 vals a0 hw]
          · simp only [Classical.not_forall, Classical.not_not] at hw
            obtain ⟨o, ho, hdst⟩ := hw
            obtain ⟨j, hj⟩ := List.mem_iff_getElem?.1 ho
            rw [inv.at_ j o t hj hdst ht (hall j (List.getElem?_eq_some_iff.1 hj).1), fin_at l 0 vals a0 hdis j o t hj hdst ht, Nat.zero_add]
        · rw [Array.getElem?_eq_none (by rw [inv.tsz]; omega), Array.getElem?_eq_none (by rw [fin_size]; omega)]
      have e2 : a.defers = (fin l 0 vals a0).defers := by rw [inv.defers, fin_defers]
      cases a
      cases hf : fin l 0 vals a0
      rw [hf] at e1 e2
      simp only at e1 e2
      rw [e1, e2]
    rw [e]
    exact hend vals W inv.S fun j hj => inv.ty j (hall j hj)
  intro fuel
  induction fuel with
  | zero =>
    intro listed vals a W inv hl
    have h0 : left l.length listed = 0 := by omega
    refine ⟨?_, stop listed vals a W inv h0⟩
    refine List.eq_nil_iff_forall_not_mem.2 fun j hj => ?_
    obtain ⟨hun, o, ho, _⟩ := mem_ready.1 hj
    have hj2 : j < l.length := by have := (Array.getElem?_eq_some_iff.1 ho).1; simpa using this
    have h1 := left_zero l.length listed h0 inv.size j hj2
    have hl2 : j < listed.size := by rw [inv.size]; exact hj2
    simp only [Array.getD_eq_getD_getElem?, Array.getElem?_eq_getElem hl2, Option.getD_some] at hun h1
    rw [h1] at hun
    cases hun
  | succ fuel ih =>
    intro listed vals a W inv hl
    refine ⟨fun hr => ?_, fun i hi => ?_⟩
    · by_cases h0 : left l.length listed = 0
      · exact stop listed vals a W inv h0
      · exact absurd hr (some_ready hbeh listed inv.size h0)
    · obtain ⟨hun, o, ho, hdeps⟩ := mem_ready.1 hi
      have hol : l[i]? = some o := by simpa using ho
      have hil : i < l.length := (List.getElem?_eq_some_iff.1 hol).1
      have hls : i < listed.size := by rw [inv.size]; exact hil
      have hob := hobl i o hol vals W inv.S fun e he hb => inv.ty e.on (hdeps e he hb)
      have hev : ∀ t ∈ o.looksAt l.toArray, a.tmps[t]? = (fin l 0 vals a0).tmps[t]? := by
        intro t ht
        by_cases hts : t < a0.tmps.size
        · by_cases hw : ∀ o' ∈ l, o'.dst ≠ some t
          · rw [inv.other t hw, fin_other l t 0 vals a0 hw]
          · simp only [Classical.not_forall, Classical.not_not] at hw
            obtain ⟨o', ho', hdst⟩ := hw
            obtain ⟨j, hj⟩ := List.mem_iff_getElem?.1 ho'
            have h1 := List.all_eq_true.1 hwait o (List.mem_of_getElem? hol)
            have h2 := List.all_eq_true.1 h1 t ht
            have h3 := List.all_eq_true.1 h2 (o', j) (by rw [List.mem_zipIdx_iff_getElem?]; exact hj)
            simp only [hdst, bne_self_eq_false, Bool.false_or, Array.any_eq_true', Bool.and_eq_true, beq_iff_eq] at h3
            obtain ⟨e, he, heq, hb⟩ := h3
            rw [inv.at_ j o' t hj hdst hts (heq ▸ hdeps e he hb), fin_at l 0 vals a0 hdis j o' t hj hdst hts, Nat.zero_add]
        · rw [Array.getElem?_eq_none (by rw [inv.tsz]; exact Nat.le_of_not_lt hts), Array.getElem?_eq_none (by rw [fin_size]; exact Nat.le_of_not_lt hts)]
      refine wpOp_mono ?_ (wpOp_typed (Q := Q) ho (Region.noSelect_spec hsel i o · · ho) (by rw [fin_defers, inv.defers]) hev (by rw [inv.defers]; exact hob))
      rintro a' W' ⟨v, rfl, hlt, hT⟩
      have hfs : (fin l 0 vals a0).tmps.size = a0.tmps.size := fin_size _ _ _ _
      refine ih (listed.setIfInBounds i true) (fun j => if j = i then slotOf o ((fin l 0 vals a0).put o.dst v) else vals j) _ W' ?_ (by have := left_set l.length listed i hil inv.size hun; omega)
      refine ⟨by rw [Array.size_setIfInBounds]; exact inv.size, inv.S.trans hlt, by rw [put_defers]; exact inv.defers, by rw [put_size]; exact inv.tsz, fun j hj => ?_, fun t ht => ?_, fun j oj t hj hdst hts hlj => ?_⟩
      · by_cases e : j = i
        · subst e
          simp only [if_true]
          exact hT
        · simp only [e, if_false]
          rw [getD_set_ne false (Ne.symm e)] at hj
          exact hmono _ _ _ _ (inv.ty j hj) hlt
      · rw [put_other _ _ _ _ (ht o (List.mem_of_getElem? hol)), inv.other t ht]
      · by_cases e : j = i
        · subst e
          rw [hol] at hj
          obtain rfl : o = oj := by simpa using hj
          simp only [if_true]
          rw [hdst, put_same _ _ _ (by rw [inv.tsz]; exact hts)]
          unfold slotOf
          rw [hdst]
          simp only [Array.getD_eq_getD_getElem?, put_same _ _ _ (show t < (fin l 0 vals a0).tmps.size by rw [hfs]; exact hts), Option.getD_some]
        · simp only [e, if_false]
          rw [getD_set_ne false (Ne.symm e)] at hlj
          have hne : o.dst ≠ some t := by
            intro h
            have h1 := fin_at l 0 (fun j => .int .i64 (j : Int)) a0 hdis j oj t hj hdst hts
            have h2 := fin_at l 0 (fun j => .int .i64 (j : Int)) a0 hdis i o t hol h hts
            rw [h1] at h2
            simp at h2
            omega
          rw [put_other _ _ _ _ hne]
          exact inv.at_ j oj t hj hdst hts hlj

/-- The obligations of all operations, one behind the other. -/
def Obls (P : Program) (l : List Oper) (T : Nat → Value → World → Prop) (a0 : Act) (w0 : World) : Nat → List Oper → Prop
  | _, [] => True
  | k, o :: os => Obl P l T a0 w0 k o ∧ Obls P l T a0 w0 (k + 1) os
theorem obls_get {l : List Oper} {T : Nat → Value → World → Prop} {a0 : Act} {w0 : World} : ∀ (m : List Oper) (k : Nat), Obls P l T a0 w0 k m → ∀ i o, m[i]? = some o → Obl P l T a0 w0 (k + i) o
  | [], _, _, i, o, h => by simp at h
  | x :: m, k, hO, 0, o, h => by
    have e : x = o := by simpa using h
    subst e
    exact hO.1
  | x :: m, k, hO, i + 1, o, h => by
    have := obls_get m (k + 1) hO.2 i o (by simpa using h)
    rw [show k + (i + 1) = k + 1 + i by omega]
    exact this

theorem wp_region_typed {id : Nat} {l : List Oper} {a0 : Act} {w0 : World} (T : Nat → Value → World → Prop) (hm : P.follows .mixedOrders = true) (hmono : ∀ i v W W', T i v W → Later W W' → T i v W')
    (hsel : Region.noSelect l.toArray = true) (hdis : distinctB l = true) (hwait : waitsB l = true) (hbeh : behindB l = true) (hobl : Obls P l T a0 w0 0 l)
    (hend : ∀ vals W, Later w0 W → (∀ j, j < l.length → T j (vals j) W) → Q .normal (fin l 0 vals a0) W) : (Code.region id l.toArray true).wp P Q a0 w0 := by
  refine wp_region_any hm ?_
  have e : l.toArray.size = l.length := by simp
  rw [e]
  refine any_typed (a0 := a0) (w0 := w0) hmono hsel hdis hwait hbeh (fun i o ho => by have := obls_get l 0 hobl i o ho; rwa [Nat.zero_add] at this) hend _ _ (fun _ => undef) a0 _ ⟨by simp, Below.drew (Below.refl _ _), rfl, rfl, fun j hj => absurd hj (by rw [getD_replicate_false]; decide), fun _ _ => rfl, fun j o t _ _ _ hj => absurd hj (by rw [getD_replicate_false]; decide)⟩ (by
    unfold left
    exact Nat.le_trans List.countP_le_length (by simp))
end
end Go.Proofs.Ytfpgjabbpcndfaa
