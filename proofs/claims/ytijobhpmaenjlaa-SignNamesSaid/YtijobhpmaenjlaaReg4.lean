/- A region that draws its order, with writes in phases: what is known of memory may speak of the values that came so far. No condition. -/
import Derived.Test.YtijobhpmaenjlaaReg3
namespace Go.Proofs.Ytijobhpmaenjlaa
open Go.RowKit
/-- The values, one more. -/
def updV (vals : Nat → Value) (i : Nat) (v : Value) : Nat → Value := fun j => if j = i then v else vals j
section
variable {P : Program} {Q : Exit → Act → World → Prop}
/-- Operation i, walked by itself. -/
def OblPV (till : Nat → Nat) (P : Program) (l : List Oper) (T : Nat → Value → World → Prop) (R : Nat → Nat → World → World → Prop) (I : Nat → (Nat → Value) → World → Prop) (a0 : Act) (lo hi d : Nat) (i : Nat) (o : Oper) : Prop :=
  ∀ (p : Nat) (vals : Nat → Value) (W : World), lo ≤ p → p ≤ hi → I p vals W → (∀ e ∈ o.after, Region.binds .any e = true → p ≤ till e.on → T e.on (vals e.on) W) →
    wpList P l.toArray (fun e a' W' => e = .normal ∧ a'.defers = a0.defers ∧ R p d W W' ∧ T i (slotOf o a') W' ∧ I (p + d) (updV vals i (slotOf o a')) W') [o] (finO l o vals a0) W

structure InvPV (till : Nat → Nat) (T : Nat → Value → World → Prop) (I : Nat → (Nat → Value) → World → Prop) (l : List Oper) (effs : List Nat) (a0 : Act) (listed : Array Bool) (p : Nat) (vals : Nat → Value) (a : Act) (W : World) : Prop where
  done : Done l effs listed p
  S : I p vals W
  defers : a.defers = a0.defers
  tsz : a.tmps.size = a0.tmps.size
  ty : ∀ j, listed.getD j false = true → p ≤ till j → T j (vals j) W
  other : ∀ t, (∀ o ∈ l, o.dst ≠ some t) → a.tmps[t]? = a0.tmps[t]?
  at_ : ∀ (j : Nat) o t, l[j]? = some o → o.dst = some t → t < a0.tmps.size → listed.getD j false = true → a.tmps[t]? = some (vals j)
  old : ∀ (j : Nat) o t, l[j]? = some o → o.dst = some t → listed.getD j false = false → a.tmps[t]? = a0.tmps[t]?

theorem any_phasedV {l : List Oper} {T : Nat → Value → World → Prop} {R : Nat → Nat → World → World → Prop} {I : Nat → (Nat → Value) → World → Prop} {effs los his : List Nat} {a0 : Act} (till : Nat → Nat) (hmono : ∀ i v p d W W', los.getD i 0 + effN effs i ≤ p → p + d ≤ till i → T i v W → R p d W W' → T i v W')
    (hsel : Region.noSelect l.toArray = true) (hdis : distinctB l = true) (hwait : waits2B l = true) (hbeh : behindB l = true)
    (hnd : nodupB effs = true) (hlo : loB l effs los = true) (hhi : hiB l effs his = true) (heff : effB effs los his = true)
    (hobl : ∀ i o, l[i]? = some o → OblPV till P l T R I a0 (los.getD i 0) (his.getD i 0) (effN effs i) i o) (hin : ∀ (q j : Nat), effs[q]? = some j → j < l.length) (hdt : ∀ (i : Nat) o t, l[i]? = some o → o.dst = some t → t < a0.tmps.size)
    (hend : ∀ vals W, I effs.length vals W → (∀ j, j < l.length → effs.length ≤ till j → T j (vals j) W) → Q .normal (fin l 0 vals a0) W) :
    ∀ (fuel : Nat) (listed : Array Bool) (p : Nat) (vals : Nat → Value) (a : Act) (W : World), InvPV till T I l effs a0 listed p vals a W → left l.length listed ≤ fuel → wpAny P .any l.toArray Q fuel listed a W := by
  have stop : ∀ (listed : Array Bool) (p : Nat) (vals : Nat → Value) (a : Act) (W : World), InvPV till T I l effs a0 listed p vals a W → left l.length listed = 0 → Q .normal a W := by
    intro listed p vals a W inv h0
    have hall := left_zero l.length listed h0 inv.done.size
    have hp : p = effs.length := by
      rcases Nat.lt_or_ge p effs.length with hlt | hge
      · have hq := inv.done.effi p _ (List.getElem?_eq_getElem hlt)
        have := hq.1 (hall _ (hin p _ (List.getElem?_eq_getElem hlt)))
        omega
      · have := inv.done.ple; omega
    have e : a = fin l 0 vals a0 := by
      have e1 : a.tmps = (fin l 0 vals a0).tmps := by
        refine Array.ext_getElem? fun t => ?_
        by_cases ht : t < a0.tmps.size
        · by_cases hw : ∀ o ∈ l, o.dst ≠ some t
          · rw [inv.other t hw, fin_other l t 0 vals a0 hw]
          · simp only [Classical.not_forall, Classical.not_not] at hw
            obtain ⟨o, ho, hdst⟩ := hw
            obtain ⟨j, hj⟩ := List.mem_iff_getElem?.1 ho
            rw [inv.at_ j o t hj hdst ht (hall j (List.getElem?_eq_some_iff.1 hj).1), fin_at l 0 vals a0 hdis j o t hj hdst ht, Nat.zero_add]
        · rw [Array.getElem?_eq_none (by rw [inv.tsz]; omega), Array.getElem?_eq_none (by rw [fin_size]; omega)]
      have e2 : a.defers = (fin l 0 vals a0).defers := by rw [inv.defers, fin_defers]
      cases a
      cases hf : fin l 0 vals a0
      rw [hf] at e1 e2
      simp only at e1 e2
      rw [e1, e2]
    rw [e]
    exact hend vals W (hp ▸ inv.S) fun j hj ht => inv.ty j (hall j hj) (by rw [hp]; exact ht)
  intro fuel
  induction fuel with
  | zero =>
    intro listed p vals a W inv hl
    have h0 : left l.length listed = 0 := by omega
    refine ⟨?_, stop listed p vals a W inv h0⟩
    refine List.eq_nil_iff_forall_not_mem.2 fun j hj => ?_
    obtain ⟨hun, o, ho, _⟩ := mem_ready.1 hj
    have hj2 : j < l.length := by have := (Array.getElem?_eq_some_iff.1 ho).1; simpa using this
    have h1 := left_zero l.length listed h0 inv.done.size j hj2
    have hl2 : j < listed.size := by rw [inv.done.size]; exact hj2
    simp only [Array.getD_eq_getD_getElem?, Array.getElem?_eq_getElem hl2, Option.getD_some] at hun h1
    rw [h1] at hun
    cases hun
  | succ fuel ih =>
    intro listed p vals a W inv hl
    refine ⟨fun hr => ?_, fun i hi => ?_⟩
    · by_cases h0 : left l.length listed = 0
      · exact stop listed p vals a W inv h0
      · exact absurd hr (some_ready hbeh listed inv.done.size h0)
    · obtain ⟨hun, o, ho, hdeps⟩ := mem_ready.1 hi
      have hol : l[i]? = some o := by simpa using ho
      have hil : i < l.length := (List.getElem?_eq_some_iff.1 hol).1
      have hls : i < listed.size := by rw [inv.done.size]; exact hil
      have hunf : listed.getD i false = false := by
        simp only [Array.getD_eq_getD_getElem?, Array.getElem?_eq_getElem hls, Option.getD_some] at hun ⊢
        exact hun
      have blo := inv.done.lo hbeh hlo i o hol hdeps
      have bhi := inv.done.hi hbeh hhi _ i (Nat.le_refl _) hil hunf
      have hob := hobl i o hol p vals W blo bhi inv.S fun e he hb => inv.ty e.on (hdeps e he hb)
      have hev : ∀ t ∈ o.looksAt l.toArray, a.tmps[t]? = (finO l o vals a0).tmps[t]? := by
        intro t ht
        by_cases hts : t < a0.tmps.size
        · by_cases hw : ∃ j oj, l[j]? = some oj ∧ oj.dst = some t ∧ waitsOn o j = true
          · obtain ⟨j, oj, hj, hdst, hwo⟩ := hw
            obtain ⟨e, he, hb, heq⟩ := waitsOn_edge hwo
            rw [inv.at_ j oj t hj hdst hts (heq ▸ hdeps e he hb), finO_own hdis hj hdst hwo hts]
          · have hno : ∀ j oj, l[j]? = some oj → oj.dst = some t → waitsOn o j = false := fun j oj hj hdst => by
              cases hq : waitsOn o j with
              | false => rfl
              | true => exact absurd ⟨j, oj, hj, hdst, hq⟩ hw
            rw [finO_out hno]
            by_cases hz : ∀ o' ∈ l, o'.dst ≠ some t
            · exact inv.other t hz
            · simp only [Classical.not_forall, Classical.not_not] at hz
              obtain ⟨oj, hoj, hdst⟩ := hz
              obtain ⟨j, hj⟩ := List.mem_iff_getElem?.1 hoj
              refine inv.old j oj t hj hdst ?_
              rcases waits2_of hwait hol hj ht hdst with h | h | h
              · rw [hno j oj hj hdst] at h; cases h
              · obtain ⟨e, he, hb, heq⟩ := waitsOn_edge h
                cases hl : listed.getD j false with
                | false => rfl
                | true =>
                  have h2 := inv.done.closed j oj hj hl e he hb
                  rw [heq, hunf] at h2
                  cases h2
              · rw [← h]; exact hunf
        · rw [Array.getElem?_eq_none (by rw [inv.tsz]; exact Nat.le_of_not_lt hts), Array.getElem?_eq_none (by unfold finO; rw [fin_size]; exact Nat.le_of_not_lt hts)]
      refine wpOp_mono ?_ (wpOp_typed2 (Q := Q) (T := fun i v W' => T i v W' ∧ I (p + effN effs i) (updV vals i v) W') (S := fun W' => R p (effN effs i) W W') ho (Region.noSelect_spec hsel i o · · ho) (by unfold finO; rw [fin_defers, inv.defers]) hev (by rw [inv.defers]; exact hob))
      rintro a' W' ⟨v, rfl, hlt, hT, hI⟩
      have hfs : (finO l o vals a0).tmps.size = a0.tmps.size := fin_size _ _ _ _
      have hset : ∀ j, (listed.setIfInBounds i true).getD j false = true ↔ (j = i ∨ listed.getD j false = true) := by
        intro j
        by_cases e : j = i
        · subst e
          simp [hls]
        · rw [getD_set_ne false (Ne.symm e)]
          simp [e]
      refine ih (listed.setIfInBounds i true) (p + effN effs i) (fun j => if j = i then slotOf o ((finO l o vals a0).put o.dst v) else vals j) _ W' ?_ (by have := left_set l.length listed i hil inv.done.size hun; omega)
      refine ⟨⟨by rw [Array.size_setIfInBounds]; exact inv.done.size, fun j oj hj hlj e he hb => ?_, fun q j hq => ?_, ?_⟩, hI, by rw [put_defers]; exact inv.defers, by rw [put_size]; exact inv.tsz, fun j hj hjt => ?_, fun t ht => ?_, fun j oj t hj hdst hts hlj => ?_, fun j oj t hj hdst hlj => ?_⟩
      · rw [hset] at hlj ⊢
        rcases hlj with rfl | hlj
        · rw [hol] at hj
          obtain rfl : o = oj := by simpa using hj
          exact .inr (hdeps e he hb)
        · exact .inr (inv.done.closed j oj hj hlj e he hb)
      · rw [hset]
        have h0 := inv.done.effi q j hq
        unfold effN
        by_cases hc : i ∈ effs
        · obtain ⟨qi, hqi⟩ := List.mem_iff_getElem?.1 hc
          have h1 := List.all_eq_true.1 heff (i, qi) (by rw [List.mem_zipIdx_iff_getElem?]; exact hqi)
          simp only [Bool.and_eq_true, decide_eq_true_eq] at h1
          have hpq : p = qi := by omega
          have hci : effs.contains i = true := by simpa using hc
          rw [if_pos hci]
          by_cases e : j = i
          · subst e
            have := nodupB_at hnd hq hqi
            constructor
            · intro _; omega
            · intro _; exact .inl rfl
          · have hqq : q ≠ qi := fun h => e (by rw [h, hqi] at hq; simpa using hq.symm)
            constructor
            · rintro (h | h)
              · exact absurd h e
              · have := h0.1 h; omega
            · intro h
              exact .inr (h0.2 (by omega))
        · have hci : effs.contains i = false := by simpa using hc
          rw [if_neg (by rw [hci]; decide), Nat.add_zero]
          have e : j ≠ i := fun h => hc (by rw [← h]; exact List.mem_of_getElem? hq)
          constructor
          · rintro (h | h)
            · exact absurd h e
            · exact h0.1 h
          · intro h
            exact .inr (h0.2 h)
      · unfold effN
        by_cases hc : i ∈ effs
        · obtain ⟨qi, hqi⟩ := List.mem_iff_getElem?.1 hc
          have h1 := List.all_eq_true.1 heff (i, qi) (by rw [List.mem_zipIdx_iff_getElem?]; exact hqi)
          simp only [Bool.and_eq_true, decide_eq_true_eq] at h1
          have hpq : p = qi := by omega
          have hlt2 : qi < effs.length := (List.getElem?_eq_some_iff.1 hqi).1
          have hci : effs.contains i = true := by simpa using hc
          rw [if_pos hci]
          omega
        · have hci : effs.contains i = false := by simpa using hc
          rw [if_neg (by rw [hci]; decide)]
          exact inv.done.ple
      · by_cases e : j = i
        · subst e
          simp only [if_true]
          exact hT
        · simp only [e, if_false]
          rw [getD_set_ne false (Ne.symm e)] at hj
          have hjl : j < l.length := by
            rcases Nat.lt_or_ge j l.length with h | h
            · exact h
            · have : listed.size ≤ j := by rw [inv.done.size]; exact h
              simp [Array.getD_eq_getD_getElem?, Array.getElem?_eq_none this] at hj
          have hoj : l[j]? = some l[j] := List.getElem?_eq_getElem hjl
          refine hmono _ _ p _ _ _ ?_ hjt (inv.ty j hj (by omega)) hlt
          have b1 := inv.done.lo hbeh hlo j _ hoj (inv.done.closed j _ hoj hj)
          unfold effN
          by_cases hc : j ∈ effs
          · obtain ⟨qi, hqi⟩ := List.mem_iff_getElem?.1 hc
            have h1 := List.all_eq_true.1 heff (j, qi) (by rw [List.mem_zipIdx_iff_getElem?]; exact hqi)
            simp only [Bool.and_eq_true, decide_eq_true_eq] at h1
            have := (inv.done.effi qi j hqi).1 hj
            rw [if_pos (by simpa using hc)]
            omega
          · rw [if_neg (by simpa using hc)]
            exact b1
      · rw [put_other _ _ _ _ (ht o (List.mem_of_getElem? hol)), inv.other t ht]
      · by_cases e : j = i
        · subst e
          rw [hol] at hj
          obtain rfl : o = oj := by simpa using hj
          simp only [if_true]
          rw [hdst, put_same _ _ _ (by rw [inv.tsz]; exact hts)]
          unfold slotOf
          rw [hdst]
          simp only [Array.getD_eq_getD_getElem?, put_same _ _ _ (show t < (finO l o vals a0).tmps.size by rw [hfs]; exact hts), Option.getD_some]
        · simp only [e, if_false]
          rw [getD_set_ne false (Ne.symm e)] at hlj
          have hne : o.dst ≠ some t := by
            intro h
            have h1 := fin_at l 0 (fun j => .int .i64 (j : Int)) a0 hdis j oj t hj hdst hts
            have h2 := fin_at l 0 (fun j => .int .i64 (j : Int)) a0 hdis i o t hol h hts
            rw [h1] at h2
            simp at h2
            omega
          rw [put_other _ _ _ _ hne]
          exact inv.at_ j oj t hj hdst hts hlj
      · have e : j ≠ i := fun e => by
          have := (hset j).2 (.inl e)
          rw [hlj] at this
          cases this
        rw [getD_set_ne false (Ne.symm e)] at hlj
        have hne : o.dst ≠ some t := by
          intro h
          by_cases hts : t < a0.tmps.size
          · have h1 := fin_at l 0 (fun j => .int .i64 (j : Int)) a0 hdis j oj t hj hdst hts
            have h2 := fin_at l 0 (fun j => .int .i64 (j : Int)) a0 hdis i o t hol h hts
            rw [h1] at h2
            simp at h2
            omega
          · exact absurd (hdt i o t hol h) hts
        rw [put_other _ _ _ _ hne]
        exact inv.old j oj t hj hdst hlj
end
section
variable {P : Program} {l : List Oper} {T : Nat → Value → World → Prop} {R : Nat → Nat → World → World → Prop} {I : Nat → (Nat → Value) → World → Prop} {a0 : Act} {i n : Nat} {o : Oper} {lo hi d : Nat}
/-- The obligation, at an act that is a name. -/
def OblGV (till : Nat → Nat) (n : Nat) (P : Program) (l : List Oper) (T : Nat → Value → World → Prop) (R : Nat → Nat → World → World → Prop) (I : Nat → (Nat → Value) → World → Prop) (a0 : Act) (lo hi d : Nat) (i : Nat) (o : Oper) : Prop :=
  ∀ (p : Nat) (vals : Nat → Value) (W : World) (F : Act), AllO n l o vals a0 F → lo ≤ p → p ≤ hi → I p vals W → (∀ e ∈ o.after, Region.binds .any e = true → p ≤ till e.on → T e.on (vals e.on) W) →
    (Region.wanted o (yielded l.toArray F.tmps) = false ∧ I (p + d) (updV vals i undef) W ∧ T i undef W) ∨
    (Region.wanted o (yielded l.toArray F.tmps) = true ∧
      ((∃ v, (execOp F.eval o).run P W = .ok (.value v) W ∧ I (p + d) (updV vals i (keep o v)) W ∧ T i (keep o v) W) ∨
       (∃ v W', (execOp F.eval o).run P W = .ok (.value v) W' ∧ R p d W W' ∧ I (p + d) (updV vals i (keep o v)) W' ∧ T i (keep o v) W') ∨
       (∃ f args, (execOp F.eval o).run P W = .ok (.enter f args) W ∧ Calls P f args W fun e W' => ∃ v, e = .returned v ∧ R p d W W' ∧ I (p + d) (updV vals i (keep o v)) W' ∧ T i (keep o v) W') ∨
       (∃ W', (execOp F.eval o).run P W = .ok .skip W' ∧ R p d W W' ∧ I (p + d) (updV vals i undef) W' ∧ T i undef W')))
theorem oblP_ofV {till : Nat → Nat} (hR : ∀ p d W, R p d W W) (hsz : a0.tmps.size = n) (hdis : distinctB l = true) (hd : ∀ t, o.dst = some t → t < a0.tmps.size) (h : OblGV till n P l T R I a0 lo hi d i o) : OblPV till P l T R I a0 lo hi d i o := by
  intro p vals W h1 h2 hI hdeps
  have hfd : (finO l o vals a0).defers = a0.defers := fin_defers _ _ _ _
  have slot : ∀ v, slotOf o ((finO l o vals a0).put o.dst v) = keep o v := by
    intro v
    unfold slotOf keep
    cases hdst : o.dst with
    | none => rfl
    | some t => simp only [Array.getD_eq_getD_getElem?, put_same _ t v (show t < (finO l o vals a0).tmps.size by unfold finO; rw [fin_size]; exact hd t hdst), Option.getD_some]
  have slotU : slotOf o ((finO l o vals a0).put o.dst undef) = undef := by
    rw [slot]
    unfold keep
    cases o.dst <;> rfl
  unfold wpList
  rcases h p vals W _ ⟨rfl, hdis, hsz⟩ h1 h2 hI hdeps with ⟨hw, hJ, hT⟩ | ⟨hw, h⟩
  · rw [if_neg (by rw [hw]; decide)]
    exact ⟨rfl, by rw [put_defers, hfd], hR _ _ _, by rw [slotU]; exact ⟨hT, hJ⟩⟩
  · rw [if_pos hw]
    refine .inl ?_
    unfold Oper.wp
    rcases h with ⟨v, hrun, hJ, hT⟩ | ⟨v, W', hrun, hl, hJ, hT⟩ | ⟨f, args, hrun, hc⟩ | ⟨W', hrun, hl, hJ, hT⟩
    · rw [hrun]
      exact ⟨rfl, by rw [put_defers, hfd], hR _ _ _, by rw [slot]; exact ⟨hT, hJ⟩⟩
    · rw [hrun]
      exact ⟨rfl, by rw [put_defers, hfd], hl, by rw [slot]; exact ⟨hT, hJ⟩⟩
    · rw [hrun]
      refine Calls.mono hc fun e W' ⟨v, he, hl, hJ, hT⟩ => ?_
      subst he
      exact ⟨rfl, by rw [put_defers, hfd], hl, by rw [slot]; exact ⟨hT, hJ⟩⟩
    · rw [hrun]
      exact ⟨rfl, by rw [put_defers, hfd], hl, by rw [slotU]; exact ⟨hT, hJ⟩⟩
def OblsGV (till : Nat → Nat) (n : Nat) (P : Program) (l : List Oper) (T : Nat → Value → World → Prop) (R : Nat → Nat → World → World → Prop) (I : Nat → (Nat → Value) → World → Prop) (a0 : Act) (effs los his : List Nat) : Nat → List Oper → Prop
  | _, [] => True
  | k, o :: os => OblGV till n P l T R I a0 (los.getD k 0) (his.getD k 0) (effN effs k) k o ∧ OblsGV till n P l T R I a0 effs los his (k + 1) os
theorem oblsG_getV {till : Nat → Nat} {effs los his : List Nat} (hR : ∀ p d W, R p d W W) (hsz : a0.tmps.size = n) (hdis : distinctB l = true) : ∀ (m : List Oper) (k : Nat), dstsB2 m a0.tmps.size = true → OblsGV till n P l T R I a0 effs los his k m →
    ∀ i o, m[i]? = some o → OblPV till P l T R I a0 (los.getD (k + i) 0) (his.getD (k + i) 0) (effN effs (k + i)) (k + i) o
  | [], _, _, _, i, o, h => by simp at h
  | x :: m, k, hb, hO, 0, o, h => by
    have e : x = o := by simpa using h
    subst e
    unfold dstsB2 at hb
    rw [List.all_cons, Bool.and_eq_true] at hb
    exact oblP_ofV hR hsz hdis (fun t ht => by have := hb.1; rw [ht] at this; simpa using this) hO.1
  | x :: m, k, hb, hO, i + 1, o, h => by
    unfold dstsB2 at hb
    rw [List.all_cons, Bool.and_eq_true] at hb
    have := oblsG_getV hR hsz hdis m (k + 1) hb.2 hO.2 i o (by simpa using h)
    rw [show k + (i + 1) = k + 1 + i by omega]
    exact this
end
theorem wp_region_phasedV {P : Program} {Q : Exit → Act → World → Prop} {id : Nat} {l : List Oper} {a0 : Act} {w0 : World} (n : Nat) (hn : a0.tmps.size = n) (R : Nat → Nat → World → World → Prop) (I : Nat → (Nat → Value) → World → Prop) (Ts : List (TyP R)) (effs los his : List Nat) (hm : P.follows .mixedOrders = true)
    (hf : fineB l n effs los his = true) (hfr : fromB (Ts.map fun t => t.from_) los effs = true) (hR : ∀ p d W, R p d W W) (h0 : I 0 (fun _ => undef) w0.drew) (hobl : OblsGV (fun i => (Ts.map fun t => t.till_).getD i 1000) n P l (TyP.of Ts) R I a0 effs los his 0 l)
    (hend : ∀ vals W F, AllIn n l vals a0 F → F.defers = a0.defers → I effs.length vals W → (∀ j, j < l.length → effs.length ≤ (Ts.map fun t => t.till_).getD j 1000 → TyP.of Ts j (vals j) W) → Q .normal F W) : (Code.region id l.toArray true).wp P Q a0 w0 := by
  simp only [fineB, Bool.and_eq_true] at hf
  obtain ⟨hsel, hdis, hwait, hbeh, hdst, hnd, hlo, hhi, heff, hins⟩ := hf
  have hin : ∀ (q j : Nat), effs[q]? = some j → j < l.length := fun q j hq => by
    have := List.all_eq_true.1 hins j (List.mem_of_getElem? hq)
    simpa using this
  refine wp_region_any hm ?_
  have e : l.toArray.size = l.length := by simp
  rw [e]
  refine any_phasedV (a0 := a0) (effs := effs) (los := los) (his := his) (fun i => (Ts.map fun t => t.till_).getD i 1000) (TyP.of_mono hfr) hsel hdis hwait hbeh hnd hlo hhi heff (fun i o ho => by
    have := oblsG_getV hR hn hdis l 0 (by rw [hn]; exact hdst) hobl i o ho
    rwa [Nat.zero_add] at this) hin (fun i o t ho hd => by
    have h := List.all_eq_true.1 hdst o (List.mem_of_getElem? ho)
    rw [hd] at h
    rw [hn]
    simpa using h) (fun vals W hI h => hend vals W _ ⟨rfl, hdis, hn⟩ (fin_defers _ _ _ _) hI h) _ _ 0 (fun _ => undef) a0 _ ⟨⟨by simp, fun j oj _ hl => absurd hl (by rw [getD_replicate_false]; decide), fun q j hq => ⟨fun hl => absurd hl (by rw [getD_replicate_false]; decide), fun h => by omega⟩, by omega⟩, h0, rfl, rfl, fun j hj => absurd hj (by rw [getD_replicate_false]; decide), fun _ _ => rfl, fun j o t _ _ _ hj => absurd hj (by rw [getD_replicate_false]; decide), fun _ _ _ _ _ _ => rfl⟩ (by
    unfold left
    exact Nat.le_trans List.countP_le_length (by simp))

end Go.Proofs.Ytijobhpmaenjlaa
