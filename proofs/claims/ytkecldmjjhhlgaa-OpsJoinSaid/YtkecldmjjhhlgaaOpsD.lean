/- A script's operations, as a function of its bytes; the contracts of ops.Split by it, of ops.Same, and of the statements' splits and alive. No condition beyond the memory's reach. -/
import Derived.Test.YtkecldmjjhhlgaaOpsC
import Derived.Laws.IdiomStrings
namespace Go.Proofs.Ytkecldmjjhhlgaa.Oct
open Go.Proofs.Ytkecldmjjhhlgaa Go.RowKit Go.Shelf
def splitL (u : List UInt8) : Option (List (UInt8 × List UInt8)) :=
  match u with
  | [] => some []
  | x :: l => if (ext (x :: l)).1 + (ext (x :: l)).2 ≤ (x :: l).length then (splitL ((x :: l).drop ((ext (x :: l)).1 + (ext (x :: l)).2))).map ((x, ((x :: l).drop (ext (x :: l)).1).take (ext (x :: l)).2) :: ·) else none
termination_by u.length
decreasing_by
  have := (ext_pos (x :: l)).1
  simp only [List.length_drop, List.length_cons]
  omega
theorem splitL_at (s : List UInt8) (p : Nat) (hp : p < s.length) : splitL (s.drop p) = if aft s p ≤ s.length then (splitL (s.drop (aft s p))).map (opAt s p :: ·) else none := by
  have hd : s.drop p = s[p] :: s.drop (p + 1) := List.drop_eq_getElem_cons hp
  have hl : (s.drop p).length = s.length - p := List.length_drop
  have hx : s.getD p 0 = s[p] := by simp [List.getD, hp]
  obtain ⟨u, hu⟩ : ∃ u, s.drop p = u := ⟨_, rfl⟩
  obtain ⟨l, hl2⟩ : ∃ l, s.drop (p + 1) = l := ⟨_, rfl⟩
  rw [hu] at hd hl
  rw [hl2] at hd
  have ha : aft s p = p + ((ext u).1 + (ext u).2) := by unfold aft; rw [hu]; omega
  have e1 : s.drop (p + ((ext u).1 + (ext u).2)) = u.drop ((ext u).1 + (ext u).2) := by rw [← List.drop_drop, hu]
  have e2 : opAt s p = (s[p], (u.drop (ext u).1).take (ext u).2) := by
    unfold opAt
    rw [hx, ← List.drop_drop, hu]
  rw [hu, ha, e1, e2]
  rw [hd] at hl ⊢
  rw [splitL]
  by_cases h : (ext (s[p] :: l)).1 + (ext (s[p] :: l)).2 ≤ (s[p] :: l).length
  · rw [if_pos h, if_pos (by omega)]
  · rw [if_neg h, if_neg (by omega)]
theorem split_yes (s : List UInt8) (k : Nat) (hk : posN s k = s.length) (hf : ∀ p ∈ poss s k, aft s p ≤ s.length) : splitL s = some ((poss s k).map (opAt s)) := by
  have key : ∀ d i, i + d = k → splitL (s.drop (posN s i)) = some ((List.range d).map fun t => opAt s (posN s (i + t))) := by
    intro d
    induction d with
    | zero =>
      intro i hi
      have : i = k := by omega
      subst this
      rw [hk, List.drop_length]
      unfold splitL
      rfl
    | succ d ih =>
      intro i hi
      have hm : posN s i ∈ poss s k := List.mem_map.2 ⟨i, List.mem_range.2 (by omega), rfl⟩
      have h1 := hf _ hm
      have h2 := (ext_pos (s.drop (posN s i))).1
      have h3 : posN s i < s.length := by unfold aft at h1; omega
      rw [splitL_at s _ h3, if_pos h1]
      have h4 := ih (i + 1) (by omega)
      have h5 : aft s (posN s i) = posN s (i + 1) := rfl
      rw [h5, h4, Option.map_some, List.range_succ_eq_map]
      simp only [List.map_cons, List.map_map, Nat.add_zero]
      congr 2
      apply List.map_congr_left
      intro t _
      simp only [Function.comp]
      rw [show i + 1 + t = i + (t + 1) by omega]
  have h0 := key k 0 (by omega)
  have h1 : posN s 0 = 0 := rfl
  rw [h1, List.drop_zero] at h0
  rw [h0]
  unfold poss
  rw [List.map_map]
  congr 2
  funext t
  simp
theorem split_no (s : List UInt8) (k : Nat) (h1 : posN s k < s.length) (h2 : s.length < posN s (k + 1)) : splitL s = none := by
  have hmono : ∀ d i, i + d = k → posN s i ≤ posN s k := by
    intro d
    induction d with
    | zero => intro i hi; have : i = k := by omega
              subst this; exact Nat.le_refl _
    | succ d ih =>
      intro i hi
      have h3 := ih (i + 1) (by omega)
      have h4 : posN s (i + 1) = posN s i + (ext (s.drop (posN s i))).1 + (ext (s.drop (posN s i))).2 := rfl
      omega
  have key : ∀ d i, i + d = k → splitL (s.drop (posN s i)) = none := by
    intro d
    induction d with
    | zero =>
      intro i hi
      have : i = k := by omega
      subst this
      have h5 : aft s (posN s i) = posN s (i + 1) := rfl
      rw [splitL_at s _ h1, if_neg (by omega)]
    | succ d ih =>
      intro i hi
      have h3 := hmono (d + 1) i hi
      rw [splitL_at s _ (by omega)]
      split
      · have h5 : aft s (posN s i) = posN s (i + 1) := rfl
        rw [h5, ih (i + 1) (by omega)]
        rfl
      · rfl
  have h0 := key k 0 (by omega)
  have h3 : posN s 0 = 0 := rfl
  rwa [h3, List.drop_zero] at h0
/-- What Split answers. -/
def SplitR (w : World) (s : List UInt8) (e : Ending) (w' : World) : Prop :=
  Below w.heap.size w w' ∧ ((∃ L v rs, splitL s = some L ∧ e = .returned (.tuple #[v, .int .i64 0]) ∧ w'.ownsRow w.heap.size 32 2 v rs.length (pvRow rs) ∧ rs.map PV.is = L ∧ (∀ p ∈ rs, Holds8 w'.heap.size w' p.A p.b ∧ ∀ a, p.A = some a → w.heap.size ≤ a.block ∧ v.ownBlock ≠ some a.block)) ∨
    (splitL s = none ∧ e = .returned (.tuple #[.slice none 0 0, .int .i64 100])))
theorem split_is (s : List UInt8) (n : Nat) (hn : n = s.length) (A : Option Addr) (c n₀ : Nat) (w : World) (hsl : s.length ≤ 1000000) (hsc : s.length ≤ c) (hcm : c ≤ 9223372036854775807) (hh : Holds8 n₀ w A s) (hn0 : n₀ ≤ w.heap.size) :
    Calls Try.prog 9 #[.slice A n c] w (SplitR w s) := by
  subst hn
  refine (split_any s A c n₀ w hsl hsc hcm hh hn0).mono fun e w' h => ?_
  obtain ⟨h1, ⟨k, v, rs, h2, h3, h4, h5, h6, h7⟩ | ⟨⟨k, h2, h3⟩, h4⟩⟩ := h
  · exact ⟨h1, .inl ⟨_, v, rs, split_yes s k h2 h3, h4, h5, h6, h7⟩⟩
  · exact ⟨h1, .inr ⟨split_no s k h2 h3, h4⟩⟩
/-- A list of operations in memory. -/
structure PvsAt (n₀ : Nat) (W : World) (PA : Option Addr) (l : List PV) : Prop where
  cells : ∀ k (h : k < l.length), ∃ b off, PA = some ⟨b, off, none⟩ ∧ b < n₀ ∧ W.cell? ⟨b, off + k * 2, none⟩ = some (.int .u8 (l[k].code.toNat : Int)) ∧ W.cell? ⟨b, off + k * 2 + 1, none⟩ = some (.slice l[k].A l[k].b.length l[k].c)
  held : ∀ p ∈ l, Bytes8 n₀ W p.A p.b
theorem PvsAt.later {n₀ : Nat} {W W' : World} {PA : Option Addr} {l : List PV} (h : PvsAt n₀ W PA l) (hb : Below n₀ W W') : PvsAt n₀ W' PA l :=
  ⟨fun k hk => by
    obtain ⟨b, off, e, hl, c0, c1⟩ := h.cells k hk
    exact ⟨b, off, e, hl, (hb.cell (p := ⟨b, _, none⟩) hl).trans c0, (hb.cell (p := ⟨b, _, none⟩) hl).trans c1⟩, fun p hp => (h.held p hp).below hb (Nat.le_refl _)⟩
theorem pvRow_get (l : List PV) : ∀ (k : Nat) (h : k < l.length) (i : Nat), i < 2 → (pvRow l)[k * 2 + i]? = (pvCells l[k])[i]? := by
  induction l with
  | nil => intro k h; simp at h
  | cons o l ih =>
    intro k h i hi
    have e : pvRow (o :: l) = pvCells o ++ pvRow l := by simp [pvRow]
    rw [e]
    cases k with
    | zero =>
      rw [Nat.zero_mul, Nat.zero_add, List.getElem?_append_left (by simpa [pvCells] using hi)]
      rfl
    | succ k =>
      have hl2 : (pvCells o).length = 2 := rfl
      rw [List.getElem?_append_right (by rw [hl2]; omega), hl2, show (k + 1) * 2 + i - 2 = k * 2 + i by omega, ih k (by simpa using h) i hi]
      rfl
/-- A row of operations, as a list in memory. -/
theorem pvs_cur {W : World} {g : Nat} {cur : Array Value} {fr : Nat × Nat} (hh : W.heap[g]? = some (.cells cur 32 fr)) (l : List PV) (ht : cur.toList.take (l.length * 2) = pvRow l) (hd : ∀ p ∈ l, Bytes8 W.heap.size W p.A p.b) : PvsAt W.heap.size W (some ⟨g, 0, none⟩) l :=
  ⟨fun k hk => by
    have hc : ∀ i, i < 2 → W.cell? ⟨g, 0 + k * 2 + i, none⟩ = (pvCells l[k])[i]? := by
      intro i hi
      rw [Nat.zero_add, cell_of_row _ _ _ _ _ _ hh, ← pvRow_get l k hk i hi, ← ht, List.getElem?_take, if_pos (by omega)]
      simp
    exact ⟨g, 0, rfl, (Array.getElem?_eq_some_iff.1 hh).1, (hc 0 (by decide)).trans rfl, (hc 1 (by decide)).trans rfl⟩, hd⟩
theorem pvs_row {w W : World} {base n : Nat} {v : Value} {rs : List PV} (hn : n = rs.length) (h : W.ownsRow base 32 2 v n (pvRow rs)) (hd : ∀ p ∈ rs, Holds8 W.heap.size W p.A p.b) : ∃ PA c, v = .slice PA n c ∧ PvsAt W.heap.size W PA rs ∧ (∀ a, PA = some a → base ≤ a.block) := by
  subst hn
  rcases h.2 with ⟨rfl, h0⟩ | ⟨g, cap, cur, rfl, hb, hh, _, _, _, ht⟩
  · have : rs = [] := List.eq_nil_of_length_eq_zero h0
    subst this
    exact ⟨none, 0, rfl, ⟨fun k hk => by simp at hk, fun p hp => by cases hp⟩, fun a e => by cases e⟩
  · exact ⟨_, cap, rfl, pvs_cur hh rs ht fun p hp => .inl (hd p hp), fun a e => by cases e; exact hb⟩
set_option maxRecDepth 100000 in
set_option maxHeartbeats 1000000 in
theorem bytesEqual_any (xs ys : List UInt8) (A B : Option Addr) (c d n₀ : Nat) (w : World) (hx : Bytes8 n₀ w A xs) (hy : Bytes8 n₀ w B ys) : Calls Try.prog 42 #[.slice A xs.length c, .slice B ys.length d] w fun e w' => e = .returned (.bool (xs == ys)) ∧ w = w' := by
  have est1 := str_bytes hx c
  have est2 := str_bytes hy d
  clear hx hy
  go_enter Try.func42, Try.ntmps42
  go_wp2
  go_ret
  exact ⟨rfl, rfl⟩
set_option maxRecDepth 100000 in
set_option maxHeartbeats 1000000 in
theorem sameOp_any (p q : PV) (n₀ : Nat) (w : World) (hp : Bytes8 n₀ w p.A p.b) (hq : Bytes8 n₀ w q.A q.b) (hn : n₀ ≤ w.heap.size) :
    Calls Try.prog 37 #[.agg #[.int .u8 (p.code.toNat : Int), .slice p.A p.b.length p.c], .agg #[.int .u8 (q.code.toNat : Int), .slice q.A q.b.length q.c]] w fun e w' => e = .returned (.bool (p.is == q.is)) ∧ Below w.heap.size w w' := by
  have hb : Below w.heap.size w ((w.alloc (.cells #[.int .u8 (p.code.toNat : Int), .slice p.A p.b.length p.c] 32)).alloc (.cells #[.int .u8 (q.code.toNat : Int), .slice q.A q.b.length q.c] 32)) := ((Below.refl _ w).alloc (Nat.le_refl _) _).alloc (by simp) _
  have HE := Lib.hid (bytesEqual_any p.b q.b p.A q.A p.c q.c n₀ _ (hp.below (hb.mono hn) (Nat.le_refl _)) (hq.below (hb.mono hn) (Nat.le_refl _)))
  have HB := Lib.hid hb
  clear hb hp hq
  obtain ⟨pc, pA, pb, pcc⟩ := p
  obtain ⟨qc, qA, qb, qcc⟩ := q
  simp only at HE HB ⊢
  by_cases hc : pc = qc
  · subst hc
    have HR := Lib.hid (show (PV.is ⟨pc, pA, pb, pcc⟩ == PV.is ⟨pc, qA, qb, qcc⟩) = (pb == qb) by show ((pc == pc) && (pb == qb)) = _; simp)
    go_enter Try.func37, Try.ntmps37
    go_wp2_with (go_at_call 42; refine HE.out.mono ?_; rintro e w1 ⟨rfl, rfl⟩)
    go_ret
    exact ⟨by rw [HR.out]; rfl, HB.out⟩
  · have HR := Lib.hid (show (PV.is ⟨pc, pA, pb, pcc⟩ == PV.is ⟨qc, qA, qb, qcc⟩) = false by show ((pc == qc) && (pb == qb)) = _; simp [hc])
    have hne : ((pc.toNat : Int) == (qc.toNat : Int)) = false := by
      rw [beq_eq_false_iff_ne]
      intro e
      exact hc (UInt8.toNat_inj.1 (by omega))
    clear hc
    go_enter Try.func37, Try.ntmps37
    go_wp2
    go_ret
    exact ⟨by rw [HR.out]; rfl, HB.out⟩
def sameL (l m : List PV) : Bool := l.map PV.is == m.map PV.is
set_option maxRecDepth 100000 in
set_option maxHeartbeats 2000000 in
theorem equalFunc_any (l m : List PV) (n k : Nat) (hn : n = l.length) (hk : k = m.length) (LA MA : Option Addr) (c d n₀ : Nat) (w : World) (hl : PvsAt n₀ w LA l) (hm : PvsAt n₀ w MA m) (hn0 : n₀ ≤ w.heap.size) (hsz : l.length ≤ 1000000) :
    Calls Try.prog 36 #[.slice LA n c, .slice MA k d, .func (.func 37) #[] #[]] w fun e w' => e = .returned (.bool (sameL l m)) ∧ Below w.heap.size w w' := by
  by_cases hlen : n = k
  · have HLEN := Lib.hid (show l.length = m.length by omega)
    have HN := Lib.hid hn
    have HL := Lib.hid hl
    have HM := Lib.hid hm
    have hn6 : n ≤ 1000000 := by omega
    subst hlen
    clear hn hk hl hm hsz
    go_enter Try.func36, Try.ntmps36
    go_wp2
    go_loopw [17] (fun i wr => ∃ q : Nat, q ≤ n ∧ i = .int .i64 (q : Int) ∧ (l.take q).map PV.is = (m.take q).map PV.is ∧ Below w.heap.size w wr) (fun i _ => n - (intOf i).toNat)
    case atStart => exact ⟨0, Nat.zero_le _, rfl, rfl, Below.refl _ _⟩
    case round =>
      obtain ⟨q, hq, rfl, heq, hB⟩ := hrel
      by_cases hlt : q < n
      · have hql : q < l.length := by rw [← HN.out]; exact hlt
        have hqm : q < m.length := by rw [← HLEN.out]; exact hql
        obtain ⟨b1, o1, rfl, hb1, c1, c2⟩ := (HL.out.later (hB.mono hn0)).cells q hql
        obtain ⟨b2, o2, rfl, hb2, d1, d2⟩ := (HM.out.later (hB.mono hn0)).cells q hqm
        have hbw1 : b1 < w.heap.size := Nat.lt_of_lt_of_le hb1 hn0
        have hs1 : (l.take (q + 1)).map PV.is = (l.take q).map PV.is ++ [l[q].is] := by rw [List.take_succ_eq_append_getElem hql, List.map_append]; rfl
        have hs2 : (m.take (q + 1)).map PV.is = (m.take q).map PV.is ++ [m[q].is] := by rw [List.take_succ_eq_append_getElem hqm, List.map_append]; rfl
        have hp1 := (HL.out.later (hB.mono hn0)).held _ (List.getElem_mem hql)
        have hp2 := (HM.out.later (hB.mono hn0)).held _ (List.getElem_mem hqm)
        have hdiff : l[q].is ≠ m[q].is → sameL l m = false := fun h => by
          unfold sameL
          rw [beq_eq_false_iff_ne]
          intro e
          have e2 : (l.map PV.is)[q]? = (m.map PV.is)[q]? := by rw [e]
          simp only [List.getElem?_map, List.getElem?_eq_getElem hql, List.getElem?_eq_getElem hqm, Option.map_some, Option.some.injEq] at e2
          exact h e2
        obtain ⟨x, hx⟩ : ∃ x, l[q] = x := ⟨_, rfl⟩
        obtain ⟨y, hy⟩ : ∃ y, m[q] = y := ⟨_, rfl⟩
        rw [hx] at c1 c2 hs1 hp1 hdiff
        rw [hy] at d1 d2 hs2 hp2 hdiff
        have hbr1 : b1 < wr.heap.size := Nat.lt_of_lt_of_le hbw1 hB.size
        have hbr2 : b2 < wr.heap.size := Nat.lt_of_lt_of_le hb2 (Nat.le_trans hn0 hB.size)
        have hbo : Below wr.heap.size wr ((wr.alloc (.cells #[.int .u8 (x.code.toNat : Int), .slice x.A x.b.length x.c] 32)).alloc (.cells #[.int .u8 (y.code.toNat : Int), .slice y.A y.b.length y.c] 32)) := ((Below.refl _ _).alloc (Nat.le_refl _) _).alloc (by simp) _
        have hnw := Nat.le_trans hn0 hB.size
        have HSM := Lib.hid (sameOp_any x y n₀ _ (hp1.below (hbo.mono hnw) (Nat.le_refl _)) (hp2.below (hbo.mono hnw) (Nat.le_refl _)) (Nat.le_trans hnw hbo.size))
        have HBO := Lib.hid (hB.trans (hbo.mono hB.size))
        cases hxy : (x.is == y.is) with
        | true =>
          rw [hxy] at HSM
          have hxy2 : x.is = y.is := by simpa using hxy
          have HEQ := Lib.hid (show (l.take (q + 1)).map PV.is = (m.take (q + 1)).map PV.is by rw [hs1, hs2, heq, hxy2])
          clear hxy hxy2 hs1 hs2 heq hdiff hp1 hp2 hx hy hB hbo
          go_wp2_with (go_at_call 37; refine HSM.out.mono ?_; rintro e w1 ⟨rfl, hb9⟩; have HB9 := Lib.hid (HBO.out.trans (hb9.mono HBO.out.size)); clear hb9)
          refine ⟨⟨q + 1, by omega, by go_num, HEQ.out, HB9.out⟩, ?_⟩
          simp [intOf]
          omega
        | false =>
          rw [hxy] at HSM
          have HD := Lib.hid (hdiff (by simpa using hxy))
          clear hxy hs1 hs2 heq hdiff hp1 hp2 hx hy hB hbo
          go_wp2_with (go_at_call 37; refine HSM.out.mono ?_; rintro e w1 ⟨rfl, hb9⟩; have HB9 := Lib.hid (HBO.out.trans (hb9.mono HBO.out.size)); clear hb9)
          go_ret
          exact ⟨by rw [HD.out]; rfl, HB9.out⟩
      · obtain rfl : n = q := by omega
        have HS := Lib.hid (show sameL l m = true by
          rw [List.take_of_length_le (by rw [← HN.out]; exact Nat.le_refl _), List.take_of_length_le (by rw [← HLEN.out, ← HN.out]; exact Nat.le_refl _)] at heq
          unfold sameL
          rw [heq]
          simp)
        clear heq hq hlt
        go_wp2
        go_ret
        exact ⟨by rw [HS.out]; rfl, hB⟩
  · have HS := Lib.hid (show sameL l m = false by
      unfold sameL
      rw [beq_eq_false_iff_ne]
      intro e
      have := congrArg List.length e
      rw [List.length_map, List.length_map] at this
      omega)
    have hne : ((n : Int) != (k : Int)) = true := by rw [bne_iff_ne]; omega
    clear hlen hl hm hn hk
    go_enter Try.func36, Try.ntmps36
    go_wp2
    go_ret
    exact ⟨by rw [HS.out]; rfl, Below.refl _ _⟩
theorem same_any (l m : List PV) (n k : Nat) (hn : n = l.length) (hk : k = m.length) (LA MA : Option Addr) (c d n₀ : Nat) (w : World) (hl : PvsAt n₀ w LA l) (hm : PvsAt n₀ w MA m) (hn0 : n₀ ≤ w.heap.size) (hsz : l.length ≤ 1000000) :
    Calls Try.prog 19 #[.slice LA n c, .slice MA k d] w fun e w' => e = .returned (.bool (sameL l m)) ∧ Below w.heap.size w w' := by
  have HE := Lib.hid (equalFunc_any l m n k hn hk LA MA c d n₀ w hl hm hn0 hsz)
  clear hl hm hn hk
  go_enter Try.func19, Try.ntmps19
  go_wp2_with (go_at_call 36; refine HE.out.mono ?_; rintro e w1 ⟨rfl, hb⟩)
  go_ret
  exact ⟨rfl, hb⟩
end Go.Proofs.Ytkecldmjjhhlgaa.Oct
