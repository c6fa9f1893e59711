/- What is told of reading and writing sizes, and byte strings; pens beside each other. No condition. -/
import Derived.Test.YtngkckngjobojaaOctK
namespace Go.Proofs.Ytngkckngjobojaa.Oct
open Go.Proofs.Ytngkckngjobojaa Go.RowKit Go.Shelf

theorem size_back {bs : List UInt8} (h : (szOf bs).2.2 = true) : sizeB (szOf bs).1 = bs.take (szOf bs).2.1 := by
  cases bs with
  | nil => cases h
  | cons x l =>
    have hx := UInt8.toNat_lt x
    unfold szOf at *
    simp only at *
    by_cases h1 : (x :: l).length < annL x
    · rw [if_pos h1] at h; cases h
    · rw [if_neg h1] at h ⊢
      by_cases h2 : annL x = 1
      · rw [if_pos h2]
        have : x.toNat < 253 := by
          unfold annL at h2
          by_cases a : x.toNat = 253
          · rw [if_pos a] at h2; omega
          · by_cases b : x.toNat = 254
            · rw [if_neg a, if_pos b] at h2; omega
            · by_cases c : x.toNat = 255
              · rw [if_neg a, if_neg b, if_pos c] at h2; omega
              · omega
        simp only [sizeB, if_pos this, leB, List.take_succ_cons, List.take_zero]
        rw [show x.toNat % 256 = x.toNat by omega]
        simp
      · rw [if_neg h2] at h ⊢
        simp only at h ⊢
        have hc : cmpL (leNum (l.take (annL x - 1))) = annL x := by simpa using h
        have hlen : (l.take (annL x - 1)).length = annL x - 1 := by
          simp only [List.length_cons] at h1
          rw [List.length_take]
          omega
        have hb := leB_leNum (l.take (annL x - 1))
        rw [hlen] at hb
        obtain ⟨n, hn⟩ : ∃ n, leNum (l.take (annL x - 1)) = n := ⟨_, rfl⟩
        rw [hn] at hc hb ⊢
        have hxe : ∀ m : Nat, x.toNat = m → x = UInt8.ofNat m := fun m hm => by subst hm; simp
        obtain ⟨L, hL⟩ : ∃ L, annL x = L := ⟨_, rfl⟩
        rw [hL] at hc hb h2 ⊢
        unfold annL at hL
        unfold cmpL at hc
        unfold sizeB
        by_cases a : x.toNat = 253
        · rw [if_pos a] at hL
          subst hL
          have hge : ¬ n < 253 := fun hq => by rw [if_pos hq] at hc; omega
          have hlt : n < 65536 := by
            rw [if_neg hge] at hc
            rcases Nat.lt_or_ge n 65536 with h | h
            · exact h
            · rw [if_neg (by omega)] at hc
              split at hc <;> omega
          rw [if_neg hge, if_pos hlt]
          have e := hxe _ a
          subst e
          simp only [Nat.reduceSub] at hb
          rw [hb]
          rfl
        · rw [if_neg a] at hL
          by_cases b : x.toNat = 254
          · rw [if_pos b] at hL
            subst hL
            have hge : ¬ n < 253 := fun hq => by rw [if_pos hq] at hc; omega
            have hge2 : ¬ n < 65536 := fun hq => by rw [if_neg hge, if_pos hq] at hc; omega
            have hlt : n < 4294967296 := by
              rw [if_neg hge, if_neg hge2] at hc
              rcases Nat.lt_or_ge n 4294967296 with h | h
              · exact h
              · rw [if_neg (by omega)] at hc; omega
            rw [if_neg hge, if_neg hge2, if_pos hlt]
            have e := hxe _ b
            subst e
            simp only [Nat.reduceSub] at hb
            rw [hb]
            rfl
          · rw [if_neg b] at hL
            by_cases c : x.toNat = 255
            · rw [if_pos c] at hL
              subst hL
              have hge : ¬ n < 253 := fun hq => by rw [if_pos hq] at hc; omega
              have hge2 : ¬ n < 65536 := fun hq => by rw [if_neg hge, if_pos hq] at hc; omega
              have hge3 : ¬ n < 4294967296 := fun hq => by rw [if_neg hge, if_neg hge2, if_pos hq] at hc; omega
              rw [if_neg hge, if_neg hge2, if_neg hge3]
              have e := hxe _ c
              subst e
              simp only [Nat.reduceSub] at hb
              rw [hb]
              rfl
            · rw [if_neg c] at hL
              omega

/-- Another pen's writing. -/
theorem PenAt.other {base b c : Nat} {W W' : World} {cs : List UInt8} (h : PenAt base W c cs) (hs : PenStep b W W') (ho : Out W b c) (hr : ∀ k, rowOf W c = some k → Out W b k) : PenAt base W' c cs := by
  obtain ⟨hg, v, hh, hrow, hne⟩ := h
  rw [rowOf_at hh] at hr
  exact ⟨hg, v, by rw [(ho.step hs).2]; exact hh, ownsRow_same hrow fun k hk => ((hr k hk).step hs).2, hne⟩
theorem rowOf_lt {base b : Nat} {W : World} {bs : List UInt8} (h : PenAt base W b bs) {k : Nat} (hk : rowOf W b = some k) : base ≤ k ∧ k < W.heap.size ∧ ∃ cur, W.heap[k]? = some (.cells cur 5 (0, 0)) := by
  obtain ⟨_, v, hh, hrow, _⟩ := h
  rw [rowOf_at hh] at hk
  refine ⟨(hrow.lt k hk).1, (hrow.lt k hk).2, ?_⟩
  rcases hrow.2 with ⟨rfl, _⟩ | ⟨g, cap, cur, rfl, _, hg, _⟩
  · simp [Value.ownBlock] at hk
  · simp [Value.ownBlock] at hk
    subst hk
    exact ⟨cur, hg⟩
/-- No pen is another pen's row. -/
theorem out_pen {base base' b c : Nat} {W : World} {bs cs : List UInt8} (hb : PenAt base W b bs) (hc : PenAt base' W c cs) (hne : b ≠ c) : Out W b c := by
  refine ⟨hc.lt, fun e => hne e.symm, fun hr => ?_⟩
  obtain ⟨_, _, cur, hcur⟩ := rowOf_lt hb hr
  obtain ⟨_, v, hh, _⟩ := hc
  rw [hcur] at hh
  simp at hh
/-- A pen that has written nothing. -/
def Blank (W : World) (c : Nat) : Prop := W.heap[c]? = some (.cells #[.slice none 0 0] 27 (0, 0))
theorem Blank.pen {base c : Nat} {W : World} (h : Blank W c) (hb : base ≤ c) : PenAt base W c [] := ⟨hb, _, h, World.ownsRow_nil _ _ _ _, by simp [Value.ownBlock]⟩
theorem Blank.new (W : World) : Blank (W.alloc (.cells #[.slice none 0 0] 27)) W.heap.size := heap_alloc_new _ _
theorem Blank.below {W W' : World} {c : Nat} (h : Blank W c) (hb : Below W.heap.size W W') : Blank W' c := (hb.block c (Array.getElem?_eq_some_iff.1 h).1).trans h
theorem Blank.other {base b c : Nat} {W W' : World} {bs : List UInt8} (h : Blank W c) (hb : PenAt base W b bs) (hne : b ≠ c) (hs : PenStep b W W') : Blank W' c :=
  ((out_pen hb (h.pen (Nat.zero_le _)) hne).step hs).2.trans h
theorem PenAt.blank {base b c : Nat} {W W' : World} {bs : List UInt8} (hb : PenAt base W b bs) (h : Blank W c) (hne : b ≠ c) (hs : PenStep c W W') : PenAt base W' b bs := by
  refine hb.other hs (out_pen (h.pen (Nat.zero_le _)) hb (fun e => hne e.symm)) fun k hk => ?_
  obtain ⟨_, hlt, cur, hcur⟩ := rowOf_lt hb hk
  refine ⟨hlt, fun e => ?_, by rw [rowOf_at h]; simp [Value.ownBlock]⟩
  subst e
  rw [h] at hcur
  simp at hcur
section
variable (ρ : Operand → Value) (dst : Option Tmp) (x lo hi : Operand) (type : TypeId) (pos : String) (after : Array Edge) (guard : Option (Nat × Bool))
theorem slice_to (A : Option Addr) (len cap j : Nat) (hA : (A = none ∧ len = 0) ∨ ∃ b off, A = some ⟨b, off, none⟩) (hx : ρ x = .slice A len cap) (hhi : ρ hi = .int .i64 (j : Int))
    (hjl : j ≤ len) (hl : len ≤ cap) (W : World) : (execOp ρ { dst, op := .slice 25 x none (some hi) none, type, pos, after, guard }).run Try.prog W = .ok (.value (.slice A j cap)) W := by
  have hjc : j ≤ cap := by omega
  rcases hA with ⟨rfl, rfl⟩ | ⟨b, off, rfl⟩
  · have hj0 : j = 0 := by omega
    subst hj0
    simp [execOp, go_sem, hx, hhi]
  · simp [execOp, go_sem, hx, hhi]
    intro h
    omega
end
theorem Holds8.where_ {n : Nat} {W : World} {A : Option Addr} {bs : List UInt8} (h : Holds8 n W A bs) : (A = none ∧ bs.length = 0) ∨ ∃ b off, A = some ⟨b, off, none⟩ := by
  rcases h with ⟨rfl, rfl⟩ | ⟨b, off, rfl, _⟩
  · exact .inl ⟨rfl, rfl⟩
  · exact .inr ⟨b, off, rfl⟩
/-- A string of bytes that lie in memory. -/
theorem conv_str (ρ : Operand → Value) (dst : Option Tmp) (x : Operand) (type : TypeId) (pos : String) (after : Array Edge) (guard : Option (Nat × Bool)) {n : Nat} {W : World} {A : Option Addr} {bs : List UInt8} (h : Holds8 n W A bs) (l c : Nat) (hl : l = bs.length) (hx : ρ x = .slice A l c) :
    (execOp ρ { dst, op := .convert 25 9 x, type, pos, after, guard }).run Try.prog W = .ok (.value (.string ⟨bs.toArray⟩)) W := by
  subst hl
  have := str_of h c
  simp [execOp, go_sem, hx, this]
end Go.Proofs.Ytngkckngjobojaa.Oct
