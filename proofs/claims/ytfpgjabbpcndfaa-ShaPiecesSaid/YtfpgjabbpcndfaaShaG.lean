/- What a sum becomes by pieces; the pieces' iterator as a loop's seat. No condition but the sizes. -/
import Derived.Test.YtfpgjabbpcndfaaShaF
namespace Go.Proofs.Ytfpgjabbpcndfaa.Oct
set_option linter.unusedVariables false
set_option linter.unusedSimpArgs false
open Go.Proofs.Ytfpgjabbpcndfaa Go.RowKit Go.Lib Go.Shelf

theorem pieces_any (A : Option Addr) (L c : Nat) (room : Nat) (w : World) : Calls Try.prog 29 #[.slice A L c, .int .i64 room] w fun e w' =>
    e = .returned (.func (.func 31) #[] #[.pointer (some ⟨w.heap.size, 0, none⟩), .pointer (some ⟨w.heap.size + 1, 0, none⟩)]) ∧ w' = (w.alloc (.cells #[.slice A L c] 22)).alloc (.cells #[.int .i64 room] 3) := by
  go_enter Try.func29, Try.ntmps29
  go_wp2
  go_ret
  exact ⟨rfl, rfl⟩

def Kp2 (Bb Br : Nat) (A B : World) : Prop := B.heap[Bb]? = A.heap[Bb]? ∧ B.heap[Br]? = A.heap[Br]?
theorem Kp2.trans {Bb Br : Nat} {A B C : World} (h : Kp2 Bb Br A B) (k : Kp2 Bb Br B C) : Kp2 Bb Br A C := ⟨k.1.trans h.1, k.2.trans h.2⟩
theorem pcs_stops (n : Nat) (hn : 1 ≤ n) (Bb Br : Nat) (hne : Bb ≠ Br) (A : Option Addr) (c room L : Nat) (hA : A = none ∨ ∃ b off, A = some ⟨b, off, none⟩) (hA0 : A = none → L = 0) (hLc : L ≤ c) (hLm : L < 1152921504606846976) (hr1 : 1 ≤ room) (hr2 : room ≤ 64)
    (w : World) (hb : w.heap[Bb]? = some (.cells #[.slice A L c] 22 (0, 0))) (hr : w.heap[Br]? = some (.cells #[.int .i64 (room : Int)] 3 (0, 0))) :
    SeqOwn Fence.wide n Try.prog 31 #[.pointer (some ⟨Bb, 0, none⟩), .pointer (some ⟨Br, 0, none⟩)] (encP A c room L) (Own2 Bb Br) (Kp2 Bb Br) (fun xs => ∃ k, pst room L k = L ∧ xs = List.range k) (fun _ => True) (L + 1) w := fun l J Jx W hW hJo hY h0 => by
  refine (pcs_in n hn l Bb Br hne A c room L hA hA0 hLc hLm hr1 hr2 J Jx hJo hY W ((hW.block _ (Array.getElem?_eq_some_iff.1 hb).1).trans hb) ((hW.block _ (Array.getElem?_eq_some_iff.1 hr).1).trans hr) h0).mono ?_
  rintro e W' ⟨he, ⟨k, hk, hj⟩ | ⟨pre, hj⟩⟩
  · exact ⟨he, .inl ⟨_, ⟨k, hk, rfl⟩, hj⟩⟩
  · exact ⟨he, .inr ⟨_, trivial, hj⟩⟩

/-! What a sum becomes: its state, the block that is not full, and how much of it is used. -/
abbrev Sm := St × List UInt8 × Nat
def mixT (x : Sm) (p : List UInt8) : List UInt8 := x.2.1.take x.2.2 ++ p.take (min (64 - x.2.2) p.length) ++ x.2.1.drop (x.2.2 + min (64 - x.2.2) p.length)
def stepS (x : Sm) (p : List UInt8) : Sm :=
  if x.2.2 + min (64 - x.2.2) p.length < 64 then (x.1, mixT x p, x.2.2 + min (64 - x.2.2) p.length) else (comp x.1 (mixT x p), mixT x p, 0)
def okS (x : Sm) : Prop := okSt x.1 ∧ x.2.1.length = 64 ∧ x.2.2 < 64
theorem mixT_length (x : Sm) (p : List UInt8) (h : okS x) : (mixT x p).length = 64 := by
  obtain ⟨_, h2, h3⟩ := h
  unfold mixT
  simp only [List.length_append, List.length_take, List.length_drop, h2]
  omega
theorem okS_step (x : Sm) (p : List UInt8) (h : okS x) : okS (stepS x p) := by
  have hl := mixT_length x p h
  unfold stepS
  split
  · rename_i hq
    exact ⟨h.1, hl, hq⟩
  · exact ⟨okSt_comp _ _, hl, show (0 : Nat) < 64 by omega⟩
def pieceB (bs : List UInt8) (room j : Nat) : List UInt8 := (bs.drop (pst room bs.length j)).take (plen room bs.length (pst room bs.length j) j)
def stS (x : Sm) (bs : List UInt8) (room : Nat) (pre : List Nat) : Sm := pre.foldl (fun y j => stepS y (pieceB bs room j)) x
theorem stS_snoc (x : Sm) (bs : List UInt8) (room : Nat) (pre : List Nat) (j : Nat) : stS x bs room (pre ++ [j]) = stepS (stS x bs room pre) (pieceB bs room j) := by simp [stS]
theorem okS_st (x : Sm) (bs : List UInt8) (room : Nat) (pre : List Nat) (h : okS x) : okS (stS x bs room pre) := by
  induction pre generalizing x with
  | nil => exact h
  | cons j pre ih => exact ih _ (okS_step _ _ h)
/-- It is the sum of the message m. -/
structure Rep (m : List UInt8) (x : Sm) : Prop where
  st : x.1 = stOf m
  u : x.2.2 = m.length % 64
  len : x.2.1.length = 64
  tl : x.2.1.take x.2.2 = m.drop (m.length / 64 * 64)
theorem okSt_stOf (m : List UInt8) : okSt (stOf m) := by
  unfold stOf
  generalize m.length / 64 = n
  have : ∀ (n : Nat) (s : St) (m : List UInt8), okSt s → okSt (fold s n m) := by
    intro n
    induction n with
    | zero => intro s m h; exact h
    | succ n ih => intro s m h; exact ih _ _ (okSt_comp _ _)
  exact this n squ m okSt_squ
theorem Rep.ok {m : List UInt8} {x : Sm} (h : Rep m x) : okS x := ⟨by rw [h.st]; exact okSt_stOf m, h.len, by rw [h.u]; omega⟩
theorem Rep.step {m : List UInt8} {x : Sm} (h : Rep m x) (p : List UInt8) (hp : p.length ≤ 64 - x.2.2) : Rep (m ++ p) (stepS x p) := by
  obtain ⟨s, tl, u⟩ := x
  obtain ⟨hs, hu, hl, ht⟩ := h
  simp only at hs hu hl ht hp
  have hq : min (64 - u) p.length = p.length := by omega
  have hdm := Nat.div_add_mod m.length 64
  unfold stepS mixT
  simp only [hq, List.take_length]
  have htl : (tl.take u).length = u := by rw [List.length_take]; omega
  by_cases hlt : u + p.length < 64
  · rw [if_pos hlt]
    refine ⟨?_, ?_, ?_, ?_⟩
    · show s = stOf (m ++ p)
      rw [hs, stOf_short m p (by omega)]
    · show u + p.length = (m ++ p).length % 64
      rw [List.length_append]
      omega
    · show (tl.take u ++ p ++ tl.drop (u + p.length)).length = 64
      simp only [List.length_append, List.length_take, List.length_drop, hl]
      omega
    · show (tl.take u ++ p ++ tl.drop (u + p.length)).take (u + p.length) = (m ++ p).drop ((m ++ p).length / 64 * 64)
      rw [List.take_append_of_le_length (by simp only [List.length_append, htl]; omega), List.take_of_length_le (by simp only [List.length_append, htl]; omega)]
      rw [List.length_append, show (m.length + p.length) / 64 * 64 = m.length / 64 * 64 by omega, List.drop_append_of_le_length (by omega), ht]
  · rw [if_neg hlt]
    have h64 : u + p.length = 64 := by omega
    have hdr : tl.drop (u + p.length) = [] := List.drop_of_length_le (by omega)
    refine ⟨?_, ?_, ?_, ?_⟩
    · show comp s (tl.take u ++ p ++ tl.drop (u + p.length)) = stOf (m ++ p)
      rw [hdr, List.append_nil, ht, hs, stOf_full m p (by omega)]
    · show 0 = (m ++ p).length % 64
      rw [List.length_append]
      omega
    · show (tl.take u ++ p ++ tl.drop (u + p.length)).length = 64
      rw [hdr]
      simp only [List.length_append, List.length_nil, htl]
      omega
    · show (tl.take u ++ p ++ tl.drop (u + p.length)).take 0 = (m ++ p).drop ((m ++ p).length / 64 * 64)
      rw [List.take_zero, List.length_append, List.drop_of_length_le]
      rw [List.length_append]
      omega
theorem pieceB_length (bs : List UInt8) (room j : Nat) : (pieceB bs room j).length = plen room bs.length (pst room bs.length j) j := by
  unfold pieceB plen
  rw [List.length_take, List.length_drop]
  omega
theorem take_piece (bs : List UInt8) (room j : Nat) : bs.take (pst room bs.length j) ++ pieceB bs room j = bs.take (pst room bs.length (j + 1)) := by
  unfold pieceB
  rw [pst, List.take_add]
theorem Rep.pieces {m : List UInt8} {x : Sm} (h : Rep m x) (bs : List UInt8) (room : Nat) (hroom : room = 64 - x.2.2) (k : Nat) :
    Rep (m ++ bs.take (pst room bs.length k)) (stS x bs room (List.range k)) ∧ (k = 0 ∨ pst room bs.length k = bs.length ∨ (m.length + pst room bs.length k) % 64 = 0) := by
  have hu := h.u
  induction k with
  | zero => exact ⟨by rw [pst, List.take_zero, List.append_nil]; exact h, .inl rfl⟩
  | succ k ih =>
    obtain ⟨ih1, ih2⟩ := ih
    rw [List.range_succ, stS_snoc, ← take_piece, ← List.append_assoc]
    have hu2 := ih1.u
    have hle := pst_le room bs.length k
    rw [List.length_append, List.length_take, Nat.min_eq_left hle] at hu2
    refine ⟨ih1.step _ ?_, .inr ?_⟩
    · rw [pieceB_length, hu2]
      rcases ih2 with rfl | h2 | h2
      · simp only [plen, pst, if_true] at *
        omega
      · unfold plen
        omega
      · rw [h2]
        unfold plen
        split
        · rename_i hk
          subst hk
          simp only [pst] at h2
          omega
        · omega
    · rw [pst]
      rcases ih2 with rfl | h2 | h2
      · simp only [plen, pst, if_true] at *
        omega
      · unfold plen
        omega
      · unfold plen
        split
        · rename_i hk
          subst hk
          simp only [pst] at *
          omega
        · omega
theorem SumIn.rep {W : World} {g : Nat} {m : List UInt8} {n : Nat} (h : SumIn W g m n) : ∃ x : Sm, Rep m x ∧ W.heap[g]? = some (.cells (sumc x.1 x.2.1 x.2.2 n) 49 (0, 0)) := by
  obtain ⟨tl, h1, h2, h3⟩ := h
  exact ⟨(stOf m, tl, m.length % 64), ⟨rfl, rfl, h1, h2⟩, h3⟩
theorem Rep.sumIn {W : World} {g : Nat} {m : List UInt8} {n : Nat} {x : Sm} (h : Rep m x) (hg : W.heap[g]? = some (.cells (sumc x.1 x.2.1 x.2.2 n) 49 (0, 0))) : SumIn W g m n := by
  obtain ⟨s, tl, u⟩ := x
  obtain ⟨hs, hu, hl, ht⟩ := h
  simp only at hs hu hl ht hg
  subst hs hu
  exact ⟨tl, hl, ht, hg⟩
end Go.Proofs.Ytfpgjabbpcndfaa.Oct
