/- The statements' splits and alive; the contracts of ops.Burnt and strings.HasPrefix at one letter. No condition. -/
import Derived.Test.YtkecldmjjhhlgaaOpsD
namespace Go.Proofs.Ytkecldmjjhhlgaa.Oct
open Go.Proofs.Ytkecldmjjhhlgaa Go.RowKit Go.Shelf
/-- '[]byte(s)'. -/
theorem conv_bytes (w : World) (S : List UInt8) (hS : S.length ≤ 1000000) : ∃ (G : Nat) (W : World), (convert 9 22 (.string ⟨S.toArray⟩)).run Try.prog w = .ok (.slice (some ⟨w.heap.size, 0, none⟩) S.length G) W ∧ Below w.heap.size w W ∧ Holds8 W.heap.size W (some ⟨w.heap.size, 0, none⟩) S ∧ S.length ≤ G ∧ G ≤ 9223372036854775807 := by
  have hsz : (⟨S.toArray⟩ : ByteArray).size = S.length := by simp [ByteArray.size]
  refine ⟨_, _, run_bytes_of_string w 9 22 5 ⟨S.toArray⟩ Try.underlying9 Try.underlying22 Try.underlying5, ?_, ?_, ?_, ?_⟩
  · exact ((Below.refl _ w).drew).alloc (Nat.le_refl _) _
  · refine .inr ⟨w.heap.size, 0, rfl, by simp, fun j hj => ?_⟩
    have hnew : ∀ o, (w.drew.alloc o).heap[w.heap.size]? = some o := fun o => World.alloc_heap_new w.drew o
    rw [Nat.zero_add, cell_of_row _ w.heap.size j _ _ _ (hnew _)]
    unfold bytesRow
    simp only [List.map_toArray]
    rw [Array.getElem?_append_left (by simpa using hj)]
    simp [hj]
  · have h := grownCap_ge w (⟨S.toArray⟩ : ByteArray).size 0 5
    rw [hsz] at h ⊢
    exact h
  · have h := grownCap_le_maxLen w (⟨S.toArray⟩ : ByteArray).size 0 5 (by rw [hsz]; unfold maxLen; omega)
    unfold maxLen at h
    omega
theorem splitL_len : ∀ (n : Nat) (u : List UInt8) (L : List (UInt8 × List UInt8)), u.length ≤ n → splitL u = some L → L.length ≤ u.length := by
  intro n
  induction n with
  | zero =>
    intro u L hu h
    have : u = [] := List.eq_nil_of_length_eq_zero (by omega)
    subst this
    unfold splitL at h
    injection h with h
    subst h
    simp
  | succ n ih =>
    intro u L hu h
    cases u with
    | nil =>
      unfold splitL at h
      injection h with h
      subst h
      simp
    | cons x l =>
      rw [splitL] at h
      split at h
      · have h1 := (ext_pos (x :: l)).1
        rw [Option.map_eq_some_iff] at h
        obtain ⟨M, hM, rfl⟩ := h
        have := ih _ M (by simp only [List.length_drop, List.length_cons] at hu ⊢; omega) hM
        simp only [List.length_drop, List.length_cons] at this hu ⊢
        omega
      · cases h
theorem SplitR.none {w w' : World} {s : List UInt8} {e : Ending} (h : SplitR w s e w') (hs : splitL s = .none) : e = .returned (.tuple #[.slice .none 0 0, .int .i64 100]) ∧ Below w.heap.size w w' := by
  obtain ⟨hb, ⟨L, v, rs, q, _⟩ | ⟨_, he⟩⟩ := h
  · rw [hs] at q; cases q
  · exact ⟨he, hb⟩
theorem SplitR.some {w w' : World} {s : List UInt8} {e : Ending} {L : List (UInt8 × List UInt8)} (h : SplitR w s e w') (hs : splitL s = .some L) : ∃ PA c rs, e = .returned (.tuple #[.slice PA rs.length c, .int .i64 0]) ∧ PvsAt w'.heap.size w' PA rs ∧ rs.map PV.is = L ∧ rs.length ≤ s.length ∧ Below w.heap.size w w' := by
  obtain ⟨hb, ⟨L2, v, rs, q, rfl, q2, q3, q4⟩ | ⟨q, _⟩⟩ := h
  · have hLL : L2 = L := by rw [hs] at q; injection q with q; exact q.symm
    subst hLL
    obtain ⟨PA, c, rfl, hpv, _⟩ := pvs_row (w := w) rfl q2 (fun p hp => (q4 p hp).1)
    refine ⟨PA, c, rs, rfl, hpv, q3, ?_, hb⟩
    have h1 := splitL_len s.length s _ (Nat.le_refl _) hs
    rw [← q3, List.length_map] at h1
    exact h1
  · rw [hs] at q; cases q
theorem PvsAt.more {n₀ n₁ : Nat} {W : World} {PA : Option Addr} {l : List PV} (h : PvsAt n₀ W PA l) (hn : n₀ ≤ n₁) : PvsAt n₁ W PA l :=
  ⟨fun k hk => by
    obtain ⟨b, off, e, hl, c⟩ := h.cells k hk
    exact ⟨b, off, e, Nat.lt_of_lt_of_le hl hn, c⟩, fun p hp => (h.held p hp).more hn⟩
def splitsB (S : List UInt8) (l : List PV) : Bool := match splitL S with
  | some L => L == l.map PV.is
  | none => false
set_option maxRecDepth 100000 in
set_option maxHeartbeats 1000000 in
theorem splits_any (S : List UInt8) (hS : S.length ≤ 1000000) (l : List PV) (n : Nat) (hn : n = l.length) (LA : Option Addr) (d : Nat) (w : World) (hl : PvsAt w.heap.size w LA l) :
    Calls Try.prog 24 #[.string ⟨S.toArray⟩, .slice LA n d] w fun e w' => e = .returned (.bool (splitsB S l)) ∧ Below w.heap.size w w' := by
  subst hn
  obtain ⟨G, W, hcv, hb, hh, hsG, hG⟩ := conv_bytes w S hS
  have HSP := Lib.hid (split_is S S.length rfl (some ⟨w.heap.size, 0, none⟩) G W.heap.size W hS hsG hG hh (Nat.le_refl _))
  have HB := Lib.hid hb
  have HL := Lib.hid hl
  clear hh hb hl
  cases hq : splitL S with
  | none =>
    have HV := Lib.hid (show splitsB S l = false by unfold splitsB; rw [hq])
    have HQ := Lib.hid hq
    clear hq
    go_enter Try.func24, Try.ntmps24
    go_wp2_with (go_at_call 9; refine HSP.out.mono ?_; intro e w2 hr; obtain ⟨rfl, hb2⟩ := hr.none HQ.out; have HB2 := Lib.hid (HB.out.trans (hb2.mono HB.out.size)); clear hb2 hr)
    go_ret
    exact ⟨by rw [HV.out]; rfl, HB2.out⟩
  | some L =>
    have HV := Lib.hid (show splitsB S l = (L == l.map PV.is) by unfold splitsB; rw [hq])
    have HQ := Lib.hid hq
    clear hq
    go_enter Try.func24, Try.ntmps24
    go_wp2_with (first
      | (go_at_call 9; refine HSP.out.mono ?_; intro e w2 hr; obtain ⟨PA, c, rs, rfl, hpv, q3, hrl, hb2⟩ := hr.some HQ.out; have HB2 := Lib.hid (HB.out.trans (hb2.mono HB.out.size)); have HSM := Lib.hid (same_any rs l rs.length l.length rfl rfl PA LA c d w2.heap.size w2 hpv ((HL.out.later HB2.out).more HB2.out.size) (Nat.le_refl _) (Nat.le_trans hrl hS)); have HEQ := Lib.hid (show sameL rs l = (L == l.map PV.is) by unfold sameL; rw [q3]); clear hr hpv q3 hrl hb2)
      | (go_at_call 19; refine HSM.out.mono ?_; rintro e w3 ⟨rfl, hb3⟩; have HB3 := Lib.hid (HB2.out.trans (hb3.mono HB2.out.size)); clear hb3))
    go_ret
    exact ⟨by rw [HV.out, ← HEQ.out]; rfl, HB3.out⟩
theorem alive_split : splitL [2, 97, 98, 97, 0] = some [(2, [97, 98]), (97, []), (0, [])] := by
  rw [splitL, if_pos (by decide)]
  simp only [show (ext [2, 97, 98, 97, 0]).1 = 1 from rfl, show (ext [2, 97, 98, 97, 0]).2 = 2 from rfl, Nat.reduceAdd, List.drop_succ_cons, List.drop_zero, List.take_succ_cons, List.take_zero]
  rw [splitL, if_pos (by decide)]
  simp only [show (ext [97, 0]).1 = 1 from rfl, show (ext [97, 0]).2 = 0 from rfl, Nat.reduceAdd, List.drop_succ_cons, List.drop_zero, List.take_zero]
  rw [splitL, if_pos (by decide)]
  simp only [show (ext [0]).1 = 1 from rfl, show (ext [0]).2 = 0 from rfl, Nat.reduceAdd, List.drop_succ_cons, List.drop_zero, List.take_zero]
  rw [splitL]
  rfl
set_option maxRecDepth 100000 in
set_option maxHeartbeats 1000000 in
theorem alive_any (w : World) : Calls Try.prog 26 #[] w fun e w' => e = .returned (.bool true) ∧ Below w.heap.size w w' := by
  have hcv := laid_conv w [97, 98] #[.int .u8 97, .int .u8 98] rfl 2
  have hls := laid_size w [97, 98]
  have hlb := laid_below w [97, 98]
  have hlh := laid_holds w [97, 98]
  obtain ⟨W, hW⟩ : ∃ W, laid w [97, 98] = W := ⟨_, rfl⟩
  rw [hW] at hcv hls hlb hlh
  clear hW
  have hnb := (Below.refl W.heap.size W).alloc (Nat.le_refl _) (.cells #[.int .u8 2, .slice (some ⟨w.heap.size, 0, none⟩) 2 2, .int .u8 97, .slice none 0 0, .int .u8 0, .slice none 0 0] 32)
  have hpv : PvsAt (W.alloc (.cells #[.int .u8 2, .slice (some ⟨w.heap.size, 0, none⟩) 2 2, .int .u8 97, .slice none 0 0, .int .u8 0, .slice none 0 0] 32)).heap.size (W.alloc (.cells #[.int .u8 2, .slice (some ⟨w.heap.size, 0, none⟩) 2 2, .int .u8 97, .slice none 0 0, .int .u8 0, .slice none 0 0] 32)) (some ⟨W.heap.size, 0, none⟩) [⟨2, some ⟨w.heap.size, 0, none⟩, [97, 98], 2⟩, ⟨97, none, [], 0⟩, ⟨0, none, [], 0⟩] :=
    pvs_cur (World.alloc_heap_new W _) _ rfl fun p hp => by
      simp only [List.mem_cons, List.not_mem_nil, or_false] at hp
      rcases hp with rfl | rfl | rfl
      · exact .inl (hlh.later hnb)
      · exact .inl (.inl ⟨rfl, rfl⟩)
      · exact .inl (.inl ⟨rfl, rfl⟩)
  have HSP := Lib.hid (splits_any [2, 97, 98, 97, 0] (by decide) _ 3 rfl (some ⟨W.heap.size, 0, none⟩) 3 _ hpv)
  have hv : splitsB [2, 97, 98, 97, 0] [⟨2, some ⟨w.heap.size, 0, none⟩, [97, 98], 2⟩, ⟨97, none, [], 0⟩, ⟨0, none, [], 0⟩] = true := by
    unfold splitsB
    rw [alive_split]
    rfl
  rw [hv] at HSP
  have HB := Lib.hid (hlb.trans (hnb.mono hlb.size))
  clear hls hlb hlh hnb hpv hv
  go_enter Try.func26, Try.ntmps26
  go_wp2_with (go_at_call 24; refine HSP.out.mono ?_; rintro e w1 ⟨rfl, hb⟩; have HB1 := Lib.hid (HB.out.trans (hb.mono HB.out.size)); clear hb)
  go_ret
  exact ⟨rfl, HB1.out⟩
end Go.Proofs.Ytkecldmjjhhlgaa.Oct
