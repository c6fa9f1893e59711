/- Contracts of crc.Sum and purserref01.Twin. No condition beyond the memory's reach. -/
import Derived.Test.YtagcdgfdflnphaaCrcD
import Derived.Deep.AppendLies
import Derived.Maps.AppendAt
namespace Go.Proofs.Ytagcdgfdflnphaa
open Go.RowKit

/-- A list of byte slices in memory. -/
structure Parts8 (n₀ : Nat) (W : World) (PA : Option Addr) (ps : List (Option Addr × List UInt8 × Nat)) : Prop where
  cells : ∀ k (h : k < ps.length), ∃ b off, PA = some ⟨b, off, none⟩ ∧ b < n₀ ∧ W.cell? ⟨b, off + k, none⟩ = some (.slice ps[k].1 ps[k].2.1.length ps[k].2.2)
  bytes : ∀ p ∈ ps, Holds8 n₀ W p.1 p.2.1 ∧ p.2.1.length ≤ 140737488351232
def flat (ps : List (Option Addr × List UInt8 × Nat)) : List UInt8 := (ps.map fun p => p.2.1).flatten
theorem flat_snoc (ps : List (Option Addr × List UInt8 × Nat)) (k : Nat) (h : k < ps.length) : flat (ps.take (k + 1)) = flat (ps.take k) ++ ps[k].2.1 := by
  rw [List.take_succ_eq_append_getElem h]
  unfold flat
  rw [List.map_append, List.flatten_append]
  simp only [List.map_cons, List.map_nil, List.flatten_cons, List.flatten_nil, List.append_nil]

set_option maxRecDepth 100000 in
set_option maxHeartbeats 2000000 in
theorem sum_any (ps : List (Option Addr × List UInt8 × Nat)) (hl : ps.length ≤ 1000000) (cap : Nat) (PA : Option Addr) (w : World) (hP : Parts8 w.heap.size w PA ps) :
    Calls Try.prog 9 #[.slice PA ps.length cap] w fun e w' => e = .returned (.int .u32 (onS 0 (flat ps) : Int)) ∧ Below w.heap.size w w' := by
  have HP := Lib.hid hP
  clear hP
  go_enter Try.func9, Try.ntmps9
  go_wp2
  go_loopw [3, 8] (fun s i wr => ∃ k : Nat, k ≤ ps.length ∧ i = .int .i64 k ∧ s = .int .u32 (onS 0 (flat (ps.take k)) : Nat) ∧ Below w.heap.size w wr) (fun _ i _ => ps.length - (intOf i).toNat)
  case atStart => exact ⟨0, by omega, rfl, by rw [show flat (ps.take 0) = [] by simp [flat], onS_nil 0 (by omega)]; rfl, Below.refl _ _⟩
  case round =>
    obtain ⟨k, hk, rfl, rfl, hB⟩ := hrel
    by_cases hlt : k < ps.length
    · obtain ⟨b, off, rfl, hb, hc⟩ := HP.out.cells k hlt
      have hc2 := (hB.cell (p := ⟨b, off + k, none⟩) hb).trans hc
      obtain ⟨hh, hlen⟩ := HP.out.bytes ps[k] (List.getElem_mem hlt)
      have hh2 := hh.below hB (Nat.le_refl _)
      have hs := onS_lt 0 (flat (ps.take k))
      have HS := Lib.hid (show onS 0 (flat (ps.take (k + 1))) = onS (onS 0 (flat (ps.take k))) ps[k].2.1 by rw [flat_snoc ps k hlt, onS_append 0 (by omega)])
      generalize onS 0 (flat (ps.take k)) = S at *
      have hb8 := Lib.hid hh2
      obtain ⟨A, hA⟩ : ∃ A, ps[k].1 = A := ⟨_, rfl⟩
      obtain ⟨bs, hbs⟩ : ∃ bs, ps[k].2.1 = bs := ⟨_, rfl⟩
      obtain ⟨c, hcc⟩ : ∃ c, ps[k].2.2 = c := ⟨_, rfl⟩
      have hbw := hB.size
      rw [hA, hbs, hcc] at hc2
      rw [hA, hbs] at hb8
      rw [hbs] at HS hlen
      clear hA hbs hcc hc hh hh2
      have hon := on_any S hs bs hlen c A wr (by
        rcases hb8.out with ⟨e1, e2⟩ | ⟨b, off, e, hb, hc⟩
        · exact .inl ⟨e1, e2⟩
        · exact .inr ⟨b, off, e, Nat.lt_of_lt_of_le hb hbw, hc⟩)
      have HON := Lib.hid hon
      clear hon
      go_wp2_with ((go_at_call 11; refine Calls.mono HON.out ?_; rintro e w1 ⟨rfl, hb1⟩))
      go_roundw
      case rel => exact ⟨k + 1, by omega, by go_num, by rw [HS.out], hB.trans (hb1.mono hbw)⟩
      case measure => simp [intOf]; omega
    · have HE := Lib.hid (show flat (ps.take k) = flat ps by rw [List.take_of_length_le (by omega)])
      go_wp2
      go_ret
      exact ⟨by rw [HE.out]; rfl, hB⟩

theorem byte_info : (Try.prog.info? 5).map (fun i => (i.zero, i.size, i.bytes)) = some (some (.int .u8 0), 1, 1) := by kernel_rfl
def vals (bs : List UInt8) : List Value := bs.map fun b => .int .u8 (b.toNat : Int)
theorem vals_length (bs : List UInt8) : (vals bs).length = bs.length := by simp [vals]
theorem vals_get (bs : List UInt8) (j : Nat) (h : j < bs.length) : (vals bs)[j]? = some (.int .u8 ((bs[j]).toNat : Int)) := by simp [vals, h]
theorem vals_one (bs : List UInt8) : ∀ u ∈ vals bs, u.oneCell' = true := by
  intro u hu
  simp only [vals, List.mem_map] at hu
  obtain ⟨b, _, rfl⟩ := hu
  rfl
theorem add_off (b off j : Nat) : (⟨b, off, none⟩ : Addr).add j = ⟨b, off + j, none⟩ := by unfold Addr.add; split <;> simp_all

theorem own_holds {w : World} {base : Nat} {e : TypeId} {v : Value} {n : Nat} {bs : List UInt8} (hn : bs.length = n) (h : w.ownsRow base e 1 v n (vals bs)) :
    ∃ A c, v = .slice A bs.length c ∧ Holds8 w.heap.size w A bs ∧ (∀ a, A = some a → base ≤ a.block) := by
  subst hn
  rcases h.2 with ⟨rfl, h0⟩ | ⟨g, cap, cur, rfl, hb, hh, _, _, _, ht⟩
  · have : bs = [] := List.eq_nil_of_length_eq_zero h0
    subst this
    exact ⟨none, 0, rfl, .inl ⟨rfl, rfl⟩, fun a e => by cases e⟩
  · have hlt : g < w.heap.size := (Array.getElem?_eq_some_iff.1 hh).1
    refine ⟨some ⟨g, 0, none⟩, cap, rfl, .inr ⟨g, 0, rfl, hlt, fun j hj => ?_⟩, fun a e => by cases e; exact hb⟩
    rw [Nat.zero_add, cell_of_row w g j cur e (0, 0) hh]
    have h1 := vals_get bs j hj
    rw [← ht, List.getElem?_take, if_pos (by omega)] at h1
    simpa using h1

theorem append_nothing (ty : TypeId) (c : Nat) (w : World) : (Builtin.append_ #[22, 22] ty #[.slice none 0 0, .slice none 0 c]).run Try.prog w = .ok (.slice none 0 0) w := by
  obtain ⟨i0, hi, hz0, hz1, hz2⟩ := info_parts byte_info
  simp [Builtin.append_, run_underlying Try.underlying22, sizeOf, typeInfo, hi, Builtin.lenOf, Builtin.firstCells]

/-- The bytes bs in memory of the call's own. -/
def NewBytes (w : World) (bs : List UInt8) (e : Ending) (w' : World) : Prop :=
  ∃ A c, e = .returned (.slice A bs.length c) ∧ Holds8 w'.heap.size w' A bs ∧ (∀ a, A = some a → w.heap.size ≤ a.block) ∧ Below w.heap.size w w'

set_option maxHeartbeats 1000000 in
theorem twin_any (bs : List UInt8) (hreach : bs.length ≤ 140737488351232) (cap : Nat) (A : Option Addr) (w : World) (hI : Holds8 w.heap.size w A bs) :
    Calls Try.prog 8 #[.slice A bs.length cap] w (NewBytes w bs) := by
  obtain ⟨i0, hi, hz0, hz1, hz2⟩ := info_parts byte_info
  rcases hI with ⟨rfl, rfl⟩ | ⟨b, off, rfl, hb, hc⟩
  · have hq := append_nothing
    go_enter Try.func8, Try.ntmps8
    go_wp2
    go_ret
    exact ⟨none, 0, rfl, .inl ⟨rfl, rfl⟩, (fun a e => by cases e), Below.refl _ _⟩
  · have HC := Lib.hid hc
    clear hc
    go_enter Try.func8, Try.ntmps8
    go_wp2_with (at_builtin; refine wpList_append_own_at _ rfl (.tmp 4) (.tmp 5) _ rfl w.heap.size 5 i0 _ 1 1 Try.underlying22 hi hz0 hz1 hz2 rfl (by omega) (.slice none 0 0) 0 [] rfl ⟨by simp, .inl ⟨rfl, rfl⟩⟩ ⟨b, off, none⟩ bs.length cap (vals bs) rfl (by rw [vals_length, Nat.mul_one]) (fun j u hu => by have hj : j < bs.length := by { have := (List.getElem?_eq_some_iff.1 hu).1; rwa [vals_length] at this }; rw [vals_get bs j hj] at hu; rw [add_off, HC.out j hj]; exact hu) (vals_one bs) (by unfold maxLen; omega) (by omega) (Nat.le_refl _) ?_; intro v' w1 hown hgrow _ hat)
    obtain ⟨A', c', rfl, hh, hfr⟩ := own_holds (bs := bs) (by omega) hown
    go_ret
    exact ⟨A', c', rfl, hh, hfr, (Below.refl _ _).grown hgrow (Nat.le_refl _) (fun k e => by simp [Value.ownBlock] at e)⟩

theorem Holds8.more {n₀ n₁ : Nat} {W : World} {A : Option Addr} {bs : List UInt8} (h : Holds8 n₀ W A bs) (hn : n₀ ≤ n₁) : Holds8 n₁ W A bs := by
  rcases h with ⟨e1, e2⟩ | ⟨b, off, e, hb, hc⟩
  · exact .inl ⟨e1, e2⟩
  · exact .inr ⟨b, off, e, Nat.lt_of_lt_of_le hb hn, hc⟩
/-- The same bytes in a later world. -/
theorem Holds8.later {W W' : World} {A : Option Addr} {bs : List UInt8} (h : Holds8 W.heap.size W A bs) (hb : Below W.heap.size W W') : Holds8 W'.heap.size W' A bs :=
  (h.below hb (Nat.le_refl _)).more hb.size
theorem Holds8.later' {n : Nat} {W W' : World} {A : Option Addr} {bs : List UInt8} (h : Holds8 n W A bs) (hn : n ≤ W.heap.size) (hb : Below W.heap.size W W') : Holds8 n W' A bs := h.below hb hn

theorem str_of {n : Nat} {W : World} {A : Option Addr} {bs : List UInt8} (h : Holds8 n W A bs) (c : Nat) : (convert 22 9 (.slice A bs.length c)).run Try.prog W = .ok (.string ⟨bs.toArray⟩) W := by
  rcases h with ⟨rfl, rfl⟩ | ⟨b, off, rfl, hb, hc⟩
  · exact run_convert_bytes_nil W 22 5 Try.underlying22 Try.underlying5 0 c 9 Try.underlying9
  · have h := run_convert_bytes_arg W 22 5 Try.underlying22 Try.underlying5 b off bs.length c (bs.map fun x => (x.toNat : Int)) (by simp) (fun i hi => by
      rw [hc i hi]
      simp [List.getD, hi]) 9 Try.underlying9
    rw [h]
    congr 2
    unfold strOfNums
    rw [List.map_map]
    congr 2
    conv => rhs; rw [← List.map_id bs]
    apply List.map_congr_left
    intro x _
    simp

theorem sum_one (bs : List UInt8) (hreach : bs.length ≤ 140737488351232) (c : Nat) (A : Option Addr) (w : World) (hI : Holds8 w.heap.size w A bs) :
    Calls Try.prog 9 #[.slice (some ⟨w.heap.size, 0, none⟩) 1 1] (w.alloc (.cells #[.slice A bs.length c] 22)) fun e w' => e = .returned (.int .u32 (onS 0 bs : Int)) ∧ Below w.heap.size w w' := by
  have hb1 : Below w.heap.size w (w.alloc (.cells #[.slice A bs.length c] 22)) := (Below.refl _ _).alloc (Nat.le_refl _) _
  refine (sum_any [(A, bs, c)] (by simp) 1 (some ⟨w.heap.size, 0, none⟩) _ ⟨fun k hk => ?_, fun p hp => ?_⟩).mono fun e w' ⟨he, hb⟩ => ⟨?_, hb1.trans (hb.mono hb1.size)⟩
  · have : k = 0 := by simpa using hk
    subst this
    exact ⟨w.heap.size, 0, rfl, by simp, (new_cell w _ 22).1⟩
  · simp only [List.mem_singleton] at hp
    subst hp
    exact ⟨hI.later hb1, hreach⟩
  · rw [he]
    simp [flat]

set_option maxRecDepth 100000 in
set_option maxHeartbeats 2000000 in
theorem sums_walk (bs : List UInt8) (hlm : bs.length ≤ maxLen) (cap s : Nat) (hs : s < 4294967296) (A : Option Addr) (w : World) (hI : Holds8 w.heap.size w A bs) :
    Calls Try.prog 3 #[.slice A bs.length cap, .int .u32 (s : Int)] w fun e w' => e = .returned (.bool true) ∧ Below w.heap.size w w' := by
  unfold maxLen at hlm
  by_cases hlen : 10000 < bs.length
  · have hl2 : (10000 : Int) < (bs.length : Int) := by omega
    go_enter Try.func3, Try.ntmps3
    go_wp2
    go_ret
    exact ⟨rfl, Below.refl _ _⟩
  · have hl2 : decide ((10000 : Int) < (bs.length : Int)) = false := by simp; omega
    have HI := Lib.hid hI
    have hreach : bs.length ≤ 140737488351232 := by omega
    clear hI hlen
    go_enter Try.func3, Try.ntmps3
    go_wp2_with (first
      | (go_at_call 8; refine (twin_any bs hreach cap A _ HI.out).mono ?_; rintro e w1 ⟨A1, c1, rfl, hh1, hfr, hb1⟩; have HI1 := Lib.hid (HI.out.later hb1))
      | (go_at_call 9; refine (sum_one bs hreach c1 A1 w1 hh1).mono ?_; rintro e w2 ⟨rfl, hb2⟩; have HI2 := Lib.hid (HI1.out.later hb2); have hh2 := hh1.later hb2)
      | (go_at_call 10; refine (refSum_any bs hreach cap A w2 HI2.out).mono ?_; rintro e w3 ⟨rfl, rfl⟩)
      | (go_at_call 11; refine (on_any s hs bs hreach c1 A1 w2 hh2).mono ?_; rintro e w4 ⟨rfl, hb4⟩; have HI4 := Lib.hid (HI2.out.later hb4); have hh4 := hh2.later hb4; have q1 := str_of hh4 c1; have q2 := str_of HI4.out cap)
      | (go_at_call 12; refine (refOn_any s hs bs hreach cap A w4 HI4.out).mono ?_; rintro e w5 ⟨rfl, rfl⟩))
    go_ret
    exact ⟨rfl, hb1.trans ((hb2.trans (hb4.mono hb2.size)).mono hb1.size)⟩
end Go.Proofs.Ytagcdgfdflnphaa
