/- The contracts of purserref01.power, Fixed, Twin. No condition beyond the memory's reach. -/
import Derived.Test.YtngkckngjobojaaOctI
namespace Go.Proofs.Ytngkckngjobojaa.Oct
open Go.Proofs.Ytngkckngjobojaa Go.RowKit Go.Shelf

/-- Bytes and a number, answered. -/
def OwnPair (w : World) (R : List UInt8 × Int) (e : Ending) (w' : World) : Prop := ∃ v, e = .returned (.tuple #[v, .int .i64 R.2]) ∧ w'.ownsRow w.heap.size 5 1 v R.1.length (vals R.1) ∧ Below w.heap.size w w'
theorem power_any (n : Nat) (hn : n ≤ 7) (w : World) : Calls Try.prog 44 #[.int .i64 (n : Int)] w fun e w' => e = .returned (.int .u64 ((256 ^ n : Nat) : Int)) ∧ w = w' := by
  go_enter Try.func44, Try.ntmps44
  go_wp2
  go_loop [3, 4] (fun p i => ∃ k : Nat, k ≤ n ∧ i = .int .i64 (k : Int) ∧ p = .int .u64 ((256 ^ k : Nat) : Int)) (fun _ i => n - (intOf i).toNat)
  case atStart => exact ⟨0, Nat.zero_le _, rfl, rfl⟩
  case round =>
    obtain ⟨k, hk, rfl, rfl⟩ := hrel
    by_cases hlt : k < n
    · have hp : 256 ^ k ≤ 281474976710656 := by
        rw [show 281474976710656 = 256 ^ 6 by decide]
        exact Nat.pow_le_pow_right (by decide) (by omega)
      have hs : (256 ^ (k + 1) : Nat) = 256 ^ k * 256 := Nat.pow_succ _ _
      obtain ⟨p, hpe⟩ : ∃ p, 256 ^ k = p := ⟨_, rfl⟩
      rw [hpe] at hp hs ⊢
      have HS := Lib.hid hs
      clear hs hpe
      go_wp2
      go_round
      case rel => exact ⟨k + 1, by omega, by go_num, by rw [HS.out]; simp⟩
      case measure => simp [intOf]; omega
    · obtain rfl : k = n := by omega
      go_wp2
      go_ret
      exact ⟨rfl, rfl⟩
set_option maxHeartbeats 1000000 in
theorem twin_own (bs : List UInt8) (A : Option Addr) (c n₀ : Nat) (w : World) (hh : Holds8 n₀ w A bs) (hl : bs.length ≤ 140737488355328) :
    Calls Try.prog 15 #[.slice A bs.length c] w (OwnBytes w bs) := by
  have hoe : w.ownsRow w.heap.size 5 1 (.slice none 0 0) ([] : List UInt8).length (vals []) := World.ownsRow_nil _ _ _ _
  have HH := Lib.hid hh
  clear hh
  go_enter Try.func15, Try.ntmps15
  go_wp2_with (at_builtin; refine wpList_append_bytes rfl (.tmp 4) (.tmp 5) rfl w.heap.size _ _ [] bs rfl hoe A c rfl HH.out (by simpa using hl) (Nat.le_refl _) ?_; intro v' w1 hown' hgr hv)
  go_ret
  exact ⟨_, rfl, hown', (Below.refl _ w).grown hgr (Nat.le_refl _) (fun k hk => by cases hk)⟩

theorem sizeNot (s : Int) (h : sizeOkB s = false) : (s != 1) = true ∧ (s != 2) = true ∧ (s != 4) = true ∧ (s != 8) = true := by
  unfold sizeOkB at h
  simp only [Bool.or_eq_false_iff, beq_eq_false_iff_ne] at h
  simp only [bne_iff_ne]
  omega
set_option maxRecDepth 100000 in
set_option maxHeartbeats 2000000 in
theorem refFixed_any (s : Int) (x : Nat) (hx : x < 18446744073709551616) (w : World) :
    Calls Try.prog 34 #[.int .i64 s, .int .u64 (x : Int)] w (OwnPair w (fixedB s x, fixedE s x)) := by
  cases hok : sizeOkB s with
  | false =>
    have HE := Lib.hid (show fixedE s x = 2 by unfold fixedE; rw [hok]; rfl)
    have HB := Lib.hid (show fixedB s x = [] by unfold fixedB; rw [hok]; rfl)
    obtain ⟨n1, n2, n4, n8⟩ := sizeNot s hok
    clear hok
    go_enter Try.func34, Try.ntmps34
    go_wp2
    go_ret2
    rw [HE.out, HB.out]
    exact ⟨_, rfl, World.ownsRow_nil _ _ _ _, Below.refl _ _⟩
  | true =>
    obtain ⟨k, rfl, hk⟩ := sizeOk_cases hok
    by_cases hbig : 256 ^ k ≤ x
    · have HE := Lib.hid (show fixedE k x = 10 by unfold fixedE; rw [hok, if_pos rfl, if_pos (by simpa using hbig)])
      have HB := Lib.hid (show fixedB k x = [] by unfold fixedB; rw [hok, if_pos rfl, if_pos (by simpa using hbig)])
      have hk8 : k < 8 := by
        rcases hk with rfl | rfl | rfl | rfl <;> simp only [Nat.reducePow] at hbig <;> omega
      have hpw := power_any k (by omega)
      have hb2 : ((256 ^ k : Nat) : Int) ≤ (x : Int) := by omega
      obtain ⟨p, hp⟩ : ∃ p, 256 ^ k = p := ⟨_, rfl⟩
      rw [hp] at hpw hb2
      clear hok hbig hp
      have hb3 : p ≤ x := by omega
      rcases hk with rfl | rfl | rfl | rfl
      all_goals first
        | omega
        | (go_enter Try.func34, Try.ntmps34
           go_wp2_with (go_at_call 44; refine (hpw _).mono ?_; rintro e w1 ⟨rfl, rfl⟩)
           go_ret2
           rw [HE.out, HB.out]
           exact ⟨_, rfl, World.ownsRow_nil _ _ _ _, Below.refl _ _⟩)
    · have HE := Lib.hid (show fixedE k x = 0 by unfold fixedE; rw [hok, if_pos rfl, if_neg (by simpa using hbig)])
      have HB := Lib.hid (show fixedB k x = leB k x by unfold fixedB; rw [hok, if_pos rfl, if_neg (by simpa using hbig)]; simp)
      rcases hk with rfl | rfl | rfl | rfl
      · have hlo : x < 256 := by simpa using hbig
        clear hbig
        have hpw := fun q (hq : q ≤ 7) W => power_any q hq W
        have HPW := Lib.hid hpw
        clear hpw
        have HP4 := Lib.hid (show ∀ W, Calls Try.prog 44 #[.int .i64 1] W fun e w' => e = .returned (.int .u64 256) ∧ W = w' from fun W => HPW.out 1 (by decide) W)
        have d1 : decide ((256 : Int) ≤ (x : Int)) = false := by simp; omega
        go_enter Try.func34, Try.ntmps34
        go_wp2_with (go_at_call 44; refine (HP4.out _).mono ?_; rintro e w1 ⟨rfl, rfl⟩)
        go_loopw [6, 7] (fun o i wr => ∃ q : Nat, q ≤ 1 ∧ i = .int .i64 (q : Int) ∧ wr.ownsRow w.heap.size 5 1 o (leB q x).length (vals (leB q x)) ∧ Below w.heap.size w wr) (fun _ i _ => 1 - (intOf i).toNat)
        case atStart => exact ⟨0, by decide, rfl, World.ownsRow_nil _ _ _ _, Below.refl _ _⟩
        case round =>
          obtain ⟨q, hq, rfl, hrow, hB⟩ := hrel
          by_cases hlt : q < 1
          · obtain ⟨p, hp⟩ : ∃ p, 256 ^ q = p := ⟨_, rfl⟩
            have hp0 : 0 < p := by rw [← hp]; exact Nat.pow_pos (by decide)
            have HQ := Lib.hid (show ∀ W, Calls Try.prog 44 #[.int .i64 (q : Int)] W fun e w' => e = .returned (.int .u64 (p : Int)) ∧ W = w' from fun W => by rw [← hp]; exact HPW.out q (by omega) W)
            obtain ⟨y, hy⟩ : ∃ y, UInt8.ofNat (x / p % 256) = y := ⟨_, rfl⟩
            obtain ⟨m, hm⟩ : ∃ m, x / p = m := ⟨_, rfl⟩
            have hm64 : m ≤ x := by rw [← hm]; exact Nat.div_le_self _ _
            have e1 : IntKind.u64.wrap ((x : Int) / (p : Int)) = (m : Int) := by
              rw [← hm, show (x : Int) / (p : Int) = ((x / p : Nat) : Int) by simp]
              exact IntWalk.u64_in _ (by rw [hm]; omega)
            rw [hm] at hy
            have ey : (m : Int) % 256 = (y.toNat : Int) := by
              rw [← hy, UInt8.toNat_ofNat']
              omega
            have hm2 : x / 256 ^ q = m := by rw [hp]; exact hm
            have hz : ((p : Int) == 0) = false := by simp; omega
            have HX := Lib.hid (show leB (q + 1) x = leB q x ++ [y] by rw [leB_snoc, hm2, hy])
            have hlen := leB_length q x
            have HY := Lib.hid (show ∀ W : World, Holds8 (W.alloc (.cells #[.int .u8 (y.toNat : Int)] 5)).heap.size (W.alloc (.cells #[.int .u8 (y.toNat : Int)] 5)) (some ⟨W.heap.size, 0, none⟩) [y] from fun W => holds_one W y)
            have HROW := Lib.hid hrow
            have HLEN := Lib.hid hlen
            have hp1 : (1 : Int) ≤ (p : Int) := by omega
            clear hp hy hrow hlen hm hm2
            go_wp2_with (first
              | (go_at_call 44; refine (HQ.out _).mono ?_; rintro e w1 ⟨rfl, rfl⟩)
              | (at_builtin; refine wpList_append_bytes rfl (.tmp 35) (.tmp 42) rfl w.heap.size _ _ (leB q x) [y] rfl (ownsRow_below HROW.out ((Below.refl _ _).alloc (Nat.le_refl _) _)) (some ⟨wr.heap.size, 0, none⟩) 1 rfl (HY.out wr) (by rw [HLEN.out, List.length_singleton]; omega) (by have := hB.size; simp; omega) ?_; intro v' w1 hown' hgr hv; have HOW := Lib.hid hown'; have HBW := Lib.hid ((hB.alloc hB.size _).grown hgr (by have := hB.size; simp; omega) (own_row_ge HROW.out)); clear hown' hgr hv))
            go_roundw
            case rel => exact ⟨q + 1, by omega, by go_num, by rw [HX.out]; exact HOW.out, HBW.out⟩
            case measure => simp [intOf]; omega
          · obtain rfl : q = 1 := by omega
            go_wp2
            go_ret2
            rw [HE.out, HB.out]
            exact ⟨_, rfl, hrow, hB⟩
      · have hlo : x < 65536 := by simpa using hbig
        clear hbig
        have hpw := fun q (hq : q ≤ 7) W => power_any q hq W
        have HPW := Lib.hid hpw
        clear hpw
        have HP4 := Lib.hid (show ∀ W, Calls Try.prog 44 #[.int .i64 2] W fun e w' => e = .returned (.int .u64 65536) ∧ W = w' from fun W => HPW.out 2 (by decide) W)
        have d1 : decide ((65536 : Int) ≤ (x : Int)) = false := by simp; omega
        go_enter Try.func34, Try.ntmps34
        go_wp2_with (go_at_call 44; refine (HP4.out _).mono ?_; rintro e w1 ⟨rfl, rfl⟩)
        go_loopw [6, 7] (fun o i wr => ∃ q : Nat, q ≤ 2 ∧ i = .int .i64 (q : Int) ∧ wr.ownsRow w.heap.size 5 1 o (leB q x).length (vals (leB q x)) ∧ Below w.heap.size w wr) (fun _ i _ => 2 - (intOf i).toNat)
        case atStart => exact ⟨0, by decide, rfl, World.ownsRow_nil _ _ _ _, Below.refl _ _⟩
        case round =>
          obtain ⟨q, hq, rfl, hrow, hB⟩ := hrel
          by_cases hlt : q < 2
          · obtain ⟨p, hp⟩ : ∃ p, 256 ^ q = p := ⟨_, rfl⟩
            have hp0 : 0 < p := by rw [← hp]; exact Nat.pow_pos (by decide)
            have HQ := Lib.hid (show ∀ W, Calls Try.prog 44 #[.int .i64 (q : Int)] W fun e w' => e = .returned (.int .u64 (p : Int)) ∧ W = w' from fun W => by rw [← hp]; exact HPW.out q (by omega) W)
            obtain ⟨y, hy⟩ : ∃ y, UInt8.ofNat (x / p % 256) = y := ⟨_, rfl⟩
            obtain ⟨m, hm⟩ : ∃ m, x / p = m := ⟨_, rfl⟩
            have hm64 : m ≤ x := by rw [← hm]; exact Nat.div_le_self _ _
            have e1 : IntKind.u64.wrap ((x : Int) / (p : Int)) = (m : Int) := by
              rw [← hm, show (x : Int) / (p : Int) = ((x / p : Nat) : Int) by simp]
              exact IntWalk.u64_in _ (by rw [hm]; omega)
            rw [hm] at hy
            have ey : (m : Int) % 256 = (y.toNat : Int) := by
              rw [← hy, UInt8.toNat_ofNat']
              omega
            have hm2 : x / 256 ^ q = m := by rw [hp]; exact hm
            have hz : ((p : Int) == 0) = false := by simp; omega
            have HX := Lib.hid (show leB (q + 1) x = leB q x ++ [y] by rw [leB_snoc, hm2, hy])
            have hlen := leB_length q x
            have HY := Lib.hid (show ∀ W : World, Holds8 (W.alloc (.cells #[.int .u8 (y.toNat : Int)] 5)).heap.size (W.alloc (.cells #[.int .u8 (y.toNat : Int)] 5)) (some ⟨W.heap.size, 0, none⟩) [y] from fun W => holds_one W y)
            have HROW := Lib.hid hrow
            have HLEN := Lib.hid hlen
            have hp1 : (1 : Int) ≤ (p : Int) := by omega
            clear hp hy hrow hlen hm hm2
            go_wp2_with (first
              | (go_at_call 44; refine (HQ.out _).mono ?_; rintro e w1 ⟨rfl, rfl⟩)
              | (at_builtin; refine wpList_append_bytes rfl (.tmp 35) (.tmp 42) rfl w.heap.size _ _ (leB q x) [y] rfl (ownsRow_below HROW.out ((Below.refl _ _).alloc (Nat.le_refl _) _)) (some ⟨wr.heap.size, 0, none⟩) 1 rfl (HY.out wr) (by rw [HLEN.out, List.length_singleton]; omega) (by have := hB.size; simp; omega) ?_; intro v' w1 hown' hgr hv; have HOW := Lib.hid hown'; have HBW := Lib.hid ((hB.alloc hB.size _).grown hgr (by have := hB.size; simp; omega) (own_row_ge HROW.out)); clear hown' hgr hv))
            go_roundw
            case rel => exact ⟨q + 1, by omega, by go_num, by rw [HX.out]; exact HOW.out, HBW.out⟩
            case measure => simp [intOf]; omega
          · obtain rfl : q = 2 := by omega
            go_wp2
            go_ret2
            rw [HE.out, HB.out]
            exact ⟨_, rfl, hrow, hB⟩
      · have hlo : x < 4294967296 := by simpa using hbig
        clear hbig
        have hpw := fun q (hq : q ≤ 7) W => power_any q hq W
        have HPW := Lib.hid hpw
        clear hpw
        have HP4 := Lib.hid (show ∀ W, Calls Try.prog 44 #[.int .i64 4] W fun e w' => e = .returned (.int .u64 4294967296) ∧ W = w' from fun W => HPW.out 4 (by decide) W)
        have d1 : decide ((4294967296 : Int) ≤ (x : Int)) = false := by simp; omega
        go_enter Try.func34, Try.ntmps34
        go_wp2_with (go_at_call 44; refine (HP4.out _).mono ?_; rintro e w1 ⟨rfl, rfl⟩)
        go_loopw [6, 7] (fun o i wr => ∃ q : Nat, q ≤ 4 ∧ i = .int .i64 (q : Int) ∧ wr.ownsRow w.heap.size 5 1 o (leB q x).length (vals (leB q x)) ∧ Below w.heap.size w wr) (fun _ i _ => 4 - (intOf i).toNat)
        case atStart => exact ⟨0, by decide, rfl, World.ownsRow_nil _ _ _ _, Below.refl _ _⟩
        case round =>
          obtain ⟨q, hq, rfl, hrow, hB⟩ := hrel
          by_cases hlt : q < 4
          · obtain ⟨p, hp⟩ : ∃ p, 256 ^ q = p := ⟨_, rfl⟩
            have hp0 : 0 < p := by rw [← hp]; exact Nat.pow_pos (by decide)
            have HQ := Lib.hid (show ∀ W, Calls Try.prog 44 #[.int .i64 (q : Int)] W fun e w' => e = .returned (.int .u64 (p : Int)) ∧ W = w' from fun W => by rw [← hp]; exact HPW.out q (by omega) W)
            obtain ⟨y, hy⟩ : ∃ y, UInt8.ofNat (x / p % 256) = y := ⟨_, rfl⟩
            obtain ⟨m, hm⟩ : ∃ m, x / p = m := ⟨_, rfl⟩
            have hm64 : m ≤ x := by rw [← hm]; exact Nat.div_le_self _ _
            have e1 : IntKind.u64.wrap ((x : Int) / (p : Int)) = (m : Int) := by
              rw [← hm, show (x : Int) / (p : Int) = ((x / p : Nat) : Int) by simp]
              exact IntWalk.u64_in _ (by rw [hm]; omega)
            rw [hm] at hy
            have ey : (m : Int) % 256 = (y.toNat : Int) := by
              rw [← hy, UInt8.toNat_ofNat']
              omega
            have hm2 : x / 256 ^ q = m := by rw [hp]; exact hm
            have hz : ((p : Int) == 0) = false := by simp; omega
            have HX := Lib.hid (show leB (q + 1) x = leB q x ++ [y] by rw [leB_snoc, hm2, hy])
            have hlen := leB_length q x
            have HY := Lib.hid (show ∀ W : World, Holds8 (W.alloc (.cells #[.int .u8 (y.toNat : Int)] 5)).heap.size (W.alloc (.cells #[.int .u8 (y.toNat : Int)] 5)) (some ⟨W.heap.size, 0, none⟩) [y] from fun W => holds_one W y)
            have HROW := Lib.hid hrow
            have HLEN := Lib.hid hlen
            have hp1 : (1 : Int) ≤ (p : Int) := by omega
            clear hp hy hrow hlen hm hm2
            go_wp2_with (first
              | (go_at_call 44; refine (HQ.out _).mono ?_; rintro e w1 ⟨rfl, rfl⟩)
              | (at_builtin; refine wpList_append_bytes rfl (.tmp 35) (.tmp 42) rfl w.heap.size _ _ (leB q x) [y] rfl (ownsRow_below HROW.out ((Below.refl _ _).alloc (Nat.le_refl _) _)) (some ⟨wr.heap.size, 0, none⟩) 1 rfl (HY.out wr) (by rw [HLEN.out, List.length_singleton]; omega) (by have := hB.size; simp; omega) ?_; intro v' w1 hown' hgr hv; have HOW := Lib.hid hown'; have HBW := Lib.hid ((hB.alloc hB.size _).grown hgr (by have := hB.size; simp; omega) (own_row_ge HROW.out)); clear hown' hgr hv))
            go_roundw
            case rel => exact ⟨q + 1, by omega, by go_num, by rw [HX.out]; exact HOW.out, HBW.out⟩
            case measure => simp [intOf]; omega
          · obtain rfl : q = 4 := by omega
            go_wp2
            go_ret2
            rw [HE.out, HB.out]
            exact ⟨_, rfl, hrow, hB⟩
      · have hlo : x < 18446744073709551616 := by simpa using hbig
        clear hbig
        have hpw := fun q (hq : q ≤ 7) W => power_any q hq W
        have HPW := Lib.hid hpw
        clear hpw
        have e8 : ((8 : Nat) : Int) = 8 := rfl
        rw [e8] at HE HB ⊢
        go_enter Try.func34, Try.ntmps34
        go_wp2
        go_loopw [6, 7] (fun o i wr => ∃ q : Nat, q ≤ 8 ∧ i = .int .i64 (q : Int) ∧ wr.ownsRow w.heap.size 5 1 o (leB q x).length (vals (leB q x)) ∧ Below w.heap.size w wr) (fun _ i _ => 8 - (intOf i).toNat)
        case atStart => exact ⟨0, by decide, rfl, World.ownsRow_nil _ _ _ _, Below.refl _ _⟩
        case round =>
          obtain ⟨q, hq, rfl, hrow, hB⟩ := hrel
          by_cases hlt : q < 8
          · obtain ⟨p, hp⟩ : ∃ p, 256 ^ q = p := ⟨_, rfl⟩
            have hp0 : 0 < p := by rw [← hp]; exact Nat.pow_pos (by decide)
            have HQ := Lib.hid (show ∀ W, Calls Try.prog 44 #[.int .i64 (q : Int)] W fun e w' => e = .returned (.int .u64 (p : Int)) ∧ W = w' from fun W => by rw [← hp]; exact HPW.out q (by omega) W)
            obtain ⟨y, hy⟩ : ∃ y, UInt8.ofNat (x / p % 256) = y := ⟨_, rfl⟩
            obtain ⟨m, hm⟩ : ∃ m, x / p = m := ⟨_, rfl⟩
            have hm64 : m ≤ x := by rw [← hm]; exact Nat.div_le_self _ _
            have e1 : IntKind.u64.wrap ((x : Int) / (p : Int)) = (m : Int) := by
              rw [← hm, show (x : Int) / (p : Int) = ((x / p : Nat) : Int) by simp]
              exact IntWalk.u64_in _ (by rw [hm]; omega)
            rw [hm] at hy
            have ey : (m : Int) % 256 = (y.toNat : Int) := by
              rw [← hy, UInt8.toNat_ofNat']
              omega
            have hm2 : x / 256 ^ q = m := by rw [hp]; exact hm
            have hz : ((p : Int) == 0) = false := by simp; omega
            have HX := Lib.hid (show leB (q + 1) x = leB q x ++ [y] by rw [leB_snoc, hm2, hy])
            have hlen := leB_length q x
            have HY := Lib.hid (show ∀ W : World, Holds8 (W.alloc (.cells #[.int .u8 (y.toNat : Int)] 5)).heap.size (W.alloc (.cells #[.int .u8 (y.toNat : Int)] 5)) (some ⟨W.heap.size, 0, none⟩) [y] from fun W => holds_one W y)
            have HROW := Lib.hid hrow
            have HLEN := Lib.hid hlen
            have hp1 : (1 : Int) ≤ (p : Int) := by omega
            clear hp hy hrow hlen hm hm2
            go_wp2_with (first
              | (go_at_call 44; refine (HQ.out _).mono ?_; rintro e w1 ⟨rfl, rfl⟩)
              | (at_builtin; refine wpList_append_bytes rfl (.tmp 35) (.tmp 42) rfl w.heap.size _ _ (leB q x) [y] rfl (ownsRow_below HROW.out ((Below.refl _ _).alloc (Nat.le_refl _) _)) (some ⟨wr.heap.size, 0, none⟩) 1 rfl (HY.out wr) (by rw [HLEN.out, List.length_singleton]; omega) (by have := hB.size; simp; omega) ?_; intro v' w1 hown' hgr hv; have HOW := Lib.hid hown'; have HBW := Lib.hid ((hB.alloc hB.size _).grown hgr (by have := hB.size; simp; omega) (own_row_ge HROW.out)); clear hown' hgr hv))
            go_roundw
            case rel => exact ⟨q + 1, by omega, by go_num, by rw [HX.out]; exact HOW.out, HBW.out⟩
            case measure => simp [intOf]; omega
          · obtain rfl : q = 8 := by omega
            go_wp2
            go_ret2
            rw [HE.out, HB.out]
            exact ⟨_, rfl, hrow, hB⟩
end Go.Proofs.Ytngkckngjobojaa.Oct
