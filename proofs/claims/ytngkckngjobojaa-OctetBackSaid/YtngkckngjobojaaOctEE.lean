/- The contracts of purserref01.GetFixed and GetRaw. No condition beyond the memory's reach. -/
import Derived.Test.YtngkckngjobojaaOctDD
namespace Go.Proofs.Ytngkckngjobojaa.Oct
open Go.Proofs.Ytngkckngjobojaa Go.RowKit Go.Shelf
def GotN (bs : List UInt8) (R : Nat × Int × List UInt8) (w : World) (e : Ending) (w' : World) : Prop :=
  e = .returned (.tuple #[.int .u64 (R.1 : Int), .int .i64 ((bs.length - R.2.2.length : Nat) : Int), .int .i64 R.2.1]) ∧ Below w.heap.size w w'
def GotB (bs : List UInt8) (R : List UInt8 × Int × List UInt8) (w : World) (e : Ending) (w' : World) : Prop :=
  ∃ v, e = .returned (.tuple #[v, .int .i64 ((bs.length - R.2.2.length : Nat) : Int), .int .i64 R.2.1]) ∧ w'.ownsRow w.heap.size 5 1 v R.1.length (vals R.1) ∧ Below w.heap.size w w'
theorem got_at (bs : List UInt8) (k : Nat) (hk : k ≤ bs.length) : bs.length - (bs.drop k).length = k := by rw [List.length_drop]; omega
theorem got_more (bs : List UInt8) (k j : Nat) (hk : k + j ≤ bs.length) : bs.length - ((bs.drop k).drop j).length = k + j := by rw [List.drop_drop, List.length_drop]; omega
theorem twin_n (bs : List UInt8) (n : Nat) (hn : n = bs.length) (A : Option Addr) (c n₀ : Nat) (w : World) (hh : Holds8 n₀ w A bs) (hl : bs.length ≤ 140737488355328) :
    Calls Try.prog 15 #[.slice A n c] w (OwnBytes w bs) := by
  subst hn
  exact twin_in bs A c n₀ w (.inl hh) hl
set_option maxRecDepth 100000 in
set_option maxHeartbeats 2000000 in
theorem getFixed_any (bs : List UInt8) (A : Option Addr) (c n₀ k : Nat) (hk : k ≤ bs.length) (hl : bs.length ≤ 20000) (s : Int) (w : World) (hh : Holds8 n₀ w A bs) (hn : n₀ ≤ w.heap.size) (hc : bs.length ≤ c) (hcm : c ≤ 9223372036854775807) :
    Calls Try.prog 18 #[.slice A bs.length c, .int .i64 (k : Int), .int .i64 s] w (GotN bs (fixedR (bs.drop k) s) w) := by
  cases hok : sizeOkB s with
  | false =>
    have HR := Lib.hid (show fixedR (bs.drop k) s = (0, 2, bs.drop k) by unfold fixedR; rw [hok]; rfl)
    have HK := Lib.hid (got_at bs k hk)
    obtain ⟨n1, n2, n4, n8⟩ := sizeNot s hok
    clear hok hh
    go_enter Try.func18, Try.ntmps18
    go_wp2
    go_ret3
    refine ⟨?_, Below.refl _ _⟩
    rw [HR.out, HK.out]
    rfl
  | true =>
    obtain ⟨j, rfl, hj⟩ := sizeOk_cases hok
    by_cases hs : bs.length - k < j
    · have HR := Lib.hid (show fixedR (bs.drop k) (j : Int) = (0, 10, bs.drop k) by unfold fixedR; rw [hok, if_pos rfl, if_pos (by rw [List.length_drop]; simpa using hs)])
      have HK := Lib.hid (got_at bs k hk)
      have d1 : (bs.length : Int) - (k : Int) < (j : Int) := by omega
      clear hok hs hh
      rcases hj with rfl | rfl | rfl | rfl
      all_goals
        go_enter Try.func18, Try.ntmps18
        go_wp2
        go_ret3
        refine ⟨?_, Below.refl _ _⟩
        rw [HR.out, HK.out]
        rfl
    · have HR := Lib.hid (show fixedR (bs.drop k) (j : Int) = (leNum ((bs.drop k).take j), 0, (bs.drop k).drop j) by unfold fixedR; rw [hok, if_pos rfl, if_neg (by rw [List.length_drop]; simpa using hs)]; simp)
      have HK := Lib.hid (got_more bs k j (by omega))
      have d1 : (j : Int) ≤ (bs.length : Int) - (k : Int) := by omega
      have hj1 : 1 ≤ j := by omega
      have h9 := hh.drop_ k c hk hc
      obtain ⟨b, off, rfl, hb, _⟩ := hh.at_ (show k < bs.length by omega)
      rw [← cut_ne (show ¬ c = k by omega)] at h9
      have HH := Lib.hid (h9.take_ j)
      have htl : ((bs.drop k).take j).length = j := by rw [List.length_take, List.length_drop]; omega
      have hck : ¬ c = k := by omega
      have HN := Lib.hid (fun (m : Nat) (hm : m = j) q => refNumber_any ((bs.drop k).take j) (by omega) m (by omega) (some ⟨b, off + k, none⟩) q n₀ w HH.out hn)
      clear hok hs hh h9 htl
      rcases hj with rfl | rfl | rfl | rfl
      all_goals
        go_enter Try.func18, Try.ntmps18
        go_wp2_with (go_at_call 41; refine (HN.out _ (by omega) _).mono ?_; rintro e w1 ⟨rfl, hb1⟩)
        go_ret3
        refine ⟨?_, hb1⟩
        rw [HR.out, HK.out]
        rfl
set_option maxRecDepth 100000 in
set_option maxHeartbeats 2000000 in
theorem getRaw_any (bs : List UInt8) (A : Option Addr) (c n₀ k : Nat) (hk : k ≤ bs.length) (hl : bs.length ≤ 20000) (s : Int) (w : World) (hh : Holds8 n₀ w A bs) (hc : bs.length ≤ c) (hcm : c ≤ 9223372036854775807) (hA : A = none → c = 0) :
    Calls Try.prog 24 #[.slice A bs.length c, .int .i64 (k : Int), .int .i64 s] w (GotB bs (rawR (bs.drop k) s) w) := by
  by_cases hs0 : s < 0
  · have HR := Lib.hid (show rawR (bs.drop k) s = ([], 2, bs.drop k) by unfold rawR; rw [if_pos hs0])
    have HK := Lib.hid (got_at bs k hk)
    clear hh
    go_enter Try.func24, Try.ntmps24
    go_wp2
    go_ret3
    refine ⟨.slice none 0 0, ?_, ?_, Below.refl _ _⟩
    · rw [HR.out, HK.out]
      rfl
    · rw [HR.out]
      exact World.ownsRow_nil _ _ _ _
  · obtain ⟨j, rfl⟩ : ∃ j : Nat, s = (j : Int) := ⟨s.toNat, by omega⟩
    by_cases hs : bs.length - k < j
    · have HR := Lib.hid (show rawR (bs.drop k) (j : Int) = ([], 10, bs.drop k) by unfold rawR; rw [if_neg hs0, if_pos (by rw [List.length_drop]; simpa using hs)])
      have HK := Lib.hid (got_at bs k hk)
      have d1 : (bs.length : Int) - (k : Int) < (j : Int) := by omega
      have d0 : (0 : Int) ≤ (j : Int) := by omega
      clear hs hs0 hh
      go_enter Try.func24, Try.ntmps24
      go_wp2
      go_ret3
      refine ⟨.slice none 0 0, ?_, ?_, Below.refl _ _⟩
      · rw [HR.out, HK.out]
        rfl
      · rw [HR.out]
        exact World.ownsRow_nil _ _ _ _
    · have HR := Lib.hid (show rawR (bs.drop k) (j : Int) = ((bs.drop k).take j, 0, (bs.drop k).drop j) by unfold rawR; rw [if_neg hs0, if_neg (by rw [List.length_drop]; simpa using hs)]; simp)
      have HK := Lib.hid (got_more bs k j (by omega))
      have d1 : (j : Int) ≤ (bs.length : Int) - (k : Int) := by omega
      have d0 : (0 : Int) ≤ (j : Int) := by omega
      have htl : ((bs.drop k).take j).length = j := by rw [List.length_take, List.length_drop]; omega
      have h9 := (hh.drop_ k c hk hc).take_ j
      have HN := Lib.hid (fun (m : Nat) (hm : m = j) q => twin_n ((bs.drop k).take j) m (by omega) (cutAt A k c) q n₀ w h9 (by omega))
      clear hs h9 htl
      cases A with
      | none =>
        obtain rfl := hA rfl
        have hbl : bs.length = 0 := by omega
        obtain rfl : k = 0 := by omega
        obtain rfl : j = 0 := by omega
        have HN2 := Lib.hid (show ∀ (m : Nat), m = 0 → ∀ q, Calls Try.prog 15 #[.slice none m q] w (OwnBytes w ((bs.drop 0).take 0)) from HN.out)
        have hb0 : bs = [] := List.eq_nil_of_length_eq_zero hbl
        subst hb0
        clear HN hh hbl
        go_enter Try.func24, Try.ntmps24
        go_wp2_with (go_at_call 15; refine (HN2.out _ rfl _).mono ?_; rintro e w1 ⟨v, rfl, hr, hb1⟩)
        go_ret3
        refine ⟨v, ?_, ?_, hb1⟩
        · rw [HR.out, HK.out]
          rfl
        · rw [HR.out]
          exact hr
      | some a =>
        obtain ⟨b, off, rfl⟩ : ∃ b off, a = (⟨b, off, none⟩ : Addr) := by
          rcases hh with ⟨e, _⟩ | ⟨b, off, e, _⟩
          · cases e
          · injection e with e; exact ⟨b, off, e⟩
        clear hh
        by_cases hck : c = k
        · rw [← cut_eq hck] at HN
          go_enter Try.func24, Try.ntmps24
          go_wp2_with (go_at_call 15; refine (HN.out _ (by omega) _).mono ?_; rintro e w1 ⟨v, rfl, hr, hb1⟩)
          go_ret3
          refine ⟨v, ?_, ?_, hb1⟩
          · rw [HR.out, HK.out]
            rfl
          · rw [HR.out]
            exact hr
        · rw [← cut_ne hck] at HN
          go_enter Try.func24, Try.ntmps24
          go_wp2_with (go_at_call 15; refine (HN.out _ (by omega) _).mono ?_; rintro e w1 ⟨v, rfl, hr, hb1⟩)
          go_ret3
          refine ⟨v, ?_, ?_, hb1⟩
          · rw [HR.out, HK.out]
            rfl
          · rw [HR.out]
            exact hr
end Go.Proofs.Ytngkckngjobojaa.Oct
