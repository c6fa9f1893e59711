/- The contracts of purserref01.GetSize and GetBytes. No condition beyond the memory's reach. -/
import Derived.Test.YtngkckngjobojaaOctFF
import Derived.Test.YtngkckngjobojaaOctL
namespace Go.Proofs.Ytngkckngjobojaa.Oct
open Go.Proofs.Ytngkckngjobojaa Go.RowKit Go.Shelf
theorem fixedR_big (l : List UInt8) (j : Nat) (hj : j = 1 ∨ j = 2 ∨ j = 4 ∨ j = 8) : fixedR l (j : Int) = if l.length < j then (0, 10, l) else (leNum (l.take j), 0, l.drop j) := by
  unfold fixedR
  rw [if_pos (by rcases hj with rfl | rfl | rfl | rfl <;> decide)]
  simp
theorem size_case (x : UInt8) (l : List UInt8) (j : Nat) (hj : j = 2 ∨ j = 4 ∨ j = 8) (ha : annL x = j + 1) :
    (fixedR l (j : Int) = (0, 10, l) ∧ eyeSizeR (x :: l) = (0, 10, x :: l)) ∨
    (∃ m, m < 18446744073709551616 ∧ j ≤ l.length ∧ fixedR l (j : Int) = (m, 0, l.drop j) ∧ ((sizeB m = (x :: l).take (j + 1) ∧ eyeSizeR (x :: l) = (m, 0, l.drop j)) ∨ (¬ sizeB m = (x :: l).take (j + 1) ∧ eyeSizeR (x :: l) = (0, 10, x :: l)))) := by
  have hlt := szOf_lt (x :: l)
  have hb := @size_back (x :: l)
  rw [fixedR_big l j (by omega)]
  by_cases hs : l.length < j
  · rw [if_pos hs]
    refine .inl ⟨rfl, ?_⟩
    have e0 : szOf (x :: l) = (0, 0, false) := by
      unfold szOf
      simp only [ha]
      rw [if_pos (by rw [List.length_cons]; omega)]
    unfold eyeSizeR
    rw [e0]
    rfl
  · rw [if_neg hs]
    have e1 : szOf (x :: l) = (leNum (l.take j), j + 1, cmpL (leNum (l.take j)) == j + 1) := by
      unfold szOf
      simp only [ha]
      rw [if_neg (by simp; omega), if_neg (by omega)]
      simp
    rw [e1] at hlt hb
    refine .inr ⟨_, hlt, by omega, rfl, ?_⟩
    unfold eyeSizeR
    rw [e1]
    by_cases hc : cmpL (leNum (l.take j)) = j + 1
    · refine .inl ⟨hb (by simpa using hc), ?_⟩
      simp only
      rw [if_pos (by simpa using hc)]
      simp
    · refine .inr ⟨fun h => ?_, ?_⟩
      · have h2 := congrArg List.length h
        rw [sizeB_length, List.length_take, List.length_cons, Nat.min_eq_left (by omega)] at h2
        exact hc h2
      · simp only
        rw [if_neg (by simpa using hc)]
set_option maxRecDepth 100000 in
set_option maxHeartbeats 2000000 in
theorem getSize_any (bs : List UInt8) (A : Option Addr) (c n₀ k : Nat) (hk : k ≤ bs.length) (hl : bs.length ≤ 20000) (w : World) (hh : Holds8 n₀ w A bs) (hn : n₀ ≤ w.heap.size) (hc : bs.length ≤ c) (hcm : c ≤ 9223372036854775807) :
    Calls Try.prog 20 #[.slice A bs.length c, .int .i64 (k : Int)] w (GotN bs (eyeSizeR (bs.drop k)) w) := by
  by_cases hkl : bs.length ≤ k
  · have hd : bs.drop k = [] := List.drop_eq_nil_of_le hkl
    have HR := Lib.hid (show eyeSizeR (bs.drop k) = (0, 10, []) by rw [hd]; rfl)
    obtain rfl : k = bs.length := by omega
    clear hh hd
    go_enter Try.func20, Try.ntmps20
    go_wp2
    go_ret3
    refine ⟨?_, Below.refl _ _⟩
    rw [HR.out]
    rfl
  · have hk1 : k < bs.length := by omega
    obtain ⟨x, hx⟩ : ∃ x, bs[k] = x := ⟨_, rfl⟩
    obtain ⟨l, hlx⟩ : ∃ l, bs.drop (k + 1) = l := ⟨_, rfl⟩
    have hd : bs.drop k = x :: l := by rw [List.drop_eq_getElem_cons hk1, hx, hlx]
    have hll : l.length = bs.length - (k + 1) := by rw [← hlx, List.length_drop]
    have hkk := got_at bs k hk
    rw [hd] at hkk
    have ok : ∀ (j : Nat) (m : Nat), k + (j + 1) ≤ bs.length → bs.length - (l.drop j).length = k + (j + 1) := fun j m h => by rw [List.length_drop, hll]; omega
    have hfin : ∀ (R : Nat × Int × List UInt8) (m T : Nat) (E : Int), R.1 = m → R.2.1 = E → bs.length - R.2.2.length = T → ∀ e w', (e = .returned (.tuple #[.int .u64 (m : Int), .int .i64 (T : Int), .int .i64 E]) ∧ Below w.heap.size w w') → GotN bs R w e w' := by
      intro R m T E h1 h2 h3 e w' h
      refine ⟨?_, h.2⟩
      rw [h.1, h1, h2, h3]
    rw [hd]
    by_cases h253 : x = 253
    · subst h253
      rcases size_case 253 l 2 (.inl rfl) rfl with ⟨h1, h2⟩ | ⟨m, hm, hjl, h1, ⟨h2, h3⟩ | ⟨h2, h3⟩⟩
      · exact (getSize_x253_bad bs A c n₀ k 0 (by decide) hk1 hx hl w hh hn hc hcm (by rw [hlx]; exact h1)).mono (hfin _ 0 k 10 (by rw [h2]) (by rw [h2]) (by rw [h2]; exact hkk))
      · exact (getSize_x253_eq bs A c n₀ k m hm hk1 hx hl w hh hn hc hcm (by rw [hlx]; exact h1) (by rw [hd]; exact h2) (by omega)).mono (hfin _ m (k + 3) 0 (by rw [h3]) (by rw [h3]) (by rw [h3]; exact ok 2 m (by omega)))
      · exact (getSize_x253_ne bs A c n₀ k m hm hk1 hx hl w hh hn hc hcm (by rw [hlx]; exact h1) (by rw [hd]; exact h2) (by omega)).mono (hfin _ 0 k 10 (by rw [h3]) (by rw [h3]) (by rw [h3]; exact hkk))
    · by_cases h254 : x = 254
      · subst h254
        rcases size_case 254 l 4 (.inr (.inl rfl)) rfl with ⟨h1, h2⟩ | ⟨m, hm, hjl, h1, ⟨h2, h3⟩ | ⟨h2, h3⟩⟩
        · exact (getSize_x254_bad bs A c n₀ k 0 (by decide) hk1 hx hl w hh hn hc hcm (by rw [hlx]; exact h1)).mono (hfin _ 0 k 10 (by rw [h2]) (by rw [h2]) (by rw [h2]; exact hkk))
        · exact (getSize_x254_eq bs A c n₀ k m hm hk1 hx hl w hh hn hc hcm (by rw [hlx]; exact h1) (by rw [hd]; exact h2) (by omega)).mono (hfin _ m (k + 5) 0 (by rw [h3]) (by rw [h3]) (by rw [h3]; exact ok 4 m (by omega)))
        · exact (getSize_x254_ne bs A c n₀ k m hm hk1 hx hl w hh hn hc hcm (by rw [hlx]; exact h1) (by rw [hd]; exact h2) (by omega)).mono (hfin _ 0 k 10 (by rw [h3]) (by rw [h3]) (by rw [h3]; exact hkk))
      · by_cases h255 : x = 255
        · subst h255
          rcases size_case 255 l 8 (.inr (.inr rfl)) rfl with ⟨h1, h2⟩ | ⟨m, hm, hjl, h1, ⟨h2, h3⟩ | ⟨h2, h3⟩⟩
          · exact (getSize_x255_bad bs A c n₀ k 0 (by decide) hk1 hx hl w hh hn hc hcm (by rw [hlx]; exact h1)).mono (hfin _ 0 k 10 (by rw [h2]) (by rw [h2]) (by rw [h2]; exact hkk))
          · exact (getSize_x255_eq bs A c n₀ k m hm hk1 hx hl w hh hn hc hcm (by rw [hlx]; exact h1) (by rw [hd]; exact h2) (by omega)).mono (hfin _ m (k + 9) 0 (by rw [h3]) (by rw [h3]) (by rw [h3]; exact ok 8 m (by omega)))
          · exact (getSize_x255_ne bs A c n₀ k m hm hk1 hx hl w hh hn hc hcm (by rw [hlx]; exact h1) (by rw [hd]; exact h2) (by omega)).mono (hfin _ 0 k 10 (by rw [h3]) (by rw [h3]) (by rw [h3]; exact hkk))
        · have hu := UInt8.toNat_lt x
          have g1 : x.toNat ≠ 253 := fun e => h253 (by rw [← UInt8.ofNat_toNat (x := x), e]; rfl)
          have g2 : x.toNat ≠ 254 := fun e => h254 (by rw [← UInt8.ofNat_toNat (x := x), e]; rfl)
          have g3 : x.toNat ≠ 255 := fun e => h255 (by rw [← UInt8.ofNat_toNat (x := x), e]; rfl)
          have ha : annL x = 1 := by unfold annL; rw [if_neg g1, if_neg g2, if_neg g3]
          have hsz : eyeSizeR (x :: l) = (x.toNat, 0, l) := by
            unfold eyeSizeR szOf
            simp only [ha]
            rw [if_neg (show ¬ (x :: l).length < 1 by simp)]
            simp
          have hfx : fixedR (bs.drop k) 1 = (x.toNat, 0, (bs.drop k).drop 1) := by
            rw [hd]
            have := fixedR_big (x :: l) 1 (.inl rfl)
            rw [if_neg (by simp)] at this
            refine Eq.trans this ?_
            simp [leNum]
          have hsb : sizeB x.toNat = (bs.drop k).take 1 := by
            rw [hd]
            unfold sizeB
            rw [if_pos (by omega), leB_one _ (by omega)]
            simp
          exact (getSize_one_eq bs A c n₀ k x.toNat (by omega) x (by simp; omega) (by simp; omega) (by simp; omega) hk1 hx hl w hh hn hc hcm hfx hsb (by omega)).mono (hfin _ x.toNat (k + 1) 0 (by rw [hsz]) (by rw [hsz]) (by rw [hsz]; simp only; omega))
set_option maxRecDepth 100000 in
set_option maxHeartbeats 2000000 in
theorem getBytes_any (bs : List UInt8) (A : Option Addr) (c n₀ k : Nat) (hk : k ≤ bs.length) (hl : bs.length ≤ 20000) (most : Int) (hm : most ≤ 9223372036854775807) (w : World) (hh : Holds8 n₀ w A bs) (hn : n₀ ≤ w.heap.size) (hc : bs.length ≤ c) (hcm : c ≤ 9223372036854775807) :
    Calls Try.prog 23 #[.slice A bs.length c, .int .i64 (k : Int), .int .i64 most] w (GotB bs (bytesR (bs.drop k) most) w) := by
  have HS := Lib.hid (getSize_any bs A c n₀ k hk hl w hh hn hc hcm)
  have HK := Lib.hid (got_at bs k hk)
  obtain ⟨u, hu⟩ : ∃ u, bs.drop k = u := ⟨_, rfl⟩
  rw [hu] at HS HK ⊢
  have hul : u.length = bs.length - k := by rw [← hu, List.length_drop]
  cases hok : (szOf u).2.2 with
  | false =>
    have HR := Lib.hid (show bytesR u most = ([], 10, u) by unfold bytesR; rw [if_neg (by rw [hok]; simp)])
    have he : eyeSizeR u = (0, 10, u) := by unfold eyeSizeR; rw [hok]; rfl
    rw [he] at HS
    unfold GotN at HS
    simp only [HK.out] at HS
    clear hok hh he hu
    go_enter Try.func23, Try.ntmps23
    go_wp2_with (go_at_call 20; refine HS.out.mono ?_; rintro e w1 ⟨rfl, hb1⟩)
    go_ret3
    refine ⟨.slice none 0 0, ?_, ?_, hb1⟩
    · rw [HR.out, HK.out]
      rfl
    · rw [HR.out]
      exact World.ownsRow_nil _ _ _ _
  | true =>
    have hle := szOf_le hok
    have hlt := szOf_lt u
    obtain ⟨a, ha⟩ : ∃ a, (szOf u).2.1 = a := ⟨_, rfl⟩
    obtain ⟨N, hN⟩ : ∃ N, (szOf u).1 = N := ⟨_, rfl⟩
    have he : eyeSizeR u = (N, 0, u.drop a) := by unfold eyeSizeR; rw [hok, if_pos rfl, ha, hN]
    rw [ha] at hle
    rw [hN] at hlt
    obtain ⟨hau, ha1⟩ := hle
    have hT : bs.length - (u.drop a).length = k + a := by rw [List.length_drop]; omega
    rw [he] at HS
    unfold GotN at HS
    simp only at HS
    rw [hT] at HS
    obtain ⟨T, hTe⟩ : ∃ T, k + a = T := ⟨_, rfl⟩
    rw [hTe] at HS
    have hTl : T ≤ bs.length := by omega
    have i5 : 0 ≤ (bs.length : Int) - (T : Int) := by omega
    by_cases hgood : 0 ≤ most ∧ (N : Int) ≤ most ∧ N ≤ u.length - a
    · have HR := Lib.hid (show bytesR u most = ((u.drop a).take N, 0, (u.drop a).drop N) by unfold bytesR; rw [ha, hN, if_pos ⟨hok, hgood⟩])
      have hud : u.drop a = bs.drop T := by rw [← hu, List.drop_drop, hTe]
      rw [hud] at HR
      have HG := Lib.hid (got_more bs T N (by omega))
      obtain ⟨hm0, hmN, hNl⟩ := hgood
      have i2 : decide (most < 0) = false := by simp; omega
      have i3 : decide (most < (N : Int)) = false := by simp; omega
      have i4 : decide ((bs.length : Int) - (T : Int) < (N : Int)) = false := by simp; omega
      have i6 : N < 9223372036854775808 := by omega
      have hNT : T + N ≤ bs.length := by omega
      have hkb : k < bs.length := by omega
      obtain ⟨b, off, rfl, hb, hcq⟩ := hh.at_ hkb
      clear hcq
      have htl : ((bs.drop T).take N).length = N := by rw [List.length_take, List.length_drop]; omega
      have h9 := (hh.drop_ T c hTl hc).take_ N
      clear hh hok ha hN he hu hud hul hT
      by_cases hck : c = T
      · rw [← cut_eq hck] at h9
        subst hck
        have HN := Lib.hid (fun (m : Nat) (hm : m = N) q W hW => twin_n ((bs.drop c).take N) m (by omega) (some ⟨b, off, none⟩) q n₀ W hW (by omega))
        have H9 := Lib.hid h9
        clear h9 htl
        go_enter Try.func23, Try.ntmps23
        go_wp2_with (first
          | (go_at_call 20; refine HS.out.mono ?_; rintro e w1 ⟨rfl, hb1⟩)
          | (go_at_call 15; refine (HN.out _ (by omega) _ _ (H9.out.below hb1 hn)).mono ?_; rintro e w2 ⟨v, rfl, hr, hb2⟩))
        go_ret3
        refine ⟨v, ?_, ?_, hb1.trans (hb2.mono hb1.size)⟩
        · rw [HR.out, HG.out]
          rfl
        · rw [HR.out]
          exact ownsRow_base hr hb1.size
      · rw [← cut_ne hck] at h9
        have HN := Lib.hid (fun (m : Nat) (hm : m = N) q W hW => twin_n ((bs.drop T).take N) m (by omega) (some ⟨b, off + T, none⟩) q n₀ W hW (by omega))
        have H9 := Lib.hid h9
        clear h9 htl
        go_enter Try.func23, Try.ntmps23
        go_wp2_with (first
          | (go_at_call 20; refine HS.out.mono ?_; rintro e w1 ⟨rfl, hb1⟩)
          | (go_at_call 15; refine (HN.out _ (by omega) _ _ (H9.out.below hb1 hn)).mono ?_; rintro e w2 ⟨v, rfl, hr, hb2⟩))
        go_ret3
        refine ⟨v, ?_, ?_, hb1.trans (hb2.mono hb1.size)⟩
        · rw [HR.out, HG.out]
          rfl
        · rw [HR.out]
          exact ownsRow_base hr hb1.size
    · have HR := Lib.hid (show bytesR u most = ([], 10, u) by unfold bytesR; rw [ha, hN, if_neg (fun hq => hgood hq.2)])
      have hNu : ¬ (0 ≤ most ∧ (N : Int) ≤ most ∧ T + N ≤ bs.length) := fun h => hgood ⟨h.1, h.2.1, by omega⟩
      clear hh hok ha hN he hu hul hT hgood
      by_cases hm0 : most < 0
      · clear hNu
        go_enter Try.func23, Try.ntmps23
        go_wp2_with (go_at_call 20; refine HS.out.mono ?_; rintro e w1 ⟨rfl, hb1⟩)
        go_ret3
        refine ⟨.slice none 0 0, ?_, ?_, hb1⟩
        · rw [HR.out, HK.out]
          rfl
        · rw [HR.out]
          exact World.ownsRow_nil _ _ _ _
      · have i2 : decide (most < 0) = false := by simp; omega
        have i2' : 0 ≤ most := by omega
        by_cases hmN : most < (N : Int)
        · clear hNu
          go_enter Try.func23, Try.ntmps23
          go_wp2_with (go_at_call 20; refine HS.out.mono ?_; rintro e w1 ⟨rfl, hb1⟩)
          go_ret3
          refine ⟨.slice none 0 0, ?_, ?_, hb1⟩
          · rw [HR.out, HK.out]
            rfl
          · rw [HR.out]
            exact World.ownsRow_nil _ _ _ _
        · have i3 : decide (most < (N : Int)) = false := by simp; omega
          have i4 : (bs.length : Int) - (T : Int) < (N : Int) := by omega
          clear hNu
          go_enter Try.func23, Try.ntmps23
          go_wp2_with (go_at_call 20; refine HS.out.mono ?_; rintro e w1 ⟨rfl, hb1⟩)
          go_ret3
          refine ⟨.slice none 0 0, ?_, ?_, hb1⟩
          · rw [HR.out, HK.out]
            rfl
          · rw [HR.out]
            exact World.ownsRow_nil _ _ _ _
end Go.Proofs.Ytngkckngjobojaa.Oct
