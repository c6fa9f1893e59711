/- The contracts of crc.Mark and crc.Bare. No condition beyond the memory's reach. -/
import Derived.Test.YtagcdgfdflnphaaRefA
import Derived.Test.YtagcdgfdflnphaaCrcE
namespace Go.Proofs.Ytagcdgfdflnphaa.Oct
open Go.Proofs.Ytagcdgfdflnphaa Go.RowKit Go.Shelf

theorem one_sum (bs : List UInt8) (hl : bs.length ≤ 140737488351232) (c : Nat) (A : Option Addr) (w : World) (h : Holds8 w.heap.size w A bs) :
    Calls Try.prog 9 #[.slice (some ⟨w.heap.size, 0, none⟩) 1 1] (w.alloc (.cells #[.slice A bs.length c] 22)) fun e w' => e = .returned (.int .u32 (onS 0 bs : Int)) ∧ Below w.heap.size w w' := sum_one bs hl c A w h
set_option maxRecDepth 100000 in
set_option maxHeartbeats 1000000 in
theorem mark_any (bs : List UInt8) (hl : bs.length ≤ 1000000000) (A : Option Addr) (c : Nat) (w : World) (h : Holds8 w.heap.size w A bs) :
    Calls Try.prog 13 #[.slice A bs.length c] w (OwnBytes w (bs ++ leB 4 (onS 0 bs))) := by
  have H := Lib.hid h
  clear h
  obtain ⟨S, hS⟩ : ∃ S, onS 0 bs = S := ⟨_, rfl⟩
  have hS32 : S < 4294967296 := by rw [← hS]; exact onS_lt _ _
  have hsum := fun W hW => one_sum bs (by omega) c A W hW
  rw [hS] at hsum ⊢
  clear hS
  have hfb : fixedB 4 S = leB 4 S := by
    unfold fixedB
    rw [if_pos (by decide), if_neg (by simp; omega)]
    rfl
  have hfe : fixedE 4 S = 0 := by
    unfold fixedE
    rw [if_pos (by decide), if_neg (by simp; omega)]
  have hfix := fun (base b : Nat) (xs : List UInt8) W hW hx hb => penFixed_any base b xs 4 S (by omega) W hW hx hb
  rw [hfb, hfe] at hfix
  have HSUM := Lib.hid hsum
  have HFIX := Lib.hid (show ∀ (base b : Nat) (xs : List UInt8) (W : World), PenAt base W b xs → xs.length + 8 ≤ 100000000000000 → base ≤ W.heap.size → Calls Try.prog 24 #[.pointer (some ⟨b, 0, none⟩), .int .i64 4, .int .u64 (S : Int)] W (Wrote base b xs (leB 4 S) 0 W) from hfix)
  clear hsum hfb hfe hfix
  go_enter Try.func13, Try.ntmps13
  have hp0 := Lib.hid (pen_new w)
  have hap := Lib.hid (Apart8.low (n₀ := w.heap.size) (pen_new w) (Nat.le_refl _) (by simp) (H.out.below ((Below.refl _ w).alloc (Nat.le_refl _) _) (Nat.le_refl _)))
  have hqp0 := parts_one (c := c) hp0.out hap.out _ rfl
  rw [World.size_alloc] at hqp0
  have hqp := Lib.hid hqp0
  clear hqp0
  go_wp2_with (first
    | (go_at_call 23; (with_reducible refine (penRaw_any w.heap.size w.heap.size [] [(A, bs, c)] 1 rfl _ 1 _ (hp0.out.below ((Below.refl _ _).alloc (Nat.le_refl _) _)) hqp.out (by simp [flat] <;> omega) (by simp) (by simp <;> omega)).mono ?_); rintro e w1 ⟨rfl, hp1, hs1⟩; rw [List.nil_append, show flat [(A, bs, c)] = bs by simp [flat]] at hp1; have n1 : w.heap.size + 2 ≤ w1.heap.size := (by have := hs1.size; simp at this; omega); have b1 := Lib.hid (hs1.below (hp0.out.below ((Below.refl _ _).alloc (Nat.le_refl _) _)) (by simp <;> omega)); have h1 := Lib.hid ((H.out.below (((Below.refl _ w).alloc (Nat.le_refl _) (.cells #[.slice none 0 0] 51)).alloc (by simp) (.cells #[.slice A bs.length c] 22)) (Nat.le_refl _)).below b1.out (Nat.le_refl _)))
    | (go_at_call 9; (with_reducible refine (HSUM.out _ (h1.out.more (by omega))).mono ?_); rintro e w2 ⟨rfl, hb2⟩)
    | (go_at_call 24; (with_reducible refine (HFIX.out _ _ bs _ (hp1.below hb2) (by omega) (by have := hb2.size; omega)).mono ?_); rintro e w3 ⟨rfl, hp3, hs3⟩)
    | (go_at_call 25; (with_reducible refine (penAll_any _ _ _ _ hp3 (by simp [leB_length] <;> omega)).mono ?_); rintro e w4 ⟨v, rfl, hr4, hb4⟩))
  go_ret
  have n2 := hb2.size
  have n3 := hs3.size
  have b0 : Below w.heap.size w ((w.alloc (.cells #[.slice none 0 0] 51)).alloc (.cells #[.slice A bs.length c] 22)) := ((Below.refl _ w).alloc (Nat.le_refl _) _).alloc (by simp) _
  have b3 := hs3.below (hp1.below hb2) (by omega)
  refine ⟨v, rfl, ownsRow_base hr4 (by omega), (((b0.trans b1.out).trans (hb2.mono (by omega))).trans b3).trans (hb4.mono (by omega))⟩

/-- What crc.Bare makes of bytes. -/
def bareR (m : List UInt8) : List UInt8 × Int := if m.length < 4 then ([], 20) else if leNum (m.drop (m.length - 4)) = onS 0 (m.take (m.length - 4)) then (m.take (m.length - 4), 0) else ([], 20)
set_option maxRecDepth 100000 in
set_option maxHeartbeats 1000000 in
theorem bare_any (m : List UInt8) (hl : m.length ≤ 1000000000) (A : Option Addr) (c : Nat) (hA : A = none → c = 0) (w : World) (h : Holds8 w.heap.size w A m) :
    Calls Try.prog 14 #[.slice A m.length c] w (OwnPair w (bareR m)) := by
  by_cases h4 : m.length < 4
  · have HR := Lib.hid (show bareR m = ([], 20) by unfold bareR; rw [if_pos h4])
    have d1 : (m.length : Int) < 4 := by omega
    clear h4 h
    go_enter Try.func14, Try.ntmps14
    go_wp2
    go_ret2
    rw [HR.out]
    exact ⟨_, rfl, World.ownsRow_nil _ _ _ _, Below.refl _ _⟩
  · have d1 : decide ((m.length : Int) < 4) = false := by simp; omega
    obtain ⟨k, hk⟩ : ∃ k, m.length - 4 = k := ⟨_, rfl⟩
    have hk4 : m.length = k + 4 := by omega
    have ek : (m.length : Int) - 4 = (k : Int) := by omega
    have hdl : (m.drop k).length = 4 := by rw [List.length_drop]; omega
    have htl : (m.take k).length = k := by rw [List.length_take]; omega
    have hlook := look_any m A c w.heap.size hA w h (Nat.le_refl _) (by omega)
    have hraw := fun base hi r W (hW : EyeAt base hi W r m) => eyeRaw_any base hi r m (k : Int) W hW (by omega)
    rw [show rawR m (k : Int) = (m.take k, 0, m.drop k) by unfold rawR; rw [if_neg (by omega), if_neg (by simp; omega)]; simp] at hraw
    have hfx := fun base hi r W (hW : EyeAt base hi W r (m.drop k)) => eyeFixed_any base hi r (m.drop k) 4 W hW (by rw [hdl]; decide)
    rw [show fixedR (m.drop k) 4 = (leNum (m.drop k), 0, []) by
      unfold fixedR
      rw [if_pos (by decide), if_neg (by rw [hdl]; decide)]
      have e1 : (m.drop k).take 4 = m.drop k := List.take_of_length_le (by omega)
      have e2 : (m.drop k).drop 4 = [] := List.drop_of_length_le (by omega)
      rw [show ((4 : Int).toNat) = 4 from rfl, e1, e2]] at hfx
    have hR : bareR m = if leNum (m.drop k) = onS 0 (m.take k) then (m.take k, 0) else ([], 20) := by unfold bareR; rw [if_neg h4, hk]
    have hsum := fun cc AA W hW => one_sum (m.take k) (by omega) cc AA W hW
    rw [htl] at hsum
    obtain ⟨S, hS⟩ : ∃ S, onS 0 (m.take k) = S := ⟨_, rfl⟩
    obtain ⟨N, hN⟩ : ∃ N, leNum (m.drop k) = N := ⟨_, rfl⟩
    rw [hS] at hsum hR
    rw [hN] at hfx hR
    have hNl : N < 4294967296 := by
      have := leNum_lt (m.drop k)
      rw [hdl, hN] at this
      simpa using this
    have hS32 : S < 4294967296 := by rw [← hS]; exact onS_lt _ _
    have HLOOK := Lib.hid hlook
    have HRAW := Lib.hid hraw
    have HFX := Lib.hid hfx
    have HSUM := Lib.hid hsum
    have HTL := Lib.hid htl
    have ht4 : 4 ≤ m.length := by omega
    clear hk hk4 hdl htl hlook hraw hfx hsum hS hN h h4
    by_cases heq : N = S
    · have HR := Lib.hid (show bareR m = (m.take k, 0) by rw [hR, if_pos heq])
      subst heq
      clear hR
      go_enter Try.func14, Try.ntmps14
      go_wp2_with (first
        | (go_at_call 26; (with_reducible refine HLOOK.out.mono ?_); rintro e w1 ⟨r, rfl, he1, hb1⟩; have q1 := he1.1)
        | (go_at_call 27; (with_reducible refine (HRAW.out _ _ _ _ he1).mono ?_); rintro e w2 ⟨v, rfl, hr2, he2, hs2⟩; rw [HTL.out] at hr2; obtain ⟨X, cx, rfl, hx2, _, _, hax⟩ := own_open (bs := m.take k) (by rw [HTL.out]; exact hr2); rw [HTL.out] at hr2; rw [HTL.out]; have hne : ∀ a, X = some a → a.block ≠ r := fun a e => (by have := (hax a e).1; have := he1.lt; omega))
        | (go_at_call 28; (with_reducible refine (HFX.out _ _ _ _ he2).mono ?_); rintro e w3 ⟨rfl, he3, hs3⟩; have hx3 := Lib.hid ((hs3.holds (Nat.le_refl _) hx2 hne).more hs3.size))
        | (go_at_call 9; (with_reducible refine (HSUM.out _ _ _ hx3.out).mono ?_); rintro e w4 ⟨rfl, hb4⟩))
      go_ret2
      rw [HR.out]
      have hr3 := ownsRow_same hr2 (w' := w3) fun k' hk' => hs3.keep k' (hr2.lt k' hk').2 (by have := (hr2.lt k' hk').1; have := he1.lt; omega)
      have hr4 := ownsRow_below hr3 hb4
      have b2 := hs2.below he1 hb1.size
      have b3 := hs3.below he2 (Nat.le_trans hb1.size hs2.size)
      have n1 := hb1.size
      have n2 := hs2.size
      have n3 := hs3.size
      exact ⟨_, rfl, by rw [HTL.out]; exact ownsRow_base hr4 (by omega), ((hb1.trans b2).trans b3).trans (hb4.mono (by omega))⟩
    · have HR := Lib.hid (show bareR m = ([], 20) by rw [hR, if_neg heq])
      have hne2 : ((N : Int) != (S : Int)) = true := by rw [bne_iff_ne]; omega
      clear hR heq
      go_enter Try.func14, Try.ntmps14
      go_wp2_with (first
        | (go_at_call 26; (with_reducible refine HLOOK.out.mono ?_); rintro e w1 ⟨r, rfl, he1, hb1⟩; have q1 := he1.1)
        | (go_at_call 27; (with_reducible refine (HRAW.out _ _ _ _ he1).mono ?_); rintro e w2 ⟨v, rfl, hr2, he2, hs2⟩; rw [HTL.out] at hr2; obtain ⟨X, cx, rfl, hx2, _, _, hax⟩ := own_open (bs := m.take k) (by rw [HTL.out]; exact hr2); rw [HTL.out] at hr2; rw [HTL.out]; have hne : ∀ a, X = some a → a.block ≠ r := fun a e => (by have := (hax a e).1; have := he1.lt; omega))
        | (go_at_call 28; (with_reducible refine (HFX.out _ _ _ _ he2).mono ?_); rintro e w3 ⟨rfl, he3, hs3⟩; have hx3 := Lib.hid ((hs3.holds (Nat.le_refl _) hx2 hne).more hs3.size))
        | (go_at_call 9; (with_reducible refine (HSUM.out _ _ _ hx3.out).mono ?_); rintro e w4 ⟨rfl, hb4⟩))
      go_ret2
      rw [HR.out]
      have b2 := hs2.below he1 hb1.size
      have b3 := hs3.below he2 (Nat.le_trans hb1.size hs2.size)
      have n1 := hb1.size
      have n2 := hs2.size
      have n3 := hs3.size
      exact ⟨_, rfl, World.ownsRow_nil _ _ _ _, ((hb1.trans b2).trans b3).trans (hb4.mono (by omega))⟩
end Go.Proofs.Ytagcdgfdflnphaa.Oct
