/- The contracts of an eye's Raw, Bytes, Left, End. No condition beyond the memory's reach. -/
import Derived.Test.YtngkckngjobojaaOctH
namespace Go.Proofs.Ytngkckngjobojaa.Oct
open Go.Proofs.Ytngkckngjobojaa Go.RowKit Go.Shelf

def rawR (bs : List UInt8) (n : Int) : List UInt8 × Int × List UInt8 := if n < 0 then ([], 2, bs) else if bs.length < n.toNat then ([], 10, bs) else (bs.take n.toNat, 0, bs.drop n.toNat)
/-- What a read of bytes leaves. -/
def ReadB (base hi r : Nat) (R : List UInt8 × Int × List UInt8) (w : World) (e : Ending) (w' : World) : Prop :=
  ∃ v, e = .returned (.tuple #[v, .int .i64 R.2.1]) ∧ w'.ownsRow w.heap.size 5 1 v R.1.length (vals R.1) ∧ EyeAt base hi w' r R.2.2 ∧ EyeStep r w w'
theorem own_put {w W1 : World} {r : Nat} {v u : Value} {n : Nat} {xs : List Value} (hr : r < w.heap.size) (h : W1.ownsRow w.heap.size 5 1 v n xs) : (W1.setCell ⟨r, 0, none⟩ u).ownsRow w.heap.size 5 1 v n xs :=
  ownsRow_same h fun k hk => Below.heap_setCell _ _ _ _ (by have := (h.lt k hk).1; simp only; omega)
set_option maxRecDepth 100000 in
set_option maxHeartbeats 2000000 in
theorem eyeRaw_any (base hi r : Nat) (bs : List UInt8) (n : Int) (w : World) (h : EyeAt base hi w r bs) (hl : bs.length ≤ 100000000000000) :
    Calls Try.prog 21 #[.pointer (some ⟨r, 0, none⟩), .int .i64 n] w (ReadB base hi r (rawR bs n) w) := by
  have hno := fun W (hW : EyeAt base hi W r bs) => none_any base hi r bs W hW
  by_cases hn0 : n < 0
  · have HR := Lib.hid (show rawR bs n = ([], 2, bs) by unfold rawR; rw [if_pos hn0])
    go_enter Try.func21, Try.ntmps21
    go_wp2_with (go_at_call 38; refine (hno _ h).mono ?_; rintro e w1 ⟨rfl, rfl⟩)
    go_ret2
    rw [HR.out]
    exact ⟨_, rfl, World.ownsRow_nil _ _ _ _, h, EyeStep.refl _ _⟩
  · obtain ⟨k, rfl⟩ : ∃ k : Nat, n = (k : Int) := ⟨n.toNat, by omega⟩
    have i0 : decide ((k : Int) < 0) = false := by simp
    have H := Lib.hid h
    obtain ⟨hg, A, c, hh, h8, hlc, hA, hne⟩ := h
    obtain ⟨h0, h1, hf⟩ := eye_cells hh
    by_cases hs : bs.length < k
    · have HR := Lib.hid (show rawR bs (k : Int) = ([], 10, bs) by unfold rawR; rw [if_neg hn0, if_pos (by simpa using hs)])
      clear h8 hn0
      go_enter Try.func21, Try.ntmps21
      go_wp2_with (go_at_call 38; refine (hno _ H.out).mono ?_; rintro e w1 ⟨rfl, rfl⟩)
      go_ret2
      rw [HR.out]
      exact ⟨_, rfl, World.ownsRow_nil _ _ _ _, H.out, EyeStep.refl _ _⟩
    · have HR := Lib.hid (show rawR bs (k : Int) = (bs.take k, 0, bs.drop k) by unfold rawR; rw [if_neg hn0, if_neg (by simpa using hs)]; simp)
      have i1 : decide (bs.length < k) = false := by simpa using hs
      have hkl : k ≤ bs.length := by omega
      have hrl := H.out.lt
      have H8 := Lib.hid h8
      cases A with
      | none =>
        have hb0 : bs = [] := by
          rcases h8 with ⟨_, e⟩ | ⟨b, off, e, _⟩
          · exact e
          · cases e
        subst hb0
        have hk0 : k = 0 := by simpa using hkl
        subst hk0
        obtain rfl := hA rfl
        have hcl := fun W hW => clone_any [] none 0 0 (fun _ => rfl) W hW (Nat.zero_le _) (by simp)
        clear hs i1 h8 i0
        go_enter Try.func21, Try.ntmps21
        go_wp2_with (first
          | (go_at_call 38; refine (hno _ H.out).mono ?_; rintro e w1 ⟨rfl, rfl⟩)
          | (go_at_call 36; refine (hcl _ (.inl ⟨rfl, rfl⟩)).mono ?_; rintro e w1 ⟨v, rfl, hr, hb1⟩; have hc1 := (hb1.cell (p := ⟨r, 0, none⟩) hrl).trans h0; have hf1 := (hb1.frozen (p := ⟨r, 0, none⟩) hrl).trans hf))
        go_ret2
        rw [HR.out]
        have hp := eye_drop (A' := none) hg hh hb1 (.inl ⟨rfl, rfl⟩) hlc (fun _ => rfl) hne 0 (by simp) rfl
        exact ⟨_, rfl, own_put hrl hr, hp.1, hp.2⟩
      | some a =>
        obtain ⟨b, off, rfl⟩ : ∃ b off, a = (⟨b, off, none⟩ : Addr) := by
          rcases h8 with ⟨e, _⟩ | ⟨b, off, e, _⟩
          · cases e
          · injection e with e; exact ⟨b, off, e⟩
        have htl : (bs.take k).length = k := by rw [List.length_take]; omega
        have hcl := fun W hW hn => clone_any (bs.take k) (some ⟨b, off, none⟩) c w.heap.size (fun e => by cases e) W hW hn (by omega)
        rw [htl] at hcl
        clear hs h8 htl hn0
        go_enter Try.func21, Try.ntmps21
        go_wp2_with (first
          | (go_at_call 38; refine (hno _ H.out).mono ?_; rintro e w1 ⟨rfl, rfl⟩)
          | (go_at_call 36; refine (hcl _ (H8.out.take_ k) (Nat.le_refl _)).mono ?_; rintro e w1 ⟨v, rfl, hr, hb1⟩; have hc1 := (hb1.cell (p := ⟨r, 0, none⟩) hrl).trans h0; have hf1 := (hb1.frozen (p := ⟨r, 0, none⟩) hrl).trans hf))
        all_goals
          go_ret2
          rw [HR.out]
          have hp := eye_drop (A' := _) hg hh hb1 (H8.out.later hb1) hlc hA hne k hkl (by first | exact cut_ne ‹_› | exact cut_eq ‹_›)
          first | exact ⟨_, rfl, own_put hrl hr, hp.1, hp.2⟩ | (rw [show c - k = 0 by omega] at hp; exact ⟨_, rfl, own_put hrl hr, hp.1, hp.2⟩)
theorem eyeLeft_any (base hi r : Nat) (bs : List UInt8) (w : World) (h : EyeAt base hi w r bs) :
    Calls Try.prog 25 #[.pointer (some ⟨r, 0, none⟩)] w fun e w' => e = .returned (.int .i64 (bs.length : Int)) ∧ w = w' := by
  have hno := none_any base hi r bs w h
  obtain ⟨_, A, c, hh, _⟩ := h
  obtain ⟨h0, h1, hf⟩ := eye_cells hh
  go_enter Try.func25, Try.ntmps25
  go_wp2_with (go_at_call 38; refine hno.mono ?_; rintro e w1 ⟨rfl, rfl⟩)
  go_ret
  exact ⟨rfl, rfl⟩
theorem eyeEnd_any (base hi r : Nat) (bs : List UInt8) (w : World) (h : EyeAt base hi w r bs) :
    Calls Try.prog 26 #[.pointer (some ⟨r, 0, none⟩)] w fun e w' => e = .returned (.int .i64 (if bs = [] then 0 else 10)) ∧ w = w' := by
  have hno := none_any base hi r bs w h
  obtain ⟨_, A, c, hh, _⟩ := h
  obtain ⟨h0, h1, hf⟩ := eye_cells hh
  cases bs with
  | nil =>
    rw [if_pos rfl]
    go_enter Try.func26, Try.ntmps26
    go_wp2_with (go_at_call 38; refine hno.mono ?_; rintro e w1 ⟨rfl, rfl⟩)
    go_ret
    exact ⟨rfl, rfl⟩
  | cons x l =>
    rw [if_neg (by simp)]
    rw [show (x :: l).length = l.length + 1 from rfl] at h0 hh
    have i1 : (0 : Int) < (l.length : Int) + 1 := by omega
    go_enter Try.func26, Try.ntmps26
    go_wp2_with (go_at_call 38; refine hno.mono ?_; rintro e w1 ⟨rfl, rfl⟩)
    go_ret
    exact ⟨rfl, rfl⟩
end Go.Proofs.Ytngkckngjobojaa.Oct
