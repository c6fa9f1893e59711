/- The contracts of octet.Look and of an eye's Fixed, Size, Raw, Bytes, Left, End. No condition beyond the memory's reach. -/
import Derived.Test.YtngkckngjobojaaOctG
namespace Go.Proofs.Ytngkckngjobojaa.Oct
open Go.Proofs.Ytngkckngjobojaa Go.RowKit Go.Shelf

/-- All but the eye at r is as it was. -/
structure EyeStep (r : Nat) (W W' : World) : Prop where
  os : W'.os = W.os
  tape : W'.tape = W.tape
  output : W'.output = W.output
  size : W.heap.size ≤ W'.heap.size
  keep : ∀ k, k < W.heap.size → k ≠ r → W'.heap[k]? = W.heap[k]?
theorem EyeStep.refl (r : Nat) (W : World) : EyeStep r W W := ⟨rfl, rfl, rfl, Nat.le_refl _, fun _ _ _ => rfl⟩
theorem EyeStep.trans {r : Nat} {A B C : World} (h : EyeStep r A B) (k : EyeStep r B C) : EyeStep r A C :=
  ⟨k.os.trans h.os, k.tape.trans h.tape, k.output.trans h.output, Nat.le_trans h.size k.size, fun i hi hr => (k.keep i (Nat.lt_of_lt_of_le hi h.size) hr).trans (h.keep i hi hr)⟩
theorem EyeStep.of_below {r : Nat} {W W' : World} (h : Below W.heap.size W W') : EyeStep r W W' := ⟨h.os, h.tape, h.output, h.size, fun k hk _ => h.block k hk⟩
theorem EyeStep.below {base hi r : Nat} {W W' : World} {bs : List UInt8} (hp : EyeAt base hi W r bs) (hs : base ≤ W.heap.size) (h : EyeStep r W W') : Below base W W' :=
  ⟨h.os, h.tape, h.output, h.size, fun k hk => h.keep k (by omega) (by have := hp.1.1; omega)⟩
theorem EyeStep.holds {r n₀ : Nat} {W W' : World} {A : Option Addr} {bs : List UInt8} (h : EyeStep r W W') (hn : n₀ ≤ W.heap.size) (hh : Holds8 n₀ W A bs) (ha : ∀ a, A = some a → a.block ≠ r) : Holds8 n₀ W' A bs := by
  rcases hh with h0 | ⟨c, off, rfl, hc, hcell⟩
  · exact .inl h0
  · exact .inr ⟨c, off, rfl, hc, fun j hj => (World.cell?_of_block (a := ⟨c, off + j, none⟩) (h.keep c (by omega) (ha _ rfl))).trans (hcell j hj)⟩
theorem EyeAt.below {base hi : Nat} {W W' : World} {r : Nat} {bs : List UInt8} (h : EyeAt base hi W r bs) (hb : Below W.heap.size W W') : EyeAt base hi W' r bs := by
  have hl := h.lt
  obtain ⟨hg, A, c, hh, h8, hr⟩ := h
  exact ⟨hg, A, c, by rw [hb.block r hl]; exact hh, h8.later hb, hr⟩
/-- The eye stands as it was, where its own blocks do. -/
theorem EyeAt.same {base hi : Nat} {W W' : World} {r : Nat} {bs : List UInt8} (h : EyeAt base hi W r bs) (hb : ∀ k, base ≤ k → k < hi → k < W.heap.size → W'.heap[k]? = W.heap[k]?) (hs : W.heap.size ≤ W'.heap.size) : EyeAt base hi W' r bs := by
  have hl := h.lt
  obtain ⟨hg, A, c, hh, h8, hlc, hA, hr⟩ := h
  refine ⟨hg, A, c, by rw [hb r hg.1 hg.2 hl]; exact hh, ?_, hlc, hA, hr⟩
  rcases h8 with h0 | ⟨b, off, e, hbl, hcell⟩
  · exact .inl h0
  · have h1 := hr _ e
    exact .inr ⟨b, off, e, Nat.lt_of_lt_of_le hbl hs, fun j hj => (World.cell?_of_block (a := ⟨b, off + j, none⟩) (hb b h1.1.1 h1.1.2 hbl)).trans (hcell j hj)⟩
/-- Another eye has read. -/
theorem EyeAt.other {base hi s : Nat} {W W' : World} {r : Nat} {bs : List UInt8} (h : EyeAt base hi W r bs) (hs : EyeStep s W W') (hn : s < base ∨ hi ≤ s) : EyeAt base hi W' r bs :=
  h.same (fun k h1 h2 h3 => hs.keep k h3 (by omega)) hs.size
/-- All below hi is as it was. -/
theorem EyeAt.low {base hi B : Nat} {W W' : World} {r : Nat} {bs : List UInt8} (h : EyeAt base hi W r bs) (hb : Below B W W') (hn : hi ≤ B) : EyeAt base hi W' r bs :=
  h.same (fun k _ h2 _ => hb.block k (by omega)) hb.size
/-- The eye's slice is cut. -/
theorem eye_put {base hi r : Nat} {W W1 : World} {v : Value} {A' : Option Addr} {c' : Nat} {ys : List UInt8} (hg : base ≤ r ∧ r < hi) (hh : W.heap[r]? = some (.cells #[v, .bool true] 57 (0, 0))) (hl : Below W.heap.size W W1)
    (h8 : Holds8 W1.heap.size W1 A' ys) (hc : ys.length ≤ c') (hA : A' = none → c' = 0) (hne : ∀ a, A' = some a → (base ≤ a.block ∧ a.block < hi) ∧ a.block ≠ r) :
    EyeAt base hi (W1.setCell ⟨r, 0, none⟩ (.slice A' ys.length c')) r ys ∧ EyeStep r W (W1.setCell ⟨r, 0, none⟩ (.slice A' ys.length c')) := by
  have hr : r < W.heap.size := (Array.getElem?_eq_some_iff.1 hh).1
  have h1 : W1.heap[r]? = some (.cells #[v, .bool true] 57 (0, 0)) := by rw [hl.block r hr]; exact hh
  have h2 : (W1.setCell ⟨r, 0, none⟩ (.slice A' ys.length c')).heap[r]? = some (.cells #[.slice A' ys.length c', .bool true] 57 (0, 0)) := by
    unfold World.setCell
    simp only [Array.getElem?_modify, if_true, h1]
    rfl
  have hsz : (W1.setCell ⟨r, 0, none⟩ (.slice A' ys.length c')).heap.size = W1.heap.size := by unfold World.setCell; simp only [Array.size_modify]
  refine ⟨⟨hg, A', c', h2, ?_, hc, hA, hne⟩, ⟨hl.os, hl.tape, hl.output, by rw [hsz]; exact hl.size, fun k hk hkr => by rw [Below.heap_setCell _ _ _ _ hkr]; exact hl.block k hk⟩⟩
  rw [hsz]
  rcases h8 with h0 | ⟨b, off, e, hb, hcell⟩
  · exact .inl h0
  · exact .inr ⟨b, off, e, hb, fun j hj => (World.cell?_of_block (a := ⟨b, off + j, none⟩) (Below.heap_setCell _ _ _ _ (hne _ e).2)).trans (hcell j hj)⟩
/-- Where a slice of a slice begins. -/
def cutAt (A : Option Addr) (i cap : Nat) : Option Addr := if cap = i then A else A.map fun a => ⟨a.block, a.off + i, none⟩
theorem Holds8.drop_ {n₀ : Nat} {W : World} {A : Option Addr} {bs : List UInt8} (h : Holds8 n₀ W A bs) (i cap : Nat) (hi : i ≤ bs.length) (hc : bs.length ≤ cap) : Holds8 n₀ W (cutAt A i cap) (bs.drop i) := by
  unfold cutAt
  rcases h with ⟨rfl, rfl⟩ | ⟨b, off, rfl, hb, hcell⟩
  · split
    · exact .inl ⟨rfl, by simp⟩
    · exact .inl ⟨rfl, by simp⟩
  · by_cases e : cap = i
    · rw [if_pos e]
      refine .inr ⟨b, off, rfl, hb, fun j hj => ?_⟩
      rw [List.length_drop] at hj
      omega
    · rw [if_neg e]
      refine .inr ⟨b, off + i, rfl, hb, fun j hj => ?_⟩
      have hj2 : j < bs.length - i := by simpa using hj
      have := hcell (i + j) (by omega)
      rw [show off + i + j = off + (i + j) by omega, this]
      simp only [List.getElem_drop]
theorem Holds8.take_ {n₀ : Nat} {W : World} {A : Option Addr} {bs : List UInt8} (h : Holds8 n₀ W A bs) (i : Nat) : Holds8 n₀ W A (bs.take i) := by
  rw [← List.take_append_drop i bs] at h
  exact h.front

/-- The eye has read on. -/
theorem eye_drop {base hi r : Nat} {W W1 : World} {v : Value} {A A' : Option Addr} {c : Nat} {bs : List UInt8} (hg : base ≤ r ∧ r < hi) (hh : W.heap[r]? = some (.cells #[v, .bool true] 57 (0, 0))) (hl : Below W.heap.size W W1)
    (h8 : Holds8 W1.heap.size W1 A bs) (hc : bs.length ≤ c) (hA : A = none → c = 0) (hne : ∀ a, A = some a → (base ≤ a.block ∧ a.block < hi) ∧ a.block ≠ r) (k : Nat) (hk : k ≤ bs.length) (hA' : A' = cutAt A k c) :
    EyeAt base hi (W1.setCell ⟨r, 0, none⟩ (.slice A' (bs.length - k) (c - k))) r (bs.drop k) ∧ EyeStep r W (W1.setCell ⟨r, 0, none⟩ (.slice A' (bs.length - k) (c - k))) := by
  subst hA'
  have h := eye_put (c' := c - k) (ys := bs.drop k) hg hh hl (h8.drop_ k c hk hc) (by rw [List.length_drop]; omega) (fun e => ?_) (fun a e => ?_)
  · rwa [List.length_drop] at h
  · unfold cutAt at e
    split at e
    · have := hA e; omega
    · cases A with
      | none => have := hA rfl; omega
      | some a => cases e
  · unfold cutAt at e
    split at e
    · exact hne a e
    · cases A with
      | none => cases e
      | some a0 => injection e with e; subst e; exact hne a0 rfl
theorem cut_ne {b off k c : Nat} (h : ¬ c = k) : some (⟨b, off + k, none⟩ : Addr) = cutAt (some ⟨b, off, none⟩) k c := by unfold cutAt; rw [if_neg h]; rfl
theorem cut_eq {b off k c : Nat} (h : c = k) : some (⟨b, off, none⟩ : Addr) = cutAt (some ⟨b, off, none⟩) k c := by unfold cutAt; rw [if_pos h]
theorem own_open {w : World} {base : Nat} {v : Value} {bs : List UInt8} (h : w.ownsRow base 5 1 v bs.length (vals bs)) :
    ∃ A c, v = .slice A bs.length c ∧ Holds8 w.heap.size w A bs ∧ bs.length ≤ c ∧ (A = none → c = 0) ∧ ∀ a, A = some a → base ≤ a.block ∧ a.block < w.heap.size := by
  obtain ⟨A, c, rfl, hh, _⟩ := own_holds rfl h
  refine ⟨A, c, rfl, hh, ?_, fun e => ?_, fun a e => ?_⟩
  · rcases h.2 with ⟨e, h0⟩ | ⟨g, cap, cur, e, _, _, hn, _⟩
    · omega
    · injection e with _ _ e3
      omega
  · subst e
    rcases h.2 with ⟨e, _⟩ | ⟨g, cap, cur, e, _⟩
    · injection e
    · cases e
  · subst e
    exact h.lt a.block rfl
set_option maxHeartbeats 1000000 in
theorem look_any (bs : List UInt8) (A : Option Addr) (c n₀ : Nat) (hA : A = none → c = 0) (w : World) (hh : Holds8 n₀ w A bs) (hn : n₀ ≤ w.heap.size) (hl : bs.length ≤ 140737488355328) :
    Calls Try.prog 16 #[.slice A bs.length c] w fun e w' => ∃ r, e = .returned (.pointer (some ⟨r, 0, none⟩)) ∧ EyeAt w.heap.size w'.heap.size w' r bs ∧ Below w.heap.size w w' := by
  have hcl := clone_any bs A c n₀ hA w hh hn hl
  clear hh
  go_enter Try.func16, Try.ntmps16
  go_wp2_with (go_at_call 36; refine hcl.mono ?_; rintro e w1 ⟨v, rfl, hr, hb⟩; obtain ⟨A', c', rfl, hh', hc', hA', ha'⟩ := own_open hr; have HH' := Lib.hid hh'; clear hh' hr)
  go_ret
  refine ⟨w1.heap.size, rfl, ⟨⟨hb.size, by simp⟩, A', c', heap_alloc_new _ _, HH'.out.later ((Below.refl _ _).alloc (Nat.le_refl _) _), hc', hA', fun a e => ⟨⟨(ha' a e).1, by have := (ha' a e).2; simp; omega⟩, Nat.ne_of_lt (ha' a e).2⟩⟩, hb.alloc hb.size _⟩

def fixedR (bs : List UInt8) (s : Int) : Nat × Int × List UInt8 := if sizeOkB s = true then (if bs.length < s.toNat then (0, 10, bs) else (leNum (bs.take s.toNat), 0, bs.drop s.toNat)) else (0, 2, bs)
/-- What a read of a number leaves. -/
def ReadN (base hi r : Nat) (R : Nat × Int × List UInt8) (w : World) (e : Ending) (w' : World) : Prop := e = .returned (.tuple #[.int .u64 (R.1 : Int), .int .i64 R.2.1]) ∧ EyeAt base hi w' r R.2.2 ∧ EyeStep r w w'
set_option maxRecDepth 100000 in
set_option maxHeartbeats 2000000 in
theorem eyeFixed_any (base hi r : Nat) (bs : List UInt8) (s : Int) (w : World) (h : EyeAt base hi w r bs) (hl : bs.length ≤ 100000000000000) :
    Calls Try.prog 17 #[.pointer (some ⟨r, 0, none⟩), .int .i64 s] w (ReadN base hi r (fixedR bs s) w) := by
  have his := isSize_any s
  have hno := fun W (hW : EyeAt base hi W r bs) => none_any base hi r bs W hW
  cases hok : sizeOkB s with
  | false =>
    have HR := Lib.hid (show fixedR bs s = (0, 2, bs) by unfold fixedR; rw [hok]; rfl)
    rw [hok] at his
    clear hok
    go_enter Try.func17, Try.ntmps17
    go_wp2_with (first
      | (go_at_call 38; refine (hno _ h).mono ?_; rintro e w1 ⟨rfl, rfl⟩)
      | (go_at_call 39; refine (his _).mono ?_; rintro e w1 ⟨rfl, rfl⟩))
    go_ret2
    rw [HR.out]
    exact ⟨rfl, h, EyeStep.refl _ _⟩
  | true =>
    obtain ⟨k, rfl, hk⟩ := sizeOk_cases hok
    rw [hok] at his
    have H := Lib.hid h
    obtain ⟨hg, A, c, hh, h8, hlc, hA, hne⟩ := h
    obtain ⟨h0, h1, hf⟩ := eye_cells hh
    by_cases hs : bs.length < k
    · have HR := Lib.hid (show fixedR bs (k : Int) = (0, 10, bs) by unfold fixedR; rw [hok, if_pos rfl, if_pos (by simpa using hs)])
      have i1 : bs.length < k := hs
      clear hok hs h8
      go_enter Try.func17, Try.ntmps17
      go_wp2_with (first
        | (go_at_call 38; refine (hno _ H.out).mono ?_; rintro e w1 ⟨rfl, rfl⟩)
        | (go_at_call 39; refine (his _).mono ?_; rintro e w1 ⟨rfl, rfl⟩))
      go_ret2
      rw [HR.out]
      exact ⟨rfl, H.out, EyeStep.refl _ _⟩
    · have HR := Lib.hid (show fixedR bs (k : Int) = (leNum (bs.take k), 0, bs.drop k) by unfold fixedR; rw [hok, if_pos rfl, if_neg (by simpa using hs)]; simp)
      have i1 : decide (bs.length < k) = false := by simpa using hs
      have hkl : k ≤ bs.length := by omega
      obtain ⟨b, off, rfl, hb, hc0⟩ := h8.at_ (show 0 < bs.length by omega)
      have H8 := Lib.hid h8
      have htl : (bs.take k).length = k := by rw [List.length_take]; omega
      have hnum := fun W => number_any (bs.take k) (by omega) k htl.symm (some ⟨b, off, none⟩) c w.heap.size W
      clear hok hs h8 hc0 htl
      go_enter Try.func17, Try.ntmps17
      go_wp2_with (first
        | (go_at_call 38; refine (hno _ H.out).mono ?_; rintro e w1 ⟨rfl, rfl⟩)
        | (go_at_call 39; refine (his _).mono ?_; rintro e w1 ⟨rfl, rfl⟩)
        | (go_at_call 40; refine (hnum _ (H8.out.take_ k)).mono ?_; rintro e w1 ⟨rfl, rfl⟩))
      all_goals
        go_ret2
        rw [HR.out]
        have hp := eye_drop (A' := _) hg hh (Below.refl _ _) H8.out hlc hA hne k hkl (by first | exact cut_ne ‹_› | exact cut_eq ‹_›)
        first | exact ⟨rfl, hp.1, hp.2⟩ | (rw [show c - k = 0 by omega] at hp; exact ⟨rfl, hp.1, hp.2⟩)

def eyeSizeR (bs : List UInt8) : Nat × Int × List UInt8 := if (szOf bs).2.2 = true then ((szOf bs).1, 0, bs.drop (szOf bs).2.1) else (0, 10, bs)
theorem szOf_le {bs : List UInt8} (h : (szOf bs).2.2 = true) : (szOf bs).2.1 ≤ bs.length ∧ 1 ≤ (szOf bs).2.1 := by
  cases bs with
  | nil => cases h
  | cons x l =>
    have ha := annL_cases x
    unfold szOf at *
    simp only at *
    split at h
    · cases h
    · rename_i h1
      rw [if_neg h1]
      split
      · simp
      · simp only
        omega
theorem szOf_lt (bs : List UInt8) : (szOf bs).1 < 18446744073709551616 := by
  cases bs with
  | nil => simp [szOf]
  | cons x l =>
    have ha := annL_cases x
    have hx := UInt8.toNat_lt x
    unfold szOf
    simp only
    split
    · simp
    · split
      · simp only; omega
      · simp only
        have h := leNum_lt (l.take (annL x - 1))
        refine Nat.lt_of_lt_of_le h ?_
        rw [show 18446744073709551616 = 256 ^ 8 by decide]
        refine Nat.pow_le_pow_right (by decide) ?_
        rw [List.length_take]
        omega
set_option maxRecDepth 100000 in
set_option maxHeartbeats 2000000 in
theorem eyeSize_any (base hi r : Nat) (bs : List UInt8) (w : World) (h : EyeAt base hi w r bs) (hl : bs.length ≤ 100000000000000) :
    Calls Try.prog 19 #[.pointer (some ⟨r, 0, none⟩)] w (ReadN base hi r (eyeSizeR bs) w) := by
  have hno := fun W (hW : EyeAt base hi W r bs) => none_any base hi r bs W hW
  have hsz := size_any base hi r bs hl w h
  cases hok : (szOf bs).2.2 with
  | false =>
    have HR := Lib.hid (show eyeSizeR bs = (0, 10, bs) by unfold eyeSizeR; rw [hok]; rfl)
    rw [hok] at hsz
    clear hok
    go_enter Try.func19, Try.ntmps19
    go_wp2_with (first
      | (go_at_call 38; refine (hno _ h).mono ?_; rintro e w1 ⟨rfl, rfl⟩)
      | (go_at_call 42; refine hsz.mono ?_; rintro e w1 ⟨rfl, hb1⟩))
    go_ret2
    rw [HR.out]
    exact ⟨rfl, h.below hb1, EyeStep.of_below hb1⟩
  | true =>
    have hle := szOf_le hok
    obtain ⟨k, hk⟩ : ∃ k, (szOf bs).2.1 = k := ⟨_, rfl⟩
    obtain ⟨N, hN⟩ : ∃ N, (szOf bs).1 = N := ⟨_, rfl⟩
    have HR := Lib.hid (show eyeSizeR bs = (N, 0, bs.drop k) by unfold eyeSizeR; rw [hok, if_pos rfl, hk, hN])
    rw [hok, hk, hN] at hsz
    rw [hk] at hle
    clear hok hk hN
    have H := Lib.hid h
    obtain ⟨hg, A, c, hh, h8, hlc, hA, hne⟩ := h
    obtain ⟨hkl, hk1⟩ := hle
    obtain ⟨b, off, rfl, hb, hc0⟩ := h8.at_ (show 0 < bs.length by omega)
    obtain ⟨h0, h1, hf⟩ := eye_cells hh
    have hrl := H.out.lt
    have H8 := Lib.hid h8
    clear h8 hc0
    go_enter Try.func19, Try.ntmps19
    go_wp2_with (first
      | (go_at_call 38; refine (hno _ H.out).mono ?_; rintro e w1 ⟨rfl, rfl⟩)
      | (go_at_call 42; refine hsz.mono ?_; rintro e w1 ⟨rfl, hb1⟩; have hc1 := (hb1.cell (p := ⟨r, 0, none⟩) hrl).trans h0; have hf1 := (hb1.frozen (p := ⟨r, 0, none⟩) hrl).trans hf))
    all_goals
      go_ret2
      rw [HR.out]
      have hp := eye_drop (A' := _) hg hh hb1 (H8.out.later hb1) hlc hA hne k hkl (by first | exact cut_ne ‹_› | exact cut_eq ‹_›)
      first | exact ⟨rfl, hp.1, hp.2⟩ | (rw [show c - k = 0 by omega] at hp; exact ⟨rfl, hp.1, hp.2⟩)
end Go.Proofs.Ytngkckngjobojaa.Oct
