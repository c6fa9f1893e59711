/- What the contracts of pens and eyes say in a row of calls. No condition. -/
import Derived.Test.YtngkckngjobojaaOctL
import Derived.Test.YtngkckngjobojaaReg3
namespace Go.Proofs.Ytngkckngjobojaa.Oct
open Go.Proofs.Ytngkckngjobojaa Go.RowKit Go.Shelf

theorem new_holds (w : World) (bs : List UInt8) : Holds8 (w.alloc (.cells (vals bs).toArray 5)).heap.size (w.alloc (.cells (vals bs).toArray 5)) (some ⟨w.heap.size, 0, none⟩) bs := by
  refine .inr ⟨w.heap.size, 0, rfl, by rw [World.size_alloc]; omega, fun j hj => ?_⟩
  rw [Nat.zero_add, cell_of_row _ w.heap.size j (vals bs).toArray 5 (0, 0) (heap_alloc_new w _)]
  simpa using vals_get bs j hj
theorem new_below (w : World) (o : Obj) : Below w.heap.size w (w.alloc o) := (Below.refl _ w).alloc (Nat.le_refl _) o

/-- A pen at b, all of it from N on. -/
def PenIn (N : Nat) (W : World) (b : Nat) (bs : List UInt8) : Prop := PenAt N W b bs ∧ N ≤ W.heap.size
theorem pen_in_new (W : World) (N : Nat) (h : N ≤ W.heap.size) : PenIn N (W.alloc (.cells #[.slice none 0 0] 27)) W.heap.size [] := ⟨(pen_new W).base h, by rw [World.size_alloc]; omega⟩
theorem pen_fixed_in (bs ys : List UInt8) (s E : Int) (x : Nat) (hx : x < 18446744073709551616) (hl : bs.length ≤ 100000000) (hE : fixedE s x = E) (hB : bs ++ fixedB s x = ys) (N b : Nat) (W : World) (h : PenIn N W b bs) :
    Calls Try.prog 27 #[.pointer (some ⟨b, 0, none⟩), .int .i64 s, .int .u64 (x : Int)] W fun e w' => e = .returned (.int .i64 E) ∧ PenIn N w' b ys ∧ Below N W w' := by
  refine (penFixed_any N b bs s x hx W h.1 (by omega) h.2).mono fun e w' h' => ?_
  obtain ⟨rfl, hp, hs⟩ := h'
  rw [hB] at hp
  exact ⟨by rw [hE], ⟨hp, Nat.le_trans h.2 hs.size⟩, hs.below h.1 h.2⟩
theorem pen_size_in (bs ys : List UInt8) (x : Nat) (hx : x < 18446744073709551616) (hl : bs.length ≤ 100000000) (hB : bs ++ sizeB x = ys) (N b : Nat) (W : World) (h : PenIn N W b bs) :
    Calls Try.prog 28 #[.pointer (some ⟨b, 0, none⟩), .int .u64 (x : Int)] W fun e w' => e = .returned (.int .i64 0) ∧ PenIn N w' b ys ∧ Below N W w' := by
  refine (penSize_any N b bs x hx W h.1 (by omega) h.2).mono fun e w' h' => ?_
  obtain ⟨rfl, hp, hs⟩ := h'
  rw [hB] at hp
  exact ⟨rfl, ⟨hp, Nat.le_trans h.2 hs.size⟩, hs.below h.1 h.2⟩
theorem pen_all_in (bs : List UInt8) (n : Nat) (hn : bs.length = n) (hl : bs.length ≤ 100000000) (N b : Nat) (W : World) (h : PenIn N W b bs) :
    Calls Try.prog 12 #[.pointer (some ⟨b, 0, none⟩)] W fun e w' => ∃ X c, e = .returned (.slice X n c) ∧ Holds8 w'.heap.size w' X bs ∧ Below N W w' := by
  subst hn
  refine (penAll_any N b bs W h.1 (by omega)).mono fun e w' h' => ?_
  obtain ⟨v, rfl, hr, hb⟩ := h'
  obtain ⟨X, c, rfl, hh, _⟩ := own_open hr
  exact ⟨X, c, rfl, hh, hb.mono h.2⟩
/-- An eye at r, all of it from N on. -/
def EyeIn (N : Nat) (W : World) (r : Nat) (bs : List UInt8) : Prop := ∃ lo hi, N ≤ lo ∧ lo ≤ W.heap.size ∧ hi ≤ W.heap.size ∧ EyeAt lo hi W r bs
theorem EyeIn.mono {N M : Nat} {W : World} {r : Nat} {bs : List UInt8} (h : EyeIn N W r bs) (hm : M ≤ N) : EyeIn M W r bs := by
  obtain ⟨lo, hi, h1, h2, h3, h4⟩ := h
  exact ⟨lo, hi, Nat.le_trans hm h1, h2, h3, h4⟩
theorem EyeIn.below {N : Nat} {W W' : World} {r : Nat} {bs : List UInt8} (h : EyeIn N W r bs) (hb : Below W.heap.size W W') : EyeIn N W' r bs := by
  obtain ⟨lo, hi, h1, h2, h3, h4⟩ := h
  exact ⟨lo, hi, h1, Nat.le_trans h2 hb.size, Nat.le_trans h3 hb.size, h4.below hb⟩
theorem look_in (bs : List UInt8) (n : Nat) (cs : Array Value) (hc : cs = (vals bs).toArray) (hn : bs.length = n) (hl : bs.length ≤ 100000000) (W : World) :
    Calls Try.prog 16 #[.slice (some ⟨W.heap.size, 0, none⟩) n n] (W.alloc (.cells cs 5)) fun e w' => ∃ r, e = .returned (.pointer (some ⟨r, 0, none⟩)) ∧ EyeIn W.heap.size w' r bs ∧ Below W.heap.size W w' := by
  subst hc hn
  have hb1 := new_below W (.cells (vals bs).toArray 5)
  refine (look_any bs (some ⟨W.heap.size, 0, none⟩) bs.length _ (by simp) _ (new_holds W bs) (Nat.le_refl _) (by omega)).mono fun e w' h => ?_
  obtain ⟨r, rfl, he, hb⟩ := h
  exact ⟨r, rfl, ⟨_, _, hb1.size, hb.size, Nat.le_refl _, he⟩, hb1.trans (hb.mono hb1.size)⟩
theorem eye_after {N lo hi : Nat} {W w' : World} {r : Nat} {bs ys : List UInt8} (h1 : N ≤ lo) (h2 : lo ≤ W.heap.size) (h3 : hi ≤ W.heap.size) (h : EyeAt lo hi W r bs) (he : EyeAt lo hi w' r ys) (hs : EyeStep r W w') : EyeIn N w' r ys ∧ Below N W w' :=
  ⟨⟨lo, hi, h1, Nat.le_trans h2 hs.size, Nat.le_trans h3 hs.size, he⟩, (hs.below h h2).mono h1⟩
theorem eye_fixed_in (bs ys : List UInt8) (s E : Int) (n : Nat) (hl : bs.length ≤ 100000000) (hR : fixedR bs s = (n, E, ys)) (N r : Nat) (W : World) (h : EyeIn N W r bs) :
    Calls Try.prog 17 #[.pointer (some ⟨r, 0, none⟩), .int .i64 s] W fun e w' => e = .returned (.tuple #[.int .u64 (n : Int), .int .i64 E]) ∧ EyeIn N w' r ys ∧ Below N W w' ∧ EyeStep r W w' := by
  obtain ⟨lo, hi, h1, h2, h3, h4⟩ := h
  refine (eyeFixed_any lo hi r bs s W h4 (by omega)).mono fun e w' h' => ?_
  obtain ⟨rfl, he, hs⟩ := h'
  rw [hR] at he
  obtain ⟨a, b⟩ := eye_after h1 h2 h3 h4 he hs
  exact ⟨by rw [hR], a, b, hs⟩
theorem eye_size_in (bs ys : List UInt8) (E : Int) (n : Nat) (hl : bs.length ≤ 100000000) (hR : eyeSizeR bs = (n, E, ys)) (N r : Nat) (W : World) (h : EyeIn N W r bs) :
    Calls Try.prog 19 #[.pointer (some ⟨r, 0, none⟩)] W fun e w' => e = .returned (.tuple #[.int .u64 (n : Int), .int .i64 E]) ∧ EyeIn N w' r ys ∧ Below N W w' ∧ EyeStep r W w' := by
  obtain ⟨lo, hi, h1, h2, h3, h4⟩ := h
  refine (eyeSize_any lo hi r bs W h4 (by omega)).mono fun e w' h' => ?_
  obtain ⟨rfl, he, hs⟩ := h'
  rw [hR] at he
  obtain ⟨a, b⟩ := eye_after h1 h2 h3 h4 he hs
  exact ⟨by rw [hR], a, b, hs⟩
theorem read_in {N lo hi : Nat} {W w' : World} {r k : Nat} {bs xs ys : List UInt8} {E : Int} {e : Ending} (hk : xs.length = k) (h1 : N ≤ lo) (h2 : lo ≤ W.heap.size) (h3 : hi ≤ W.heap.size) (h4 : EyeAt lo hi W r bs) (h' : ReadB lo hi r (xs, E, ys) W e w') :
    ∃ X c, e = .returned (.tuple #[.slice X k c, .int .i64 E]) ∧ Holds8 w'.heap.size w' X xs ∧ (∀ a, X = some a → W.heap.size ≤ a.block) ∧ (∀ a, X = some a → a.block ≠ r) ∧ EyeIn N w' r ys ∧ Below N W w' ∧ EyeStep r W w' := by
  subst hk
  obtain ⟨v, rfl, hr, he, hs⟩ := h'
  obtain ⟨X, c, rfl, hh, _, _, ha⟩ := own_open hr
  obtain ⟨a, b⟩ := eye_after h1 h2 h3 h4 he hs
  exact ⟨X, c, rfl, hh, fun a e => (ha a e).1, fun a e => (by have := (ha a e).1; have := h4.lt; omega), a, b, hs⟩
theorem eye_bytes_in (bs xs ys : List UInt8) (most E : Int) (k : Nat) (hm : most ≤ 9223372036854775807) (hl : bs.length ≤ 100000000) (hR : bytesR bs most = (xs, E, ys)) (hk : xs.length = k) (N r : Nat) (W : World) (h : EyeIn N W r bs) :
    Calls Try.prog 22 #[.pointer (some ⟨r, 0, none⟩), .int .i64 most] W fun e w' => ∃ X c, e = .returned (.tuple #[.slice X k c, .int .i64 E]) ∧ Holds8 w'.heap.size w' X xs ∧ (∀ a, X = some a → W.heap.size ≤ a.block) ∧ (∀ a, X = some a → a.block ≠ r) ∧ EyeIn N w' r ys ∧ Below N W w' ∧ EyeStep r W w' := by
  obtain ⟨lo, hi, h1, h2, h3, h4⟩ := h
  refine (eyeBytes_any lo hi r bs most hm W h4 (by omega) h2).mono fun e w' h' => ?_
  rw [hR] at h'
  exact read_in hk h1 h2 h3 h4 h'
theorem eye_raw_in (bs xs ys : List UInt8) (n E : Int) (k : Nat) (hl : bs.length ≤ 100000000) (hR : rawR bs n = (xs, E, ys)) (hk : xs.length = k) (N r : Nat) (W : World) (h : EyeIn N W r bs) :
    Calls Try.prog 21 #[.pointer (some ⟨r, 0, none⟩), .int .i64 n] W fun e w' => ∃ X c, e = .returned (.tuple #[.slice X k c, .int .i64 E]) ∧ Holds8 w'.heap.size w' X xs ∧ (∀ a, X = some a → W.heap.size ≤ a.block) ∧ (∀ a, X = some a → a.block ≠ r) ∧ EyeIn N w' r ys ∧ Below N W w' ∧ EyeStep r W w' := by
  obtain ⟨lo, hi, h1, h2, h3, h4⟩ := h
  refine (eyeRaw_any lo hi r bs n W h4 (by omega)).mono fun e w' h' => ?_
  rw [hR] at h'
  exact read_in hk h1 h2 h3 h4 h'
theorem eye_left_in (bs : List UInt8) (N r : Nat) (W : World) (h : EyeIn N W r bs) :
    Calls Try.prog 25 #[.pointer (some ⟨r, 0, none⟩)] W fun e w' => e = .returned (.int .i64 (bs.length : Int)) ∧ W = w' := by
  obtain ⟨lo, hi, h1, h2, h3, h4⟩ := h
  exact eyeLeft_any lo hi r bs W h4
theorem eye_end_in (bs : List UInt8) (E : Int) (hE : (if bs = [] then 0 else 10) = E) (N r : Nat) (W : World) (h : EyeIn N W r bs) :
    Calls Try.prog 26 #[.pointer (some ⟨r, 0, none⟩)] W fun e w' => e = .returned (.int .i64 E) ∧ W = w' := by
  obtain ⟨lo, hi, h1, h2, h3, h4⟩ := h
  subst hE
  exact eyeEnd_any lo hi r bs W h4
/-- What an eye answered is as it was behind another of its reads. -/
theorem step_holds {r : Nat} {W W' : World} {X : Option Addr} {xs : List UInt8} (h : Holds8 W.heap.size W X xs) (ha : ∀ a, X = some a → a.block ≠ r) (hs : EyeStep r W W') : Holds8 W'.heap.size W' X xs := (hs.holds (Nat.le_refl _) h ha).more hs.size

/-- The eye that none made. -/
def Shut (W : World) (r : Nat) : Prop := W.heap[r]? = some (.cells #[.slice none 0 0, .bool false] 57 (0, 0))
set_option maxHeartbeats 1000000
theorem none_shut (r : Nat) (w : World) (h : Shut w r) : Calls Try.prog 38 #[.pointer (some ⟨r, 0, none⟩)] w fun e w' => e = .returned (.bool true) ∧ w = w' := by
  obtain ⟨h0, h1, _⟩ := eye_cells h
  go_enter Try.func38, Try.ntmps38
  go_wp2
  go_ret
  exact ⟨rfl, rfl⟩
theorem none_nil (w : World) : Calls Try.prog 38 #[.pointer none] w fun e w' => e = .returned (.bool true) ∧ w = w' := by
  go_enter Try.func38, Try.ntmps38
  go_wp2
  go_ret
  exact ⟨rfl, rfl⟩
theorem shut_fixed (r : Nat) (s : Int) (w : World) (h : Shut w r) : Calls Try.prog 17 #[.pointer (some ⟨r, 0, none⟩), .int .i64 s] w fun e w' => e = .returned (.tuple #[.int .u64 0, .int .i64 1]) ∧ w = w' := by
  go_enter Try.func17, Try.ntmps17
  go_wp2_with (go_at_call 38; refine (none_shut r w h).mono ?_; rintro e w1 ⟨rfl, rfl⟩)
  go_ret2
  exact ⟨rfl, rfl⟩
theorem shut_size (r : Nat) (w : World) (h : Shut w r) : Calls Try.prog 19 #[.pointer (some ⟨r, 0, none⟩)] w fun e w' => e = .returned (.tuple #[.int .u64 0, .int .i64 1]) ∧ w = w' := by
  go_enter Try.func19, Try.ntmps19
  go_wp2_with (go_at_call 38; refine (none_shut r w h).mono ?_; rintro e w1 ⟨rfl, rfl⟩)
  go_ret2
  exact ⟨rfl, rfl⟩
theorem shut_bytes (r : Nat) (s : Int) (w : World) (h : Shut w r) : Calls Try.prog 22 #[.pointer (some ⟨r, 0, none⟩), .int .i64 s] w fun e w' => e = .returned (.tuple #[.slice none 0 0, .int .i64 1]) ∧ w = w' := by
  go_enter Try.func22, Try.ntmps22
  go_wp2_with (go_at_call 38; refine (none_shut r w h).mono ?_; rintro e w1 ⟨rfl, rfl⟩)
  go_ret2
  exact ⟨rfl, rfl⟩
theorem shut_raw (r : Nat) (s : Int) (w : World) (h : Shut w r) : Calls Try.prog 21 #[.pointer (some ⟨r, 0, none⟩), .int .i64 s] w fun e w' => e = .returned (.tuple #[.slice none 0 0, .int .i64 1]) ∧ w = w' := by
  go_enter Try.func21, Try.ntmps21
  go_wp2_with (go_at_call 38; refine (none_shut r w h).mono ?_; rintro e w1 ⟨rfl, rfl⟩)
  go_ret2
  exact ⟨rfl, rfl⟩
theorem shut_left (r : Nat) (w : World) (h : Shut w r) : Calls Try.prog 25 #[.pointer (some ⟨r, 0, none⟩)] w fun e w' => e = .returned (.int .i64 0) ∧ w = w' := by
  go_enter Try.func25, Try.ntmps25
  go_wp2_with (go_at_call 38; refine (none_shut r w h).mono ?_; rintro e w1 ⟨rfl, rfl⟩)
  go_ret
  exact ⟨rfl, rfl⟩
theorem shut_end (r : Nat) (w : World) (h : Shut w r) : Calls Try.prog 26 #[.pointer (some ⟨r, 0, none⟩)] w fun e w' => e = .returned (.int .i64 1) ∧ w = w' := by
  go_enter Try.func26, Try.ntmps26
  go_wp2_with (go_at_call 38; refine (none_shut r w h).mono ?_; rintro e w1 ⟨rfl, rfl⟩)
  go_ret
  exact ⟨rfl, rfl⟩
theorem nil_fixed  (s : Int) (w : World) : Calls Try.prog 17 #[.pointer none, .int .i64 s] w fun e w' => e = .returned (.tuple #[.int .u64 0, .int .i64 1]) ∧ w = w' := by
  go_enter Try.func17, Try.ntmps17
  go_wp2_with (go_at_call 38; refine (none_nil w).mono ?_; rintro e w1 ⟨rfl, rfl⟩)
  go_ret2
  exact ⟨rfl, rfl⟩
theorem nil_size  (w : World) : Calls Try.prog 19 #[.pointer none] w fun e w' => e = .returned (.tuple #[.int .u64 0, .int .i64 1]) ∧ w = w' := by
  go_enter Try.func19, Try.ntmps19
  go_wp2_with (go_at_call 38; refine (none_nil w).mono ?_; rintro e w1 ⟨rfl, rfl⟩)
  go_ret2
  exact ⟨rfl, rfl⟩
theorem nil_bytes  (s : Int) (w : World) : Calls Try.prog 22 #[.pointer none, .int .i64 s] w fun e w' => e = .returned (.tuple #[.slice none 0 0, .int .i64 1]) ∧ w = w' := by
  go_enter Try.func22, Try.ntmps22
  go_wp2_with (go_at_call 38; refine (none_nil w).mono ?_; rintro e w1 ⟨rfl, rfl⟩)
  go_ret2
  exact ⟨rfl, rfl⟩
theorem nil_raw  (s : Int) (w : World) : Calls Try.prog 21 #[.pointer none, .int .i64 s] w fun e w' => e = .returned (.tuple #[.slice none 0 0, .int .i64 1]) ∧ w = w' := by
  go_enter Try.func21, Try.ntmps21
  go_wp2_with (go_at_call 38; refine (none_nil w).mono ?_; rintro e w1 ⟨rfl, rfl⟩)
  go_ret2
  exact ⟨rfl, rfl⟩
theorem nil_left  (w : World) : Calls Try.prog 25 #[.pointer none] w fun e w' => e = .returned (.int .i64 0) ∧ w = w' := by
  go_enter Try.func25, Try.ntmps25
  go_wp2_with (go_at_call 38; refine (none_nil w).mono ?_; rintro e w1 ⟨rfl, rfl⟩)
  go_ret
  exact ⟨rfl, rfl⟩
theorem nil_end  (w : World) : Calls Try.prog 26 #[.pointer none] w fun e w' => e = .returned (.int .i64 1) ∧ w = w' := by
  go_enter Try.func26, Try.ntmps26
  go_wp2_with (go_at_call 38; refine (none_nil w).mono ?_; rintro e w1 ⟨rfl, rfl⟩)
  go_ret
  exact ⟨rfl, rfl⟩
theorem nilpen_fixed (s x : Int) (w : World) : Calls Try.prog 27 #[.pointer none, .int .i64 s, .int .u64 x] w fun e w' => e = .returned (.int .i64 1) ∧ w = w' := by
  go_enter Try.func27, Try.ntmps27
  go_wp2
  go_ret
  exact ⟨rfl, rfl⟩
theorem nilpen_size (x : Int) (w : World) : Calls Try.prog 28 #[.pointer none, .int .u64 x] w fun e w' => e = .returned (.int .i64 1) ∧ w = w' := by
  go_enter Try.func28, Try.ntmps28
  go_wp2
  go_ret
  exact ⟨rfl, rfl⟩
theorem nilpen_bytes (v : Value) (w : World) : Calls Try.prog 29 #[.pointer none, v] w fun e w' => e = .returned (.int .i64 1) ∧ w = w' := by
  go_enter Try.func29, Try.ntmps29
  go_wp2
  go_ret
  exact ⟨rfl, rfl⟩
theorem nilpen_raw (v : Value) (w : World) : Calls Try.prog 30 #[.pointer none, v] w fun e w' => e = .returned (.int .i64 1) ∧ w = w' := by
  go_enter Try.func30, Try.ntmps30
  go_wp2
  go_ret
  exact ⟨rfl, rfl⟩
theorem nilpen_len  (w : World) : Calls Try.prog 11 #[.pointer none] w fun e w' => e = .returned (.int .i64 0) ∧ w = w' := by
  go_enter Try.func11, Try.ntmps11
  go_wp2
  go_ret
  exact ⟨rfl, rfl⟩
theorem nilpen_all  (w : World) : Calls Try.prog 12 #[.pointer none] w fun e w' => e = .returned (.slice none 0 0) ∧ w = w' := by
  go_enter Try.func12, Try.ntmps12
  go_wp2
  go_ret
  exact ⟨rfl, rfl⟩
end Go.Proofs.Ytngkckngjobojaa.Oct
