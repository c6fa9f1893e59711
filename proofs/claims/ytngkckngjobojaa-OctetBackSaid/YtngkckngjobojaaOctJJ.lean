/- A pen's Raw and Bytes at bytes that come in; put: a call's bytes are written. No condition beyond the memory's reach. -/
import Derived.Test.YtngkckngjobojaaOctV
import Derived.Test.YtngkckngjobojaaOctAA
namespace Go.Proofs.Ytngkckngjobojaa.Oct
open Go.Proofs.Ytngkckngjobojaa Go.RowKit Go.Shelf
/-- Bytes that are none of the pen's; of none, the address may be any. -/
def ApartO (W : World) (b : Nat) (A : Option Addr) (bs : List UInt8) : Prop := Apart8 W b A bs ∨ (bs = [] ∧ ∃ a, A = some a)
theorem ApartO.step {W W' : World} {b : Nat} {A : Option Addr} {bs : List UInt8} (h : ApartO W b A bs) (hs : PenStep b W W') : ApartO W' b A bs := h.imp (fun h => h.step hs) id
theorem ApartO.below {W W' : World} {b : Nat} {A : Option Addr} {bs : List UInt8} (h : ApartO W b A bs) (hb : b < W.heap.size) (hs : Below W.heap.size W W') : ApartO W' b A bs := h.step (PenStep.of_below hb hs)
theorem ApartO.bytes {W : World} {b : Nat} {A : Option Addr} {bs : List UInt8} (h : ApartO W b A bs) : Bytes8 W.heap.size W A bs := h.imp (fun h => h.1) id
theorem ApartO.low {base b n₀ : Nat} {W : World} {A : Option Addr} {bs xs : List UInt8} (hp : PenAt base W b xs) (hn : n₀ ≤ base) (hs : base ≤ W.heap.size) (h : Bytes8 n₀ W A bs) : ApartO W b A bs := h.imp (fun h => Apart8.low hp hn hs h) id
/-- The parts, as a slice of slices that is none of the pen's. -/
structure PartsO (W : World) (b : Nat) (A : Option Addr) (ps : List (Option Addr × List UInt8 × Nat)) : Prop where
  cell : ∀ k (h : k < ps.length), ∃ g off, A = some ⟨g, off, none⟩ ∧ Out W b g ∧ W.cell? ⟨g, off + k, none⟩ = some (.slice ps[k].1 ps[k].2.1.length ps[k].2.2)
  each : ∀ p ∈ ps, ApartO W b p.1 p.2.1

set_option maxRecDepth 100000 in
set_option maxHeartbeats 2000000 in
theorem penRawO_any (base b : Nat) (bs : List UInt8) (ps : List (Option Addr × List UInt8 × Nat)) (n : Nat) (hn : n = ps.length) (A : Option Addr) (c : Nat) (w : World) (hp : PenAt base w b bs) (hq : PartsO w b A ps) (hl : bs.length + (flat ps).length ≤ 100000000000000) (hps : ps.length ≤ 1000000) (hbase : base ≤ w.heap.size) :
    Calls Try.prog 30 #[.pointer (some ⟨b, 0, none⟩), .slice A n c] w (Wrote base b bs (flat ps) 0 w) := by
  have HN := Lib.hid hn
  have hn6 : n ≤ 1000000 := by omega
  clear hn hps
  go_enter Try.func30, Try.ntmps30
  go_wp2
  go_loopw [6, 11] (fun _ i wr => ∃ k : Nat, k ≤ n ∧ i = .int .i64 (k : Int) ∧ PenAt base wr b (bs ++ flat (ps.take k)) ∧ PenStep b w wr) (fun _ i _ => n - (intOf i).toNat)
  case atStart => exact ⟨0, Nat.zero_le _, rfl, by simpa [flat] using hp, PenStep.refl _ _⟩
  case round =>
    obtain ⟨k, hk, rfl, hpk, hst⟩ := hrel
    by_cases hlt : k < n
    · have hkp : k < ps.length := by rw [← HN.out]; exact hlt
      obtain ⟨g, off, hA, hog, hcg⟩ := hq.cell k hkp
      subst hA
      have heg := hq.each _ (List.getElem_mem hkp)
      have HF := Lib.hid (flat_snoc ps k hkp)
      have HLE := Lib.hid (by have h := flat_take_le ps (k + 1); rw [flat_snoc ps k hkp, List.length_append] at h; exact h)
      obtain ⟨p, hpe⟩ : ∃ p, ps[k] = p := ⟨_, rfl⟩
      rw [hpe] at hcg heg HF HLE
      clear hpe
      obtain ⟨B, ls, cc⟩ := p
      dsimp only at hcg heg HF HLE
      have hcw := (World.cell?_of_block (a := ⟨g, off + k, none⟩) (hog.step hst).2).trans hcg
      have hew := heg.step hst
      obtain ⟨ys, hys⟩ : ∃ ys, bs ++ flat (ps.take k) = ys := ⟨_, rfl⟩
      have hyl : ys.length + ls.length ≤ 100000000000000 := by rw [← hys, List.length_append]; have := HLE.out; omega
      have HX := Lib.hid (show bs ++ flat (ps.take (k + 1)) = ys ++ ls by rw [HF.out, ← List.append_assoc, hys])
      rw [hys] at hpk
      clear hys
      obtain ⟨hgb, v0, hheap, hrow, hne⟩ := hpk
      obtain ⟨A0, c0, rfl, _, _⟩ := own_holds rfl hrow
      have hcell : wr.cell? ⟨b, 0, none⟩ = some (.slice A0 ys.length c0) := by rw [cell_of_row _ _ _ _ _ _ hheap]; rfl
      have HE := Lib.hid hew.bytes
      have hs0 := hst.size
      clear heg hew
      go_wp2_with (at_builtin; refine wpList_append_in rfl (.tmp 19) (.tmp 20) rfl base _ _ ys ls rfl hrow B cc rfl HE.out (by omega) (by omega) ?_; intro v' w1 hown' hgr hv; have hck := pen_cell_kept hheap hne (Below.refl _ _) hgr; have hc1 := hck.1; have hf1 := hck.2; obtain ⟨A', c', rfl, _, _⟩ := own_holds rfl hown'; have hpp := pen_put hgb hheap hrow hne (Below.refl _ _) hgr hown' hv; clear hown' hgr hv hck; simp only [List.length_append] at hpp; have HPP := Lib.hid hpp; clear hpp)
      go_roundw
      case rel => exact ⟨k + 1, by omega, by go_num, by rw [HX.out]; exact HPP.out.1, hst.trans HPP.out.2⟩
      case measure => simp [intOf]; omega
    · have HT := Lib.hid (show ps.take k = ps from List.take_of_length_le (by rw [← HN.out]; omega))
      have hkn : k = n := by omega
      have HK := Lib.hid hkn
      clear hkn
      go_wp2
      go_ret
      exact ⟨rfl, by rw [HT.out] at hpk; exact hpk, hst⟩

/-- One part, laid in a row of its own. -/
theorem partsO_one {base b : Nat} {W : World} {xs bs : List UInt8} {A : Option Addr} {c : Nat} (hp : PenAt base W b xs) (ha : ApartO W b A bs) (o : Obj) (ho : o = .cells #[.slice A bs.length c] 25 (0, 0)) : PartsO (W.alloc o) b (some ⟨W.heap.size, 0, none⟩) [(A, bs, c)] := by
  subst ho
  refine ⟨fun k hk => ?_, fun p hq => ?_⟩
  · obtain rfl : k = 0 := by simpa using hk
    exact ⟨W.heap.size, 0, rfl, out_new hp _, by rw [cell_of_row _ _ _ _ _ _ (heap_alloc_new W _)]; rfl⟩
  · obtain rfl : p = (A, bs, c) := by simpa using hq
    exact ha.below hp.lt ((Below.refl _ _).alloc (Nat.le_refl _) _)

set_option maxRecDepth 100000 in
set_option maxHeartbeats 2000000 in
theorem penBytesO_any (base b : Nat) (bs xs : List UInt8) (A : Option Addr) (c : Nat) (w : World) (hp : PenAt base w b bs) (hx : ApartO w b A xs) (hl : bs.length + xs.length + 9 ≤ 100000000000000) (hbase : base ≤ w.heap.size) :
    Calls Try.prog 29 #[.pointer (some ⟨b, 0, none⟩), .slice A xs.length c] w (Wrote base b bs (sizeB xs.length ++ xs) 0 w) := by
  have hsl := sizeB_length xs.length
  have hcl : cmpL xs.length ≤ 9 := by unfold cmpL; (repeat' split) <;> omega
  have HSL := Lib.hid hsl
  have hsz := penSize_any base b bs xs.length (by omega) w hp (by omega) hbase
  have HP := Lib.hid hp
  have HX := Lib.hid hx
  clear hp hx hsl
  go_enter Try.func29, Try.ntmps29
  go_wp2_with (first
    | (go_at_call 28; refine hsz.mono ?_; rintro e w1 ⟨rfl, hp1, hs1⟩)
    | (go_at_call 30; refine (penRawO_any base b (bs ++ sizeB xs.length) [(A, xs, c)] 1 rfl _ 1 _ (hp1.below ((Below.refl _ _).alloc (Nat.le_refl _) _)) (partsO_one hp1 (HX.out.step hs1) _ rfl) (by simp only [flat, List.map_cons, List.map_nil, List.flatten_cons, List.flatten_nil, List.append_nil, List.length_append]; have := HSL.out; omega) (by simp) (by have := hs1.size; simp; omega)).mono ?_; rintro e w2 ⟨rfl, hp2, hs2⟩))
  go_ret
  refine ⟨rfl, ?_, (hs1.trans (PenStep.of_below hp1.lt ((Below.refl _ _).alloc (Nat.le_refl _) _))).trans hs2⟩
  have : bs ++ (sizeB xs.length ++ xs) = bs ++ sizeB xs.length ++ flat [(A, xs, c)] := by simp [flat]
  rw [this]
  exact hp2

def putB (o : OpD) : List UInt8 := if o.kind = 0 then fixedB o.size o.n else if o.kind = 1 then sizeB o.n else if o.kind = 2 then sizeB o.b.length ++ o.b else o.b
def putE (o : OpD) : Int := if o.kind = 0 then fixedE o.size o.n else 0
def PutOp (base b : Nat) (xs ys : List UInt8) (ok : Bool) (w : World) (e : Ending) (w' : World) : Prop := e = .returned (.bool ok) ∧ PenAt base w' b (xs ++ ys) ∧ PenStep b w w'
theorem fixedE_is (s : Int) (x : Nat) : fixedE s x = 0 ∨ fixedE s x = 2 ∨ fixedE s x = 10 := by
  unfold fixedE
  (repeat' split) <;> simp
theorem raw_one (base b : Nat) (xs bs : List UInt8) (A : Option Addr) (c : Nat) (W : World) (hp : PenAt base W b xs) (ha : ApartO W b A bs) (hl : xs.length + bs.length ≤ 100000000) (hbase : base ≤ W.heap.size) (g : Nat) (hg : W.heap.size = g) :
    Calls Try.prog 30 #[.pointer (some ⟨b, 0, none⟩), .slice (some ⟨g, 0, none⟩) 1 1] (W.alloc (.cells #[.slice A bs.length c] 25)) fun e w' => e = .returned (.int .i64 0) ∧ PenAt base w' b (xs ++ bs) ∧ PenStep b W w' := by
  subst hg
  have hfl : flat [(A, bs, c)] = bs := by simp [flat]
  have hb : Below W.heap.size W (W.alloc (.cells #[.slice A bs.length c] 25)) := (Below.refl _ W).alloc (Nat.le_refl _) _
  refine (penRawO_any base b xs [(A, bs, c)] 1 rfl (some ⟨W.heap.size, 0, none⟩) 1 _ (hp.below hb) (partsO_one hp ha _ rfl) (by rw [hfl]; omega) (by simp) (Nat.le_trans hbase hb.size)).mono fun e w' h => ?_
  obtain ⟨h1, h2, h3⟩ := h
  rw [hfl] at h2
  exact ⟨h1, h2, (PenStep.of_below hp.lt hb).trans h3⟩
theorem new_below0 (w : World) (o : Obj) : Below w.heap.size w (w.alloc o) := (Below.refl _ w).alloc (Nat.le_refl _) o
set_option maxRecDepth 100000 in
set_option maxHeartbeats 4000000 in
theorem put_0 (s : Int) (x : Nat) (hx : x < 18446744073709551616) (bs : List UInt8) (A : Option Addr) (c b base n₀ : Nat) (xs : List UInt8) (w : World) (hh : Bytes8 n₀ w A bs) (hn : n₀ ≤ base) (hbase : base ≤ w.heap.size) (hp : PenAt base w b xs) (hl : bs.length ≤ 1000000) (hxl : xs.length ≤ 1000000) :
    Calls Try.prog 32 #[.pointer (some ⟨b, 0, none⟩), .agg #[.int .i64 0, .int .i64 s, .int .u64 (x : Int), .slice A bs.length c]] w (PutOp base b xs (fixedB s x) (fixedE s x == 0) w) := by
  have hb0 := new_below0 w (.cells #[.int .i64 0, .int .i64 s, .int .u64 (x : Int), .slice A bs.length c] 33)
  have HP := Lib.hid (hp.below hb0)
  have HS0 := Lib.hid (PenStep.of_below hp.lt hb0)
  have HA := Lib.hid (ApartO.low HP.out hn (Nat.le_trans hbase hb0.size) (hh.below hb0 (Nat.le_trans hn hbase)))
  have hbs := Nat.le_trans hbase hb0.size
  clear hh hp hb0
  have HF := Lib.hid (penFixed_any base b xs s x hx (w.alloc (.cells #[.int .i64 0, .int .i64 s, .int .u64 (x : Int), .slice A bs.length c] 33)) HP.out (by omega) hbs)
  rcases fixedE_is s x with h | h | h
  all_goals
    rw [h] at HF ⊢
    clear h
    go_enter Try.func32, Try.ntmps32
    go_wp2_with (go_at_call 27; refine HF.out.mono ?_; rintro e w1 ⟨rfl, hp1, hs1⟩)
    go_ret
    exact ⟨rfl, hp1, HS0.out.trans hs1⟩
set_option maxRecDepth 100000 in
set_option maxHeartbeats 4000000 in
theorem put_1 (s : Int) (x : Nat) (hx : x < 18446744073709551616) (bs : List UInt8) (A : Option Addr) (c b base n₀ : Nat) (xs : List UInt8) (w : World) (hh : Bytes8 n₀ w A bs) (hn : n₀ ≤ base) (hbase : base ≤ w.heap.size) (hp : PenAt base w b xs) (hl : bs.length ≤ 1000000) (hxl : xs.length ≤ 1000000) :
    Calls Try.prog 32 #[.pointer (some ⟨b, 0, none⟩), .agg #[.int .i64 1, .int .i64 s, .int .u64 (x : Int), .slice A bs.length c]] w (PutOp base b xs (sizeB x) true w) := by
  have hb0 := new_below0 w (.cells #[.int .i64 1, .int .i64 s, .int .u64 (x : Int), .slice A bs.length c] 33)
  have HP := Lib.hid (hp.below hb0)
  have HS0 := Lib.hid (PenStep.of_below hp.lt hb0)
  have HA := Lib.hid (ApartO.low HP.out hn (Nat.le_trans hbase hb0.size) (hh.below hb0 (Nat.le_trans hn hbase)))
  have hbs := Nat.le_trans hbase hb0.size
  clear hh hp hb0
  have HF := Lib.hid (penSize_any base b xs x hx (w.alloc (.cells #[.int .i64 1, .int .i64 s, .int .u64 (x : Int), .slice A bs.length c] 33)) HP.out (by omega) hbs)
  go_enter Try.func32, Try.ntmps32
  go_wp2_with (go_at_call 28; refine HF.out.mono ?_; rintro e w1 ⟨rfl, hp1, hs1⟩)
  go_ret
  exact ⟨rfl, hp1, HS0.out.trans hs1⟩
set_option maxRecDepth 100000 in
set_option maxHeartbeats 4000000 in
theorem put_2 (s : Int) (x : Nat) (hx : x < 18446744073709551616) (bs : List UInt8) (A : Option Addr) (c b base n₀ : Nat) (xs : List UInt8) (w : World) (hh : Bytes8 n₀ w A bs) (hn : n₀ ≤ base) (hbase : base ≤ w.heap.size) (hp : PenAt base w b xs) (hl : bs.length ≤ 1000000) (hxl : xs.length ≤ 1000000) :
    Calls Try.prog 32 #[.pointer (some ⟨b, 0, none⟩), .agg #[.int .i64 2, .int .i64 s, .int .u64 (x : Int), .slice A bs.length c]] w (PutOp base b xs (sizeB bs.length ++ bs) true w) := by
  have hb0 := new_below0 w (.cells #[.int .i64 2, .int .i64 s, .int .u64 (x : Int), .slice A bs.length c] 33)
  have HP := Lib.hid (hp.below hb0)
  have HS0 := Lib.hid (PenStep.of_below hp.lt hb0)
  have HA := Lib.hid (ApartO.low HP.out hn (Nat.le_trans hbase hb0.size) (hh.below hb0 (Nat.le_trans hn hbase)))
  have hbs := Nat.le_trans hbase hb0.size
  clear hh hp hb0
  have HF := Lib.hid (penBytesO_any base b xs bs A c (w.alloc (.cells #[.int .i64 2, .int .i64 s, .int .u64 (x : Int), .slice A bs.length c] 33)) HP.out HA.out (by omega) hbs)
  go_enter Try.func32, Try.ntmps32
  go_wp2_with (go_at_call 29; refine HF.out.mono ?_; rintro e w1 ⟨rfl, hp1, hs1⟩)
  go_ret
  exact ⟨rfl, hp1, HS0.out.trans hs1⟩
set_option maxRecDepth 100000 in
set_option maxHeartbeats 4000000 in
theorem put_raw (kd : Int) (n0 : (kd == 0) = false) (n1 : (kd == 1) = false) (n2 : (kd == 2) = false) (s : Int) (x : Nat) (hx : x < 18446744073709551616) (bs : List UInt8) (A : Option Addr) (c b base n₀ : Nat) (xs : List UInt8) (w : World) (hh : Bytes8 n₀ w A bs) (hn : n₀ ≤ base) (hbase : base ≤ w.heap.size) (hp : PenAt base w b xs) (hl : bs.length ≤ 1000000) (hxl : xs.length ≤ 1000000) :
    Calls Try.prog 32 #[.pointer (some ⟨b, 0, none⟩), .agg #[.int .i64 kd, .int .i64 s, .int .u64 (x : Int), .slice A bs.length c]] w (PutOp base b xs (bs) true w) := by
  have hb0 := new_below0 w (.cells #[.int .i64 kd, .int .i64 s, .int .u64 (x : Int), .slice A bs.length c] 33)
  have HP := Lib.hid (hp.below hb0)
  have HS0 := Lib.hid (PenStep.of_below hp.lt hb0)
  have HA := Lib.hid (ApartO.low HP.out hn (Nat.le_trans hbase hb0.size) (hh.below hb0 (Nat.le_trans hn hbase)))
  have hbs := Nat.le_trans hbase hb0.size
  clear hh hp hb0
  have HF := Lib.hid (raw_one base b xs bs A c (w.alloc (.cells #[.int .i64 kd, .int .i64 s, .int .u64 (x : Int), .slice A bs.length c] 33)) HP.out HA.out (by omega) hbs (w.heap.size + 1) (World.size_alloc _ _))
  go_enter Try.func32, Try.ntmps32
  go_wp2_with (go_at_call 30; refine HF.out.mono ?_; rintro e w1 ⟨rfl, hp1, hs1⟩)
  go_ret
  exact ⟨rfl, hp1, HS0.out.trans hs1⟩
theorem put_any (o : OpD) (b base n₀ : Nat) (xs : List UInt8) (w : World) (hnn : o.n < 18446744073709551616) (hh : Bytes8 n₀ w o.A o.b) (hn : n₀ ≤ base) (hbase : base ≤ w.heap.size) (hp : PenAt base w b xs) (hl : o.b.length ≤ 1000000) (hxl : xs.length ≤ 1000000) :
    Calls Try.prog 32 #[.pointer (some ⟨b, 0, none⟩), .agg #[.int .i64 o.kind, .int .i64 o.size, .int .u64 (o.n : Int), .slice o.A o.b.length o.c]] w (PutOp base b xs (putB o) (putE o == 0) w) := by
  obtain ⟨k, s, n, A, bs, c⟩ := o
  simp only at hnn hh hl
  unfold putB putE
  simp only
  by_cases h0 : k = 0
  · subst h0
    rw [if_pos rfl, if_pos rfl]
    exact put_0 s n hnn bs A c b base n₀ xs w hh hn hbase hp hl hxl
  rw [if_neg h0, if_neg h0]
  by_cases h1 : k = 1
  · subst h1
    rw [if_pos rfl]
    exact put_1 s n hnn bs A c b base n₀ xs w hh hn hbase hp hl hxl
  rw [if_neg h1]
  by_cases h2 : k = 2
  · subst h2
    rw [if_pos rfl]
    exact put_2 s n hnn bs A c b base n₀ xs w hh hn hbase hp hl hxl
  rw [if_neg h2]
  exact put_raw k (by simpa using h0) (by simpa using h1) (by simpa using h2) s n hnn bs A c b base n₀ xs w hh hn hbase hp hl hxl
end Go.Proofs.Ytngkckngjobojaa.Oct
