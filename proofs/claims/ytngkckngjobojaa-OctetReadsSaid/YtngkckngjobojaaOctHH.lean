/- OctetReads: the walk. No condition beyond the memory's reach. -/
import Derived.Test.YtngkckngjobojaaOctGG
import Derived.Test.YtngkckngjobojaaOctQ
import Derived.Test.YtngkckngjobojaaOctT
import Derived.Test.YtngkckngjobojaaOctX
namespace Go.Proofs.Ytngkckngjobojaa.Oct
open Go.Proofs.Ytngkckngjobojaa Go.ChangeShapes Go.WideShapes Go.ChangeAt Go.RowKit Go.Shelf
/-- An eye at r, all of it from N on, and below M. -/
def EyeLow (N M : Nat) (W : World) (r : Nat) (bs : List UInt8) : Prop := ∃ lo hi, N ≤ lo ∧ lo ≤ W.heap.size ∧ hi ≤ M ∧ M ≤ W.heap.size ∧ EyeAt lo hi W r bs
theorem EyeLow.in_ {N M : Nat} {W : World} {r : Nat} {bs : List UInt8} (h : EyeLow N M W r bs) : EyeIn N W r bs := by
  obtain ⟨lo, hi, h1, h2, h3, h4, h5⟩ := h
  exact ⟨lo, hi, h1, h2, Nat.le_trans h3 h4, h5⟩
theorem EyeIn.low {N M : Nat} {W : World} {r : Nat} {bs : List UInt8} (h : EyeIn N W r bs) (hm : M = W.heap.size) : EyeLow N M W r bs := by
  subst hm
  obtain ⟨lo, hi, h1, h2, h3, h5⟩ := h
  exact ⟨lo, hi, h1, h2, h3, Nat.le_refl _, h5⟩
theorem EyeLow.below {N M : Nat} {W W' : World} {r : Nat} {bs : List UInt8} (h : EyeLow N M W r bs) (hb : Below W.heap.size W W') : EyeLow N M W' r bs := by
  obtain ⟨lo, hi, h1, h2, h3, h4, h5⟩ := h
  exact ⟨lo, hi, h1, Nat.le_trans h2 hb.size, h3, Nat.le_trans h4 hb.size, h5.below hb⟩
theorem EyeLow.other {N M g : Nat} {W W' : World} {r : Nat} {bs : List UInt8} (h : EyeLow N M W r bs) (hs : EyeStep g W W') (hg : M ≤ g) : EyeLow N M W' r bs := by
  obtain ⟨lo, hi, h1, h2, h3, h4, h5⟩ := h
  exact ⟨lo, hi, h1, Nat.le_trans h2 hs.size, h3, Nat.le_trans h4 hs.size, h5.other hs (.inr (Nat.le_trans h3 hg))⟩
theorem EyeIn.lt {N : Nat} {W : World} {r : Nat} {bs : List UInt8} (h : EyeIn N W r bs) : r < W.heap.size := by
  obtain ⟨lo, hi, h1, h2, h3, h4⟩ := h
  exact h4.lt
/-- A read of bytes: what comes is new, and the eye lies below it. -/
def ReadLow (N r : Nat) (xs ys : List UInt8) (E : Int) (W : World) (e : Ending) (w' : World) : Prop :=
  ∃ X c, e = .returned (.tuple #[.slice X xs.length c, .int .i64 E]) ∧ w'.ownsRow W.heap.size 5 1 (.slice X xs.length c) xs.length (vals xs) ∧ EyeLow N W.heap.size w' r ys ∧ Below N W w' ∧ EyeStep r W w'
theorem read_low {N lo hi r : Nat} {W w' : World} {bs xs ys : List UInt8} {E : Int} {e : Ending} (h1 : N ≤ lo) (h2 : lo ≤ W.heap.size) (h3 : hi ≤ W.heap.size) (h4 : EyeAt lo hi W r bs) (h' : ReadB lo hi r (xs, E, ys) W e w') : ReadLow N r xs ys E W e w' := by
  obtain ⟨v, rfl, hr, he, hs⟩ := h'
  obtain ⟨X, c, rfl, hh, _, _, ha⟩ := own_open hr
  obtain ⟨a, b⟩ := eye_after h1 h2 h3 h4 he hs
  exact ⟨X, c, rfl, hr, ⟨lo, hi, h1, Nat.le_trans h2 hs.size, h3, hs.size, he⟩, b, hs⟩
theorem eye_bytes_low (bs xs ys : List UInt8) (most E : Int) (hm : most ≤ 9223372036854775807) (hl : bs.length ≤ 100000000) (hR : bytesR bs most = (xs, E, ys)) (N r : Nat) (W : World) (h : EyeIn N W r bs) :
    Calls Try.prog 22 #[.pointer (some ⟨r, 0, none⟩), .int .i64 most] W (ReadLow N r xs ys E W) := by
  obtain ⟨lo, hi, h1, h2, h3, h4⟩ := h
  refine (eyeBytes_any lo hi r bs most hm W h4 (by omega) h2).mono fun e w' h' => ?_
  rw [hR] at h'
  exact read_low h1 h2 h3 h4 h'
theorem eye_raw_low (bs xs ys : List UInt8) (n E : Int) (hl : bs.length ≤ 100000000) (hR : rawR bs n = (xs, E, ys)) (N r : Nat) (W : World) (h : EyeIn N W r bs) :
    Calls Try.prog 21 #[.pointer (some ⟨r, 0, none⟩), .int .i64 n] W (ReadLow N r xs ys E W) := by
  obtain ⟨lo, hi, h1, h2, h3, h4⟩ := h
  refine (eyeRaw_any lo hi r bs n W h4 (by omega)).mono fun e w' h' => ?_
  rw [hR] at h'
  exact read_low h1 h2 h3 h4 h'
theorem fixedR_sfx {u ys : List UInt8} {s E : Int} {m : Nat} (h : fixedR u s = (m, E, ys)) : ∃ j, j ≤ u.length ∧ ys = u.drop j := by
  unfold fixedR at h
  split at h
  · split at h
    · injection h with _ h; injection h with _ h; exact ⟨0, by omega, by rw [← h]; rfl⟩
    · injection h with _ h; injection h with _ h; exact ⟨s.toNat, by omega, h.symm⟩
  · injection h with _ h; injection h with _ h; exact ⟨0, by omega, by rw [← h]; rfl⟩
theorem eyeSizeR_sfx {u ys : List UInt8} {E : Int} {m : Nat} (h : eyeSizeR u = (m, E, ys)) : ∃ j, j ≤ u.length ∧ ys = u.drop j := by
  unfold eyeSizeR at h
  split at h
  · rename_i h1
    injection h with _ h; injection h with _ h; exact ⟨_, (szOf_le h1).1, h.symm⟩
  · injection h with _ h; injection h with _ h; exact ⟨0, by omega, by rw [← h]; rfl⟩
theorem rawR_sfx {u xs ys : List UInt8} {s E : Int} (h : rawR u s = (xs, E, ys)) : ∃ j, j ≤ u.length ∧ ys = u.drop j := by
  unfold rawR at h
  split at h
  · injection h with _ h; injection h with _ h; exact ⟨0, by omega, by rw [← h]; rfl⟩
  · split at h
    · injection h with _ h; injection h with _ h; exact ⟨0, by omega, by rw [← h]; rfl⟩
    · injection h with _ h; injection h with _ h; exact ⟨s.toNat, by omega, h.symm⟩
theorem bytesR_sfx {u xs ys : List UInt8} {s E : Int} (h : bytesR u s = (xs, E, ys)) : ∃ j, j ≤ u.length ∧ ys = u.drop j := by
  unfold bytesR at h
  split at h
  · rename_i h1
    injection h with _ h; injection h with _ h
    exact ⟨(szOf u).2.1 + (szOf u).1, by have := (szOf_le h1.1).1; omega, by rw [← h, List.drop_drop]⟩
  · injection h with _ h; injection h with _ h; exact ⟨0, by omega, by rw [← h]; rfl⟩
theorem rawR_len {u xs ys : List UInt8} {s E : Int} (h : rawR u s = (xs, E, ys)) : xs.length ≤ u.length := by
  unfold rawR at h
  split at h
  · injection h with h _; rw [← h]; simp
  · split at h
    · injection h with h _; rw [← h]; simp
    · injection h with h _; rw [← h, List.length_take]; omega
theorem bytesR_len {u xs ys : List UInt8} {s E : Int} (h : bytesR u s = (xs, E, ys)) : xs.length ≤ u.length := by
  unfold bytesR at h
  split at h
  · injection h with h _; rw [← h, List.length_take, List.length_drop]; omega
  · injection h with h _; rw [← h]; simp
/-- Where one is in the bytes behind a read. -/
theorem place {bs u ys : List UInt8} {k j : Nat} (hk : k ≤ bs.length) (hu : u = bs.drop k) (hj : j ≤ u.length) (hy : ys = u.drop j) : ys = bs.drop (k + j) ∧ k + j ≤ bs.length ∧ bs.length - ys.length = k + j ∧ ys.length = bs.length - (k + j) := by
  subst hu hy
  rw [List.length_drop] at hj
  rw [List.drop_drop]
  exact ⟨rfl, by omega, by rw [List.length_drop]; omega, by rw [List.length_drop]⟩
theorem GotN.at_ {bs ys : List UInt8} {m T : Nat} {E : Int} {W w' : World} {e : Ending} (h : GotN bs (m, E, ys) W e w') (hT : bs.length - ys.length = T) : e = .returned (.tuple #[.int .u64 (m : Int), .int .i64 (T : Int), .int .i64 E]) ∧ Below W.heap.size W w' := by
  subst hT
  exact h
theorem GotB.at_ {bs xs ys : List UInt8} {T : Nat} {E : Int} {W w' : World} {e : Ending} (h : GotB bs (xs, E, ys) W e w') (hT : bs.length - ys.length = T) : ∃ Y cy, e = .returned (.tuple #[.slice Y xs.length cy, .int .i64 (T : Int), .int .i64 E]) ∧ Holds8 w'.heap.size w' Y xs ∧ Below W.heap.size W w' := by
  subst hT
  obtain ⟨v, rfl, hr, hb⟩ := h
  obtain ⟨Y, cy, rfl, hh, _⟩ := own_open hr
  exact ⟨Y, cy, rfl, hh, hb⟩
theorem tail_no {bs ys : List UInt8} {T : Nat} (hT : T ≤ bs.length) (hl : ys.length = bs.length - T) : ((ys.length : Int) != (bs.length : Int) - (T : Int)) = false ∧ ((ys.length : Int) == (bs.length : Int) - (T : Int)) = true := by
  have : (ys.length : Int) = (bs.length : Int) - (T : Int) := by omega
  rw [this]
  simp
theorem tail_end {bs ys : List UInt8} {T : Nat} (hT : T ≤ bs.length) (hl : ys.length = bs.length - T) : (T = bs.length ∧ ys = [] ∧ ((T : Int) == (bs.length : Int)) = true) ∨ (ys ≠ [] ∧ ((T : Int) == (bs.length : Int)) = false) := by
  by_cases h : T = bs.length
  · exact .inl ⟨h, List.eq_nil_of_length_eq_zero (by omega), by simp; omega⟩
  · exact .inr ⟨fun e => by rw [e] at hl; simp at hl; omega, by simp; omega⟩
theorem kinds (k : Int) : k = 0 ∨ k = 1 ∨ k = 2 ∨ k = 3 ∨ ((k == 0) = false ∧ (k == 1) = false ∧ (k == 2) = false ∧ (k == 3) = false) := by
  simp only [beq_eq_false_iff_ne]
  omega
set_option maxRecDepth 100000 in
set_option maxHeartbeats 8000000 in
theorem reads_walk (bs : List UInt8) (A : Option Addr) (c : Nat) (l : List OpD) (PA : Option Addr) (cap : Nat) (w : World) (hh : Holds8 w.heap.size w A bs) (hA : A = none → c = 0) (hc : bs.length ≤ c) (hcm : c ≤ 9223372036854775807) (h : OpsAt w.heap.size w PA l) (hl : l.length ≤ 9223372036854775807) :
    Calls Try.prog 4 #[.slice A bs.length c, .slice PA l.length cap] w fun e w' => e = .returned (.bool true) ∧ Below w.heap.size w w' := by
  have HGR := Lib.hid (great_any l PA cap w.heap.size w h hl)
  by_cases hg : greatB l = true
  · rw [hg] at HGR
    clear h hh
    go_enter Try.func4, Try.ntmps4
    go_wp2_with (go_at_call 9; refine HGR.out.mono ?_; rintro e w' ⟨rfl, rfl⟩)
    go_ret
    exact ⟨rfl, Below.refl _ _⟩
  have hg0 : greatB l = false := by simpa using hg
  rw [hg0] at HGR
  by_cases hbig : 20000 < bs.length
  · have d1 : (20000 : Int) < (bs.length : Int) := by omega
    clear h hh hbig hg hg0
    go_enter Try.func4, Try.ntmps4
    go_wp2_with (go_at_call 9; refine HGR.out.mono ?_; rintro e w' ⟨rfl, rfl⟩)
    go_ret
    exact ⟨rfl, Below.refl _ _⟩
  have hbl : bs.length ≤ 20000 := by omega
  have d1 : decide ((20000 : Int) < (bs.length : Int)) = false := by simp; omega
  have H := Lib.hid h
  have HH := Lib.hid hh
  have HTW := Lib.hid (twin_in bs A c w.heap.size w (.inl hh) (by omega))
  clear h hh hg hg0 hbig
  go_enter Try.func4, Try.ntmps4
  go_wp2_with (first
    | (go_at_call 9; refine HGR.out.mono ?_; rintro e w' ⟨rfl, rfl⟩)
    | (go_at_call 15; refine HTW.out.mono ?_; rintro e w1 ⟨v, rfl, hr1, hb1⟩; obtain ⟨X, cx, rfl, hx, hxc, hX0, hxa⟩ := own_open hr1; have HR1 := Lib.hid hr1; have HX1 := Lib.hid hx; have HX0 := Lib.hid hX0; have HXA := Lib.hid hxa; have HB1 := Lib.hid hb1; clear hr1 hx hX0 hxa hb1)
    | (go_at_call 16; refine (look_any bs X cx w1.heap.size HX0.out w1 HX1.out (Nat.le_refl _) (by omega)).mono ?_; rintro e w2 ⟨r, rfl, hey, hb2⟩; have HEY := Lib.hid hey; have HB2 := Lib.hid hb2; clear hey hb2))
  obtain ⟨G, hG, hGw, hG1⟩ : ∃ G : Nat, (∀ a, X = some a → a.block = G) ∧ w.heap.size ≤ G ∧ (G < w1.heap.size ∨ w2.heap.size ≤ G) := by
    cases X with
    | none => exact ⟨w2.heap.size, (fun a e => by cases e), Nat.le_trans HB1.out.size HB2.out.size, .inr (Nat.le_refl _)⟩
    | some a => exact ⟨a.block, (fun b e => by injection e with e; rw [e]), (HXA.out a rfl).1, .inl (HXA.out a rfl).2⟩
  have HG := Lib.hid hG
  have HR2 := Lib.hid (ownsRow_below HR1.out HB2.out)
  have HB12 := Lib.hid (HB1.out.trans (HB2.out.mono HB1.out.size))
  have HG1 := Lib.hid hG1
  clear hG hG1
  go_loopw [37] (fun i wr => ∃ (q : Nat) (ys : List UInt8), q ≤ bs.length ∧ i = .int .i64 (q : Int) ∧ ys.length = bs.length ∧ wr.ownsRow w.heap.size 5 1 (.slice X bs.length cx) bs.length (Go.Proofs.Ytngkckngjobojaa.Oct.vals ys) ∧ EyeStep G w2 wr) (fun i _ => bs.length - (intOf i).toNat)
  case atStart => exact ⟨0, bs, Nat.zero_le _, rfl, rfl, HR2.out, EyeStep.refl _ _⟩
  case round =>
    obtain ⟨q, ys, hq, rfl, hyl, hrow, hE⟩ := hrel
    by_cases hlt : q < bs.length
    · obtain ⟨g, cg, hX, hgb, hgl, hgc, hgcell, hgf⟩ := own_form hyl (by omega) hrow
      rw [hyl] at hX
      have hcq := hgcell q (by omega)
      rw [Nat.zero_add] at hcq
      have hfq := hgf q
      obtain ⟨y, hy⟩ : ∃ y, ys[q]'(by omega) = y := ⟨_, rfl⟩
      rw [hy] at hcq
      have hub := UInt8.toNat_lt y
      obtain ⟨y2, hy2⟩ : ∃ y2 : UInt8, y + 1 = y2 := ⟨_, rfl⟩
      have ey : ((y.toNat : Int) + 1) % 256 = (y2.toNat : Int) := by
        rw [← hy2, UInt8.toNat_add]
        simp
      have hgG : G = g := by
        injection hX with h1 _ _
        exact (HG.out _ h1).symm
      have HX := Lib.hid hX
      rw [hX] at hrow ⊢
      have HS := Lib.hid (own_store hrow q y2)
      have HL := Lib.hid (show (ys.set q y2).length = bs.length by rw [List.length_set]; exact hyl)
      have HE := Lib.hid (show EyeStep G w2 (wr.setCell ⟨g, q, none⟩ (.int .u8 (y2.toNat : Int))) by rw [hgG] at hE ⊢; exact hE.store)
      clear hgcell hgf hy hy2 hrow hyl hX hE hgG
      go_wp2
      refine ⟨⟨q + 1, ys.set q y2, by omega, by go_num, HL.out, HS.out, HE.out⟩, ?_⟩
      simp [intOf]
      omega
    · obtain rfl : q = bs.length := by omega
      have HBZ := Lib.hid (below_then_eye HB12.out hGw hE)
      have HEZ := Lib.hid (show EyeIn w.heap.size wr r bs from ⟨w1.heap.size, w2.heap.size, HB1.out.size, Nat.le_trans HB2.out.size hE.size, hE.size, HEY.out.other hE HG1.out⟩)
      clear hrow hyl hlt hq hE
      rename World => w3
      go_wp2
      go_loopw [8, 51] (fun at_ i wr => ∃ q k : Nat, q ≤ l.length ∧ k ≤ bs.length ∧ i = .int .i64 (q : Int) ∧ at_ = .int .i64 (k : Int) ∧ EyeIn w.heap.size wr r (bs.drop k) ∧ Below w.heap.size w wr) (fun _ i _ => l.length - (intOf i).toNat)
      case atStart => exact ⟨0, 0, Nat.zero_le _, Nat.zero_le _, rfl, rfl, HEZ.out, HBZ.out⟩
      case round =>
        clear HEZ HBZ HGR HTW HR1 HX1 HX0 HXA HB1 HEY HB2 HG HR2 HB12 HG1 hGw d1
        obtain ⟨q, k, hq, hk, rfl, rfl, hey, hB⟩ := hrel
        by_cases hlt : q < l.length
        · obtain ⟨b0, off0, rfl, hb0, c0, c1, c2, c3⟩ := H.out.cells q hlt
          have hok := H.out.ok _ (List.getElem_mem hlt)
          obtain ⟨o, ho⟩ : ∃ o, l[q] = o := ⟨_, rfl⟩
          rw [ho] at c0 c1 c2 c3 hok
          obtain ⟨kd, s, on, oA, ob, oc⟩ := o
          simp only at c0 c1 c2 c3
          have hs := hok.size
          simp only at hs
          have hcell := fun (k : Nat) => hB.cell (p := ⟨b0, k, none⟩) hb0
          have f0 := (hcell _).trans c0
          have f1 := (hcell _).trans c1
          have f2 := (hcell _).trans c2
          have f3 := (hcell _).trans c3
          have hru : r < wr.heap.size := hey.lt
          have hul : (bs.drop k).length ≤ 20000 := by rw [List.length_drop]; omega
          obtain ⟨u, hu⟩ : ∃ u, u = bs.drop k := ⟨_, rfl⟩
          rw [← hu] at hey hul
          have HB := Lib.hid hB
          have HEY := Lib.hid hey
          have HU := Lib.hid hu
          clear c0 c1 c2 c3 hcell hok ho hB hey hu
          rcases kinds kd with rfl | rfl | rfl | rfl | ⟨n0, n1, n2, n3⟩
          · have HBX := Lib.hid (heap_alloc_new wr (.cells #[.int .i64 0, .int .i64 s, .int .u64 (on : Int), .slice oA ob.length oc] 33))
            have hsz : wr.heap.size < (wr.alloc (.cells #[.int .i64 0, .int .i64 s, .int .u64 (on : Int), .slice oA ob.length oc] 33)).heap.size := by rw [World.size_alloc]; omega
            have HB0 := Lib.hid (HB.out.trans ((new_below wr (.cells #[.int .i64 0, .int .i64 s, .int .u64 (on : Int), .slice oA ob.length oc] 33)).mono HB.out.size))
            have HEY0 := Lib.hid (HEY.out.below (new_below wr (.cells #[.int .i64 0, .int .i64 s, .int .u64 (on : Int), .slice oA ob.length oc] 33)))
            obtain ⟨m1, E1, ys1, hR1⟩ : ∃ m E ys, fixedR u s = (m, E, ys) := ⟨_, _, _, rfl⟩
            obtain ⟨j1, hj1, hy1⟩ := fixedR_sfx hR1
            obtain ⟨q11, q21, q31, q41⟩ := place hk HU.out hj1 hy1
            obtain ⟨T1, hT1⟩ : ∃ T, k + j1 = T := ⟨_, rfl⟩
            rw [hT1] at q11 q21 q31 q41
            have HEF := Lib.hid (fun W hW => eye_fixed_in u ys1 s E1 m1 (by omega) hR1 w.heap.size r W hW)
            have HGF := Lib.hid (show ∀ W, Holds8 w.heap.size W A bs → w.heap.size ≤ W.heap.size → Calls Try.prog 18 #[.slice A bs.length c, .int .i64 (k : Int), .int .i64 s] W fun e w' => e = .returned (.tuple #[.int .u64 (m1 : Int), .int .i64 (T1 : Int), .int .i64 E1]) ∧ Below W.heap.size W w' from fun W h1 h2 => by
              have h3 := getFixed_any bs A c w.heap.size k hk hbl s W h1 h2 hc hcm
              rw [← HU.out, hR1] at h3
              exact h3.mono fun e w' h4 => h4.at_ q31)
            obtain ⟨t1, t2⟩ := tail_no q21 q41
            have HLF := Lib.hid (fun W hW => eye_left_in ys1 w.heap.size r W hW)
            have HQ1 := Lib.hid q11
            rcases tail_end q21 q41 with ⟨rfl, rfl, _⟩ | ⟨hnil, t3⟩
            · have HND := Lib.hid (fun W hW => eye_end_in [] 0 rfl w.heap.size r W hW)
              replace HLF := Lib.hid (show ∀ W, EyeIn w.heap.size W r [] → Calls Try.prog 25 #[.pointer (some ⟨r, 0, none⟩)] W fun e w' => e = .returned (.int .i64 0) ∧ W = w' from HLF.out)
              clear t1 t2
              have HQ2 := Lib.hid (Nat.le_refl bs.length)
              clear hR1 hy1 q11 q31 q41 hT1 hj1
              go_wp2_with (first
                | (go_at_call 17; refine (HEF.out _ HEY0.out).mono ?_; rintro e w4 ⟨rfl, hey1, hbl1, hst1⟩; have HEY1 := Lib.hid hey1; have HB1 := Lib.hid (HB0.out.trans hbl1); have hbx1 := (hst1.keep wr.heap.size hsz (by omega)).trans HBX.out; have hsz1 : wr.heap.size < w4.heap.size := Nat.lt_of_lt_of_le hsz hst1.size; have HBX1 := Lib.hid hbx1; have e10 := cell_of_row w4 wr.heap.size 0 _ _ _ hbx1; have e11 := cell_of_row w4 wr.heap.size 1 _ _ _ hbx1; simp only [List.getElem?_toArray, List.getElem?_cons_zero, List.getElem?_cons_succ] at e10 e11; clear hey1 hbl1 hst1 hbx1)
                | (go_at_call 18; refine (HGF.out w4 (HH.out.below HB1.out (Nat.le_refl _)) HB1.out.size).mono ?_; rintro e w5 ⟨rfl, hb5⟩; have HEY2 := Lib.hid (HEY1.out.below hb5); have HB2 := Lib.hid (HB1.out.trans (hb5.mono HB1.out.size)); have hbx2 := (hb5.block wr.heap.size hsz1).trans HBX1.out; have hsz2 : wr.heap.size < w5.heap.size := Nat.lt_of_lt_of_le hsz1 hb5.size; have e20 := cell_of_row w5 wr.heap.size 0 _ _ _ hbx2; simp only [List.getElem?_toArray, List.getElem?_cons_zero, List.getElem?_cons_succ] at e20; clear e10 e11 hb5 hbx2)
                | (go_at_call 25; refine (HLF.out _ HEY2.out).mono ?_; rintro e w8 ⟨rfl, rfl⟩)
                | (go_at_call 26; refine (HND.out _ HEY2.out).mono ?_; rintro e w8 ⟨rfl, rfl⟩))
              refine ⟨⟨q + 1, bs.length, by omega, HQ2.out, by go_num, rfl, by rw [← HQ1.out]; exact HEY2.out, HB2.out⟩, ?_⟩
              simp [intOf]
              omega
            · have HND := Lib.hid (fun W hW => eye_end_in ys1 10 (by rw [if_neg hnil]) w.heap.size r W hW)
              have HQ2 := Lib.hid q21
              clear hR1 hy1 q11 q31 q41 hT1 hj1 hnil
              go_wp2_with (first
                | (go_at_call 17; refine (HEF.out _ HEY0.out).mono ?_; rintro e w4 ⟨rfl, hey1, hbl1, hst1⟩; have HEY1 := Lib.hid hey1; have HB1 := Lib.hid (HB0.out.trans hbl1); have hbx1 := (hst1.keep wr.heap.size hsz (by omega)).trans HBX.out; have hsz1 : wr.heap.size < w4.heap.size := Nat.lt_of_lt_of_le hsz hst1.size; have HBX1 := Lib.hid hbx1; have e10 := cell_of_row w4 wr.heap.size 0 _ _ _ hbx1; have e11 := cell_of_row w4 wr.heap.size 1 _ _ _ hbx1; simp only [List.getElem?_toArray, List.getElem?_cons_zero, List.getElem?_cons_succ] at e10 e11; clear hey1 hbl1 hst1 hbx1)
                | (go_at_call 18; refine (HGF.out w4 (HH.out.below HB1.out (Nat.le_refl _)) HB1.out.size).mono ?_; rintro e w5 ⟨rfl, hb5⟩; have HEY2 := Lib.hid (HEY1.out.below hb5); have HB2 := Lib.hid (HB1.out.trans (hb5.mono HB1.out.size)); have hbx2 := (hb5.block wr.heap.size hsz1).trans HBX1.out; have hsz2 : wr.heap.size < w5.heap.size := Nat.lt_of_lt_of_le hsz1 hb5.size; have e20 := cell_of_row w5 wr.heap.size 0 _ _ _ hbx2; simp only [List.getElem?_toArray, List.getElem?_cons_zero, List.getElem?_cons_succ] at e20; clear e10 e11 hb5 hbx2)
                | (go_at_call 25; refine (HLF.out _ HEY2.out).mono ?_; rintro e w8 ⟨rfl, rfl⟩)
                | (go_at_call 26; refine (HND.out _ HEY2.out).mono ?_; rintro e w8 ⟨rfl, rfl⟩))
              refine ⟨⟨q + 1, T1, by omega, HQ2.out, by go_num, rfl, by rw [← HQ1.out]; exact HEY2.out, HB2.out⟩, ?_⟩
              simp [intOf]
              omega
          · have HBX := Lib.hid (heap_alloc_new wr (.cells #[.int .i64 1, .int .i64 s, .int .u64 (on : Int), .slice oA ob.length oc] 33))
            have hsz : wr.heap.size < (wr.alloc (.cells #[.int .i64 1, .int .i64 s, .int .u64 (on : Int), .slice oA ob.length oc] 33)).heap.size := by rw [World.size_alloc]; omega
            have HB0 := Lib.hid (HB.out.trans ((new_below wr (.cells #[.int .i64 1, .int .i64 s, .int .u64 (on : Int), .slice oA ob.length oc] 33)).mono HB.out.size))
            have HEY0 := Lib.hid (HEY.out.below (new_below wr (.cells #[.int .i64 1, .int .i64 s, .int .u64 (on : Int), .slice oA ob.length oc] 33)))
            obtain ⟨m1, E1, ys1, hR1⟩ : ∃ m E ys, fixedR u s = (m, E, ys) := ⟨_, _, _, rfl⟩
            obtain ⟨j1, hj1, hy1⟩ := fixedR_sfx hR1
            obtain ⟨q11, q21, q31, q41⟩ := place hk HU.out hj1 hy1
            obtain ⟨T1, hT1⟩ : ∃ T, k + j1 = T := ⟨_, rfl⟩
            rw [hT1] at q11 q21 q31 q41
            have HEF := Lib.hid (fun W hW => eye_fixed_in u ys1 s E1 m1 (by omega) hR1 w.heap.size r W hW)
            have HGF := Lib.hid (show ∀ W, Holds8 w.heap.size W A bs → w.heap.size ≤ W.heap.size → Calls Try.prog 18 #[.slice A bs.length c, .int .i64 (k : Int), .int .i64 s] W fun e w' => e = .returned (.tuple #[.int .u64 (m1 : Int), .int .i64 (T1 : Int), .int .i64 E1]) ∧ Below W.heap.size W w' from fun W h1 h2 => by
              have h3 := getFixed_any bs A c w.heap.size k hk hbl s W h1 h2 hc hcm
              rw [← HU.out, hR1] at h3
              exact h3.mono fun e w' h4 => h4.at_ q31)
            have hul1 : ys1.length ≤ 20000 := by omega
            obtain ⟨m2, E2, ys2, hR2⟩ : ∃ m E ys, eyeSizeR ys1 = (m, E, ys) := ⟨_, _, _, rfl⟩
            obtain ⟨j2, hj2, hy2⟩ := eyeSizeR_sfx hR2
            obtain ⟨q12, q22, q32, q42⟩ := place q21 q11 hj2 hy2
            obtain ⟨T2, hT2⟩ : ∃ T, T1 + j2 = T := ⟨_, rfl⟩
            rw [hT2] at q12 q22 q32 q42
            have HES := Lib.hid (fun W hW => eye_size_in ys1 ys2 E2 m2 (by omega) hR2 w.heap.size r W hW)
            have HGS := Lib.hid (show ∀ W, Holds8 w.heap.size W A bs → w.heap.size ≤ W.heap.size → Calls Try.prog 20 #[.slice A bs.length c, .int .i64 (T1 : Int)] W fun e w' => e = .returned (.tuple #[.int .u64 (m2 : Int), .int .i64 (T2 : Int), .int .i64 E2]) ∧ Below W.heap.size W w' from fun W h1 h2 => by
              have h3 := getSize_any bs A c w.heap.size T1 q21 hbl W h1 h2 hc hcm
              rw [← q11, hR2] at h3
              exact h3.mono fun e w' h4 => h4.at_ q32)
            obtain ⟨t1, t2⟩ := tail_no q22 q42
            have HLF := Lib.hid (fun W hW => eye_left_in ys2 w.heap.size r W hW)
            have HQ1 := Lib.hid q12
            rcases tail_end q22 q42 with ⟨rfl, rfl, _⟩ | ⟨hnil, t3⟩
            · have HND := Lib.hid (fun W hW => eye_end_in [] 0 rfl w.heap.size r W hW)
              replace HLF := Lib.hid (show ∀ W, EyeIn w.heap.size W r [] → Calls Try.prog 25 #[.pointer (some ⟨r, 0, none⟩)] W fun e w' => e = .returned (.int .i64 0) ∧ W = w' from HLF.out)
              clear t1 t2
              have HQ2 := Lib.hid (Nat.le_refl bs.length)
              clear hR1 hy1 q31 q41 hT1 hj1 hR2 hy2 q12 q32 q42 hT2 hj2 q11
              go_wp2_with (first
                | (go_at_call 17; refine (HEF.out _ HEY0.out).mono ?_; rintro e w4 ⟨rfl, hey1, hbl1, hst1⟩; have HEY1 := Lib.hid hey1; have HB1 := Lib.hid (HB0.out.trans hbl1); have hbx1 := (hst1.keep wr.heap.size hsz (by omega)).trans HBX.out; have hsz1 : wr.heap.size < w4.heap.size := Nat.lt_of_lt_of_le hsz hst1.size; have HBX1 := Lib.hid hbx1; have e10 := cell_of_row w4 wr.heap.size 0 _ _ _ hbx1; have e11 := cell_of_row w4 wr.heap.size 1 _ _ _ hbx1; simp only [List.getElem?_toArray, List.getElem?_cons_zero, List.getElem?_cons_succ] at e10 e11; clear hey1 hbl1 hst1 hbx1)
                | (go_at_call 18; refine (HGF.out w4 (HH.out.below HB1.out (Nat.le_refl _)) HB1.out.size).mono ?_; rintro e w5 ⟨rfl, hb5⟩; have HEY2 := Lib.hid (HEY1.out.below hb5); have HB2 := Lib.hid (HB1.out.trans (hb5.mono HB1.out.size)); have hbx2 := (hb5.block wr.heap.size hsz1).trans HBX1.out; have hsz2 : wr.heap.size < w5.heap.size := Nat.lt_of_lt_of_le hsz1 hb5.size; have e20 := cell_of_row w5 wr.heap.size 0 _ _ _ hbx2; simp only [List.getElem?_toArray, List.getElem?_cons_zero, List.getElem?_cons_succ] at e20; clear e10 e11 hb5 hbx2)
                | (go_at_call 19; refine (HES.out _ HEY2.out).mono ?_; rintro e w6 ⟨rfl, hey3, hbl3, hst3⟩; have HEY3 := Lib.hid hey3; have HB3 := Lib.hid (HB2.out.trans hbl3); clear e20 hey3 hbl3 hst3)
                | (go_at_call 20; refine (HGS.out w6 (HH.out.below HB3.out (Nat.le_refl _)) HB3.out.size).mono ?_; rintro e w7 ⟨rfl, hb7⟩; have HEY4 := Lib.hid (HEY3.out.below hb7); have HB4 := Lib.hid (HB3.out.trans (hb7.mono HB3.out.size)); clear hb7)
                | (go_at_call 25; refine (HLF.out _ HEY4.out).mono ?_; rintro e w8 ⟨rfl, rfl⟩)
                | (go_at_call 26; refine (HND.out _ HEY4.out).mono ?_; rintro e w8 ⟨rfl, rfl⟩))
              refine ⟨⟨q + 1, bs.length, by omega, HQ2.out, by go_num, rfl, by rw [← HQ1.out]; exact HEY4.out, HB4.out⟩, ?_⟩
              simp [intOf]
              omega
            · have HND := Lib.hid (fun W hW => eye_end_in ys2 10 (by rw [if_neg hnil]) w.heap.size r W hW)
              have HQ2 := Lib.hid q22
              clear hR1 hy1 q31 q41 hT1 hj1 hR2 hy2 q12 q32 q42 hT2 hj2 q11 hnil
              go_wp2_with (first
                | (go_at_call 17; refine (HEF.out _ HEY0.out).mono ?_; rintro e w4 ⟨rfl, hey1, hbl1, hst1⟩; have HEY1 := Lib.hid hey1; have HB1 := Lib.hid (HB0.out.trans hbl1); have hbx1 := (hst1.keep wr.heap.size hsz (by omega)).trans HBX.out; have hsz1 : wr.heap.size < w4.heap.size := Nat.lt_of_lt_of_le hsz hst1.size; have HBX1 := Lib.hid hbx1; have e10 := cell_of_row w4 wr.heap.size 0 _ _ _ hbx1; have e11 := cell_of_row w4 wr.heap.size 1 _ _ _ hbx1; simp only [List.getElem?_toArray, List.getElem?_cons_zero, List.getElem?_cons_succ] at e10 e11; clear hey1 hbl1 hst1 hbx1)
                | (go_at_call 18; refine (HGF.out w4 (HH.out.below HB1.out (Nat.le_refl _)) HB1.out.size).mono ?_; rintro e w5 ⟨rfl, hb5⟩; have HEY2 := Lib.hid (HEY1.out.below hb5); have HB2 := Lib.hid (HB1.out.trans (hb5.mono HB1.out.size)); have hbx2 := (hb5.block wr.heap.size hsz1).trans HBX1.out; have hsz2 : wr.heap.size < w5.heap.size := Nat.lt_of_lt_of_le hsz1 hb5.size; have e20 := cell_of_row w5 wr.heap.size 0 _ _ _ hbx2; simp only [List.getElem?_toArray, List.getElem?_cons_zero, List.getElem?_cons_succ] at e20; clear e10 e11 hb5 hbx2)
                | (go_at_call 19; refine (HES.out _ HEY2.out).mono ?_; rintro e w6 ⟨rfl, hey3, hbl3, hst3⟩; have HEY3 := Lib.hid hey3; have HB3 := Lib.hid (HB2.out.trans hbl3); clear e20 hey3 hbl3 hst3)
                | (go_at_call 20; refine (HGS.out w6 (HH.out.below HB3.out (Nat.le_refl _)) HB3.out.size).mono ?_; rintro e w7 ⟨rfl, hb7⟩; have HEY4 := Lib.hid (HEY3.out.below hb7); have HB4 := Lib.hid (HB3.out.trans (hb7.mono HB3.out.size)); clear hb7)
                | (go_at_call 25; refine (HLF.out _ HEY4.out).mono ?_; rintro e w8 ⟨rfl, rfl⟩)
                | (go_at_call 26; refine (HND.out _ HEY4.out).mono ?_; rintro e w8 ⟨rfl, rfl⟩))
              refine ⟨⟨q + 1, T2, by omega, HQ2.out, by go_num, rfl, by rw [← HQ1.out]; exact HEY4.out, HB4.out⟩, ?_⟩
              simp [intOf]
              omega
          · have HBX := Lib.hid (heap_alloc_new wr (.cells #[.int .i64 2, .int .i64 s, .int .u64 (on : Int), .slice oA ob.length oc] 33))
            have hsz : wr.heap.size < (wr.alloc (.cells #[.int .i64 2, .int .i64 s, .int .u64 (on : Int), .slice oA ob.length oc] 33)).heap.size := by rw [World.size_alloc]; omega
            have HB0 := Lib.hid (HB.out.trans ((new_below wr (.cells #[.int .i64 2, .int .i64 s, .int .u64 (on : Int), .slice oA ob.length oc] 33)).mono HB.out.size))
            have HEY0 := Lib.hid (HEY.out.below (new_below wr (.cells #[.int .i64 2, .int .i64 s, .int .u64 (on : Int), .slice oA ob.length oc] 33)))
            have hr0 : rawR u 0 = ([], 0, u) := by unfold rawR; rw [if_neg (by decide), if_neg (by simp)]; simp
            obtain ⟨xs, E1, ys1, hR1⟩ : ∃ m E ys, bytesR u s = (m, E, ys) := ⟨_, _, _, rfl⟩
            have hxl := bytesR_len hR1
            obtain ⟨j1, hj1, hy1⟩ := bytesR_sfx hR1
            obtain ⟨q11, q21, q31, q41⟩ := place hk HU.out hj1 hy1
            obtain ⟨T1, hT1⟩ : ∃ T, k + j1 = T := ⟨_, rfl⟩
            rw [hT1] at q11 q21 q31 q41
            have HRW := Lib.hid (fun W hW => eye_raw_low u [] u 0 0 (by omega) hr0 w.heap.size r W hW)
            have HRD := Lib.hid (fun W hW => eye_bytes_low u xs ys1 s E1 hs.2 (by omega) hR1 w.heap.size r W hW)
            have HGB := Lib.hid (show ∀ W, Holds8 w.heap.size W A bs → w.heap.size ≤ W.heap.size → Calls Try.prog 23 #[.slice A bs.length c, .int .i64 (k : Int), .int .i64 s] W fun e w' => ∃ Y cy, e = .returned (.tuple #[.slice Y xs.length cy, .int .i64 (T1 : Int), .int .i64 E1]) ∧ Holds8 w'.heap.size w' Y xs ∧ Below W.heap.size W w' from fun W h1 h2 => by
              have h3 := getBytes_any bs A c w.heap.size k hk hbl s hs.2 W h1 h2 hc hcm
              rw [← HU.out, hR1] at h3
              exact h3.mono fun e w' h4 => h4.at_ q31)
            clear hr0
            obtain ⟨t1, t2⟩ := tail_no q21 q41
            have HLF := Lib.hid (fun W hW => eye_left_in ys1 w.heap.size r W hW)
            have HQ1 := Lib.hid q11
            have HT4 := Lib.hid (And.intro q21 q41)
            clear hR1 hy1 q11 q31 q41 hT1 hj1
            go_wp2_with (first
              | (go_at_call 21; refine (HRW.out _ HEY0.out).mono ?_; rintro e w4 ⟨X0, cx0, rfl, hrw, hlow, hbl1, hst1⟩; clear HRW; have HEY1 := Lib.hid hlow.in_; have HB1 := Lib.hid (HB0.out.trans hbl1); have hbx1 := (hst1.keep wr.heap.size hsz (by omega)).trans HBX.out; have hsz1 : wr.heap.size < w4.heap.size := Nat.lt_of_lt_of_le hsz hst1.size; have HBX1 := Lib.hid hbx1; have e10 := cell_of_row w4 wr.heap.size 0 _ _ _ hbx1; have e11 := cell_of_row w4 wr.heap.size 1 _ _ _ hbx1; simp only [List.getElem?_toArray, List.getElem?_cons_zero, List.getElem?_cons_succ] at e10 e11; clear hrw hlow hbl1 hst1 hbx1)
              | (go_at_call 22; refine (HRD.out _ HEY1.out).mono ?_; rintro e w5 ⟨X, cx, rfl, hrw, hlow, hbl2, hst2⟩; have HLOW := Lib.hid hlow; have HB2 := Lib.hid (HB1.out.trans hbl2); have hbx2 := (hst2.keep wr.heap.size hsz1 (by omega)).trans HBX1.out; have hsz2 : wr.heap.size < w5.heap.size := Nat.lt_of_lt_of_le hsz1 hst2.size; have HRO := Lib.hid hrw; clear e10 e11; have e20 := cell_of_row w5 wr.heap.size 0 _ _ _ hbx2; have e21 := cell_of_row w5 wr.heap.size 1 _ _ _ hbx2; simp only [List.getElem?_toArray, List.getElem?_cons_zero, List.getElem?_cons_succ] at e20 e21; clear hrw hlow hbl2 hst2 hbx2)
              | (go_at_call 23; refine (HGB.out w5 (HH.out.below HB2.out (Nat.le_refl _)) HB2.out.size).mono ?_; rintro e w6 ⟨Y, cy, rfl, hy6, hb6⟩; have HLOW2 := Lib.hid (HLOW.out.below hb6); have HB3 := Lib.hid (HB2.out.trans (hb6.mono HB2.out.size)); have HRO2 := Lib.hid (ownsRow_below HRO.out hb6); obtain ⟨X2, cx2, hX2, hx2, _, _, hxa⟩ := own_open HRO2.out; injection hX2 with hX2a _ hX2c; subst hX2a hX2c; have est1 := str_of hx2 cx; have est2 := str_of hy6 cy; have HXA := Lib.hid hxa; clear e20 e21 hy6 hb6 hx2 hxa))
            obtain ⟨G, hG, hGw⟩ : ∃ G : Nat, (∀ a, X = some a → a.block = G) ∧ w4.heap.size ≤ G := by
              cases X with
              | none => exact ⟨w4.heap.size, (fun a e => by cases e), Nat.le_refl _⟩
              | some a => exact ⟨a.block, (fun b e => by injection e with e; rw [e]), (HXA.out a rfl).1⟩
            have HG := Lib.hid hG
            clear est1 est2 hG
            go_loopw [159] (fun i wr2 => ∃ (p : Nat) (zs : List UInt8), p ≤ xs.length ∧ i = .int .i64 (p : Int) ∧ zs.length = xs.length ∧ wr2.ownsRow w4.heap.size 5 1 (.slice X xs.length cx) xs.length (Go.Proofs.Ytngkckngjobojaa.Oct.vals zs) ∧ EyeStep G w6 wr2) (fun i _ => xs.length - (intOf i).toNat)
            case atStart => exact ⟨0, xs, Nat.zero_le _, rfl, rfl, HRO2.out, EyeStep.refl _ _⟩
            case round =>
              obtain ⟨p, zs, hp, rfl, hyl, hrow, hE⟩ := hrel
              by_cases hlt2 : p < xs.length
              · obtain ⟨g, cg, hX, hgb, hgl, hgc, hgcell, hgf⟩ := own_form hyl (by omega) hrow
                rw [hyl] at hX
                have hcq := hgcell p (by omega)
                rw [Nat.zero_add] at hcq
                have hfq := hgf p
                obtain ⟨y, hy⟩ : ∃ y, zs[p]'(by omega) = y := ⟨_, rfl⟩
                rw [hy] at hcq
                have hub := UInt8.toNat_lt y
                obtain ⟨y2, hy2⟩ : ∃ y2 : UInt8, y + 1 = y2 := ⟨_, rfl⟩
                have ey : ((y.toNat : Int) + 1) % 256 = (y2.toNat : Int) := by
                  rw [← hy2, UInt8.toNat_add]
                  simp
                have hgG : G = g := by
                  injection hX with h1 _ _
                  exact (HG.out _ h1).symm
                have HX := Lib.hid hX
                rw [hX] at hrow ⊢
                have HS := Lib.hid (own_store hrow p y2)
                have HL := Lib.hid (show (zs.set p y2).length = xs.length by rw [List.length_set]; exact hyl)
                rename World => wy
                have HE := Lib.hid (show EyeStep G w6 (wy.setCell ⟨g, p, none⟩ (.int .u8 (y2.toNat : Int))) by rw [hgG] at hE ⊢; exact hE.store)
                clear hgcell hgf hy hy2 hrow hyl hX hE hgG
                go_wp2
                refine ⟨⟨p + 1, zs.set p y2, by omega, by go_num, HL.out, HS.out, HE.out⟩, ?_⟩
                simp [intOf]
                omega
              · obtain rfl : p = xs.length := by omega
                have HEY9 := Lib.hid (HLOW2.out.other hE hGw).in_
                have HB9 := Lib.hid (below_then_eye HB3.out (Nat.le_trans HB1.out.size hGw) hE)
                obtain ⟨q21, q41⟩ := HT4.out
                clear hrow hyl hlt2 hp hE
                rcases tail_end q21 q41 with ⟨rfl, rfl, _⟩ | ⟨hnil, t3⟩
                · have HND := Lib.hid (fun W hW => eye_end_in [] 0 rfl w.heap.size r W hW)
                  replace HLF := Lib.hid (show ∀ W, EyeIn w.heap.size W r [] → Calls Try.prog 25 #[.pointer (some ⟨r, 0, none⟩)] W fun e w' => e = .returned (.int .i64 0) ∧ W = w' from HLF.out)
                  clear t1 t2
                  have HQ2 := Lib.hid (Nat.le_refl bs.length)
                  clear q21 q41
                  go_wp2_with (first
                    | (go_at_call 25; refine (HLF.out _ HEY9.out).mono ?_; rintro e w8 ⟨rfl, rfl⟩)
                    | (go_at_call 26; refine (HND.out _ HEY9.out).mono ?_; rintro e w8 ⟨rfl, rfl⟩))
                  refine ⟨⟨q + 1, bs.length, by omega, HQ2.out, by go_num, rfl, by rw [← HQ1.out]; exact HEY9.out, HB9.out⟩, ?_⟩
                  simp [intOf]
                  omega
                · have HND := Lib.hid (fun W hW => eye_end_in ys1 10 (by rw [if_neg hnil]) w.heap.size r W hW)
                  have HQ2 := Lib.hid q21
                  clear q21 q41 hnil
                  go_wp2_with (first
                    | (go_at_call 25; refine (HLF.out _ HEY9.out).mono ?_; rintro e w8 ⟨rfl, rfl⟩)
                    | (go_at_call 26; refine (HND.out _ HEY9.out).mono ?_; rintro e w8 ⟨rfl, rfl⟩))
                  refine ⟨⟨q + 1, T1, by omega, HQ2.out, by go_num, rfl, by rw [← HQ1.out]; exact HEY9.out, HB9.out⟩, ?_⟩
                  simp [intOf]
                  omega
          · have HBX := Lib.hid (heap_alloc_new wr (.cells #[.int .i64 3, .int .i64 s, .int .u64 (on : Int), .slice oA ob.length oc] 33))
            have hsz : wr.heap.size < (wr.alloc (.cells #[.int .i64 3, .int .i64 s, .int .u64 (on : Int), .slice oA ob.length oc] 33)).heap.size := by rw [World.size_alloc]; omega
            have HB0 := Lib.hid (HB.out.trans ((new_below wr (.cells #[.int .i64 3, .int .i64 s, .int .u64 (on : Int), .slice oA ob.length oc] 33)).mono HB.out.size))
            have HEY0 := Lib.hid (HEY.out.below (new_below wr (.cells #[.int .i64 3, .int .i64 s, .int .u64 (on : Int), .slice oA ob.length oc] 33)))
            have hr0 : rawR u 0 = ([], 0, u) := by unfold rawR; rw [if_neg (by decide), if_neg (by simp)]; simp
            obtain ⟨xs, E1, ys1, hR1⟩ : ∃ m E ys, rawR u s = (m, E, ys) := ⟨_, _, _, rfl⟩
            have hxl := rawR_len hR1
            obtain ⟨j1, hj1, hy1⟩ := rawR_sfx hR1
            obtain ⟨q11, q21, q31, q41⟩ := place hk HU.out hj1 hy1
            obtain ⟨T1, hT1⟩ : ∃ T, k + j1 = T := ⟨_, rfl⟩
            rw [hT1] at q11 q21 q31 q41
            have HRW := Lib.hid (fun W hW => eye_raw_low u [] u 0 0 (by omega) hr0 w.heap.size r W hW)
            have HRD := Lib.hid (fun W hW => eye_raw_low u xs ys1 s E1 (by omega) hR1 w.heap.size r W hW)
            have HGB := Lib.hid (show ∀ W, Holds8 w.heap.size W A bs → w.heap.size ≤ W.heap.size → Calls Try.prog 24 #[.slice A bs.length c, .int .i64 (k : Int), .int .i64 s] W fun e w' => ∃ Y cy, e = .returned (.tuple #[.slice Y xs.length cy, .int .i64 (T1 : Int), .int .i64 E1]) ∧ Holds8 w'.heap.size w' Y xs ∧ Below W.heap.size W w' from fun W h1 h2 => by
              have h3 := getRaw_any bs A c w.heap.size k hk hbl s W h1 hc hcm hA
              rw [← HU.out, hR1] at h3
              exact h3.mono fun e w' h4 => h4.at_ q31)
            clear hr0
            obtain ⟨t1, t2⟩ := tail_no q21 q41
            have HLF := Lib.hid (fun W hW => eye_left_in ys1 w.heap.size r W hW)
            have HQ1 := Lib.hid q11
            have HT4 := Lib.hid (And.intro q21 q41)
            clear hR1 hy1 q11 q31 q41 hT1 hj1
            go_wp2_with (first
              | (go_at_call 21; refine (HRW.out _ HEY0.out).mono ?_; rintro e w4 ⟨X0, cx0, rfl, hrw, hlow, hbl1, hst1⟩; clear HRW; have HEY1 := Lib.hid hlow.in_; have HB1 := Lib.hid (HB0.out.trans hbl1); have hbx1 := (hst1.keep wr.heap.size hsz (by omega)).trans HBX.out; have hsz1 : wr.heap.size < w4.heap.size := Nat.lt_of_lt_of_le hsz hst1.size; have HBX1 := Lib.hid hbx1; have e10 := cell_of_row w4 wr.heap.size 0 _ _ _ hbx1; have e11 := cell_of_row w4 wr.heap.size 1 _ _ _ hbx1; simp only [List.getElem?_toArray, List.getElem?_cons_zero, List.getElem?_cons_succ] at e10 e11; clear hrw hlow hbl1 hst1 hbx1)
              | (go_at_call 21; refine (HRD.out _ HEY1.out).mono ?_; rintro e w5 ⟨X, cx, rfl, hrw, hlow, hbl2, hst2⟩; have HLOW := Lib.hid hlow; have HB2 := Lib.hid (HB1.out.trans hbl2); have hbx2 := (hst2.keep wr.heap.size hsz1 (by omega)).trans HBX1.out; have hsz2 : wr.heap.size < w5.heap.size := Nat.lt_of_lt_of_le hsz1 hst2.size; have HRO := Lib.hid hrw; clear e10 e11; have e20 := cell_of_row w5 wr.heap.size 0 _ _ _ hbx2; have e21 := cell_of_row w5 wr.heap.size 1 _ _ _ hbx2; simp only [List.getElem?_toArray, List.getElem?_cons_zero, List.getElem?_cons_succ] at e20 e21; clear hrw hlow hbl2 hst2 hbx2)
              | (go_at_call 24; refine (HGB.out w5 (HH.out.below HB2.out (Nat.le_refl _)) HB2.out.size).mono ?_; rintro e w6 ⟨Y, cy, rfl, hy6, hb6⟩; have HLOW2 := Lib.hid (HLOW.out.below hb6); have HB3 := Lib.hid (HB2.out.trans (hb6.mono HB2.out.size)); have HRO2 := Lib.hid (ownsRow_below HRO.out hb6); obtain ⟨X2, cx2, hX2, hx2, _, _, hxa⟩ := own_open HRO2.out; injection hX2 with hX2a _ hX2c; subst hX2a hX2c; have est1 := str_of hx2 cx; have est2 := str_of hy6 cy; have HXA := Lib.hid hxa; clear e20 e21 hy6 hb6 hx2 hxa))
            obtain ⟨G, hG, hGw⟩ : ∃ G : Nat, (∀ a, X = some a → a.block = G) ∧ w4.heap.size ≤ G := by
              cases X with
              | none => exact ⟨w4.heap.size, (fun a e => by cases e), Nat.le_refl _⟩
              | some a => exact ⟨a.block, (fun b e => by injection e with e; rw [e]), (HXA.out a rfl).1⟩
            have HG := Lib.hid hG
            clear est1 est2 hG
            go_loopw [159] (fun i wr2 => ∃ (p : Nat) (zs : List UInt8), p ≤ xs.length ∧ i = .int .i64 (p : Int) ∧ zs.length = xs.length ∧ wr2.ownsRow w4.heap.size 5 1 (.slice X xs.length cx) xs.length (Go.Proofs.Ytngkckngjobojaa.Oct.vals zs) ∧ EyeStep G w6 wr2) (fun i _ => xs.length - (intOf i).toNat)
            case atStart => exact ⟨0, xs, Nat.zero_le _, rfl, rfl, HRO2.out, EyeStep.refl _ _⟩
            case round =>
              obtain ⟨p, zs, hp, rfl, hyl, hrow, hE⟩ := hrel
              by_cases hlt2 : p < xs.length
              · obtain ⟨g, cg, hX, hgb, hgl, hgc, hgcell, hgf⟩ := own_form hyl (by omega) hrow
                rw [hyl] at hX
                have hcq := hgcell p (by omega)
                rw [Nat.zero_add] at hcq
                have hfq := hgf p
                obtain ⟨y, hy⟩ : ∃ y, zs[p]'(by omega) = y := ⟨_, rfl⟩
                rw [hy] at hcq
                have hub := UInt8.toNat_lt y
                obtain ⟨y2, hy2⟩ : ∃ y2 : UInt8, y + 1 = y2 := ⟨_, rfl⟩
                have ey : ((y.toNat : Int) + 1) % 256 = (y2.toNat : Int) := by
                  rw [← hy2, UInt8.toNat_add]
                  simp
                have hgG : G = g := by
                  injection hX with h1 _ _
                  exact (HG.out _ h1).symm
                have HX := Lib.hid hX
                rw [hX] at hrow ⊢
                have HS := Lib.hid (own_store hrow p y2)
                have HL := Lib.hid (show (zs.set p y2).length = xs.length by rw [List.length_set]; exact hyl)
                rename World => wy
                have HE := Lib.hid (show EyeStep G w6 (wy.setCell ⟨g, p, none⟩ (.int .u8 (y2.toNat : Int))) by rw [hgG] at hE ⊢; exact hE.store)
                clear hgcell hgf hy hy2 hrow hyl hX hE hgG
                go_wp2
                refine ⟨⟨p + 1, zs.set p y2, by omega, by go_num, HL.out, HS.out, HE.out⟩, ?_⟩
                simp [intOf]
                omega
              · obtain rfl : p = xs.length := by omega
                have HEY9 := Lib.hid (HLOW2.out.other hE hGw).in_
                have HB9 := Lib.hid (below_then_eye HB3.out (Nat.le_trans HB1.out.size hGw) hE)
                obtain ⟨q21, q41⟩ := HT4.out
                clear hrow hyl hlt2 hp hE
                rcases tail_end q21 q41 with ⟨rfl, rfl, _⟩ | ⟨hnil, t3⟩
                · have HND := Lib.hid (fun W hW => eye_end_in [] 0 rfl w.heap.size r W hW)
                  replace HLF := Lib.hid (show ∀ W, EyeIn w.heap.size W r [] → Calls Try.prog 25 #[.pointer (some ⟨r, 0, none⟩)] W fun e w' => e = .returned (.int .i64 0) ∧ W = w' from HLF.out)
                  clear t1 t2
                  have HQ2 := Lib.hid (Nat.le_refl bs.length)
                  clear q21 q41
                  go_wp2_with (first
                    | (go_at_call 25; refine (HLF.out _ HEY9.out).mono ?_; rintro e w8 ⟨rfl, rfl⟩)
                    | (go_at_call 26; refine (HND.out _ HEY9.out).mono ?_; rintro e w8 ⟨rfl, rfl⟩))
                  refine ⟨⟨q + 1, bs.length, by omega, HQ2.out, by go_num, rfl, by rw [← HQ1.out]; exact HEY9.out, HB9.out⟩, ?_⟩
                  simp [intOf]
                  omega
                · have HND := Lib.hid (fun W hW => eye_end_in ys1 10 (by rw [if_neg hnil]) w.heap.size r W hW)
                  have HQ2 := Lib.hid q21
                  clear q21 q41 hnil
                  go_wp2_with (first
                    | (go_at_call 25; refine (HLF.out _ HEY9.out).mono ?_; rintro e w8 ⟨rfl, rfl⟩)
                    | (go_at_call 26; refine (HND.out _ HEY9.out).mono ?_; rintro e w8 ⟨rfl, rfl⟩))
                  refine ⟨⟨q + 1, T1, by omega, HQ2.out, by go_num, rfl, by rw [← HQ1.out]; exact HEY9.out, HB9.out⟩, ?_⟩
                  simp [intOf]
                  omega
          · have HBX := Lib.hid (heap_alloc_new wr (.cells #[.int .i64 kd, .int .i64 s, .int .u64 (on : Int), .slice oA ob.length oc] 33))
            have hsz : wr.heap.size < (wr.alloc (.cells #[.int .i64 kd, .int .i64 s, .int .u64 (on : Int), .slice oA ob.length oc] 33)).heap.size := by rw [World.size_alloc]; omega
            have HB0 := Lib.hid (HB.out.trans ((new_below wr (.cells #[.int .i64 kd, .int .i64 s, .int .u64 (on : Int), .slice oA ob.length oc] 33)).mono HB.out.size))
            have HEY0 := Lib.hid (HEY.out.below (new_below wr (.cells #[.int .i64 kd, .int .i64 s, .int .u64 (on : Int), .slice oA ob.length oc] 33)))
            have q11 : u = bs.drop k := HU.out
            have q41 : u.length = bs.length - k := by rw [q11, List.length_drop]
            obtain ⟨t1, t2⟩ := tail_no hk q41
            have HLF := Lib.hid (fun W hW => eye_left_in u w.heap.size r W hW)
            have HQ1 := Lib.hid q11
            rcases tail_end hk q41 with ⟨rfl, rfl, _⟩ | ⟨hnil, t3⟩
            · have HND := Lib.hid (fun W hW => eye_end_in [] 0 rfl w.heap.size r W hW)
              replace HLF := Lib.hid (show ∀ W, EyeIn w.heap.size W r [] → Calls Try.prog 25 #[.pointer (some ⟨r, 0, none⟩)] W fun e w' => e = .returned (.int .i64 0) ∧ W = w' from HLF.out)
              clear t1 t2
              have HQ2 := Lib.hid (Nat.le_refl bs.length)
              clear q11 q41
              go_wp2_with (first
                | (go_at_call 25; refine (HLF.out _ HEY0.out).mono ?_; rintro e w8 ⟨rfl, rfl⟩)
                | (go_at_call 26; refine (HND.out _ HEY0.out).mono ?_; rintro e w8 ⟨rfl, rfl⟩))
              refine ⟨⟨q + 1, bs.length, by omega, HQ2.out, by go_num, rfl, by rw [← HQ1.out]; exact HEY0.out, HB0.out⟩, ?_⟩
              simp [intOf]
              omega
            · have HND := Lib.hid (fun W hW => eye_end_in u 10 (by rw [if_neg hnil]) w.heap.size r W hW)
              have HQ2 := Lib.hid hk
              clear q11 q41 hnil
              go_wp2_with (first
                | (go_at_call 25; refine (HLF.out _ HEY0.out).mono ?_; rintro e w8 ⟨rfl, rfl⟩)
                | (go_at_call 26; refine (HND.out _ HEY0.out).mono ?_; rintro e w8 ⟨rfl, rfl⟩))
              refine ⟨⟨q + 1, k, by omega, HQ2.out, by go_num, rfl, by rw [← HQ1.out]; exact HEY0.out, HB0.out⟩, ?_⟩
              simp [intOf]
              omega
        · obtain rfl : q = l.length := by omega
          have HB := Lib.hid hB
          clear hlt hq hey hB
          go_wp2
          go_ret
          exact ⟨rfl, HB.out⟩
end Go.Proofs.Ytngkckngjobojaa.Oct
