/- The function that ops.operations answers: for every loop body. No condition beyond the memory's reach. -/
import Derived.Test.YtkecldmjjhhlgaaOpsA
import Derived.Test.YtkecldmjjhhlgaaRng
import Derived.Shelf.Abstract
import Derived.Shelf.RegionOpen
import Derived.OwnWalkIn
import Derived.TacticsInMore
import Derived.LoopNIn
import Derived.LoopIn
namespace Go.Proofs.Ytkecldmjjhhlgaa.Oct
open Go.Proofs.Ytkecldmjjhhlgaa Go.RowKit Go.Shelf
attribute [local go_sem] Oper.semAt_some
/-- Where the k-th operation of a script begins. -/
def posN (s : List UInt8) : Nat → Nat
  | 0 => 0
  | k + 1 => posN s k + (ext (s.drop (posN s k))).1 + (ext (s.drop (posN s k))).2
def aft (s : List UInt8) (p : Nat) : Nat := p + (ext (s.drop p)).1 + (ext (s.drop p)).2
def poss (s : List UInt8) (k : Nat) : List Nat := (List.range k).map (posN s)
theorem poss_succ (s : List UInt8) (k : Nat) : poss s (k + 1) = poss s k ++ [posN s k] := by simp [poss, List.range_succ]
theorem poss_length (s : List UInt8) (k : Nat) : (poss s k).length = k := by simp [poss]
theorem posN_ge (s : List UInt8) : ∀ k, k ≤ posN s k
  | 0 => Nat.le_refl _
  | k + 1 => by
    have h1 := posN_ge s k
    have h2 := (ext_pos (s.drop (posN s k))).1
    simp only [posN]
    omega
/-- The data of the operation at a place, as a value: a part of the script. -/
def dataV (A : Option Addr) (s : List UInt8) (c p : Nat) : Value :=
  if 0 < (ext (s.drop p)).2 ∧ aft s p ≤ s.length then .slice (A.map fun a => ⟨a.block, a.off + (p + (ext (s.drop p)).1), none⟩) (ext (s.drop p)).2 (c - (p + (ext (s.drop p)).1)) else .slice none 0 0
def encO (A : Option Addr) (s : List UInt8) (c p : Nat) : Array Value := #[.int .i64 ((p : Int) + ((ext (s.drop p)).1 : Int) + ((ext (s.drop p)).2 : Int)), .agg #[.int .u8 ((s.getD p 0).toNat : Int), dataV A s c p]]
set_option maxRecDepth 100000 in
set_option maxHeartbeats 4000000 in
theorem ops1_in (n : Nat) (hn : 1 ≤ n) (l Bs n₀ c : Nat) (A : Option Addr) (s : List UInt8) (hsl : s.length ≤ 1000000) (hsc : s.length ≤ c) (hcm : c ≤ 9223372036854775807) (J Jx : List Nat → World → Prop) (hJo : ∀ p X Y, J p X → Below X.heap.size X Y → J p Y)
    (hY : ∀ pre x W, J pre W → pre.length < s.length → YieldAt Fence.wide (n - 1) Try.prog l (encO A s c x) W fun e W' =>
      (e = .returned (.bool true) ∧ J (pre ++ [x]) W' ∧ KB Bs n₀ W W' ∧ W.heap.size ≤ W'.heap.size) ∨ (e = .returned (.bool false) ∧ Jx (pre ++ [x]) W'))
    (W : World) (hBs : W.cell? ⟨Bs, 0, none⟩ = some (.slice A s.length c)) (hh : Holds8 n₀ W A s) (hn0 : n₀ ≤ W.heap.size) (hBl : Bs < W.heap.size) (h0 : J [] W) :
    CallsIn Fence.wide n Try.prog 39 #[.func (.yield l) #[] #[], .pointer (some ⟨Bs, 0, none⟩)] W fun e W' => (∃ v, e = .returned v) ∧ ((∃ k, s.length ≤ posN s k ∧ J (poss s k) W') ∨ ∃ k, posN s k < s.length ∧ Jx (poss s (k + 1)) W') := by
  refine callsIn_of_wp Try.func39 rfl trivial ?_ rfl
  simp only [Try.ntmps39, List.size_toArray, List.length_cons, List.length_nil, Nat.reduceAdd, Nat.reduceSub, Array.replicate_succ, Array.replicate_zero, List.push_toArray, List.append_toArray, List.nil_append, List.cons_append]
  have HH := Lib.hid hh
  have h40 : Fence.wide.fn 40 := trivial
  clear hh
  gi_wp2
  gi_loopw [3] (fun i wr => ∃ k : Nat, i = .int .i64 (posN s k : Int) ∧ posN s k ≤ 2000000 ∧ J (poss s k) wr ∧ KB Bs n₀ W wr ∧ W.heap.size ≤ wr.heap.size)
    (fun i _ => s.length - (intOf i).toNat)
  case atStart => exact ⟨0, rfl, Nat.zero_le _, h0, KB.refl _ _ _, Nat.le_refl _⟩
  case round =>
    obtain ⟨k, rfl, hp2, hJs, hkb, hsz⟩ := hrel
    have hge := posN_ge s k
    have HPN := Lib.hid (show posN s (k + 1) = posN s k + (ext (s.drop (posN s k))).1 + (ext (s.drop (posN s k))).2 from rfl)
    have HPS := Lib.hid (poss_succ s k)
    have hpl := poss_length s k
    obtain ⟨p, hp⟩ : ∃ p, posN s k = p := ⟨_, rfl⟩
    have HPK := Lib.hid hp
    rw [hp] at hp2 hge HPN HPS ⊢
    have hcx := (World.cell?_of_block (a := ⟨Bs, 0, none⟩) hkb.2).trans hBs
    by_cases hlt : p < s.length
    · have hhw := HH.out.below hkb.1 (Nat.le_refl _)
      obtain ⟨b, off, rfl, hb, hc⟩ := hhw.at_ hlt
      have hck : ¬ c = p := by omega
      have hd := hhw.drop_ p c (by omega) hsc
      rw [← cut_ne hck] at hd
      have hdl : (s.drop p).length = s.length - p := List.length_drop
      have HEX := Lib.hid (fun (m : Nat) (hm : m = s.length - p) q => ext_any (s.drop p) (by omega) (some ⟨b, off + p, none⟩) q n₀ m (by omega) wr hd (Nat.le_trans hn0 hsz))
      have hyy := hY (poss s k) p
      have hx1 := ext_pos (s.drop p)
      have hx2 := ext_le2 (s.drop p)
      have hgd : s.getD p 0 = s[p] := by simp [List.getD, hlt]
      unfold encO dataV aft at hyy
      rw [hgd] at hyy
      obtain ⟨f, hf⟩ : ∃ f, (ext (s.drop p)).1 = f := ⟨_, rfl⟩
      obtain ⟨m, hm⟩ : ∃ m, (ext (s.drop p)).2 = m := ⟨_, rfl⟩
      obtain ⟨x, hx⟩ : ∃ x, s[p] = x := ⟨_, rfl⟩
      rw [hx] at hyy hc
      rw [hf, hm] at HEX hyy HPN
      rw [hf] at hx1
      rw [hm] at hx2
      have hbw : b < wr.heap.size := Nat.lt_of_lt_of_le hb (Nat.le_trans hn0 hsz)
      have hBw : Bs < wr.heap.size := Nat.lt_of_lt_of_le hBl hsz
      have hplI : (p : Int) < (s.length : Int) := by omega
      have hJw := hJs
      have HKB := Lib.hid hkb
      have HJ := Lib.hid hJs
      have HYY := Lib.hid hyy
      have hlk : (poss s k).length < s.length := by omega
      clear hJs hJw hkb hd hyy hdl hgd hf hm hx hhw hp hpl
      by_cases hdat : 0 < m ∧ p + f + m ≤ s.length
      · obtain ⟨hm0, hme⟩ := hdat
        rw [if_pos ⟨hm0, hme⟩] at HYY
        simp only [Option.map_some] at HYY
        have i1 : (0 : Int) < (m : Int) := by omega
        have i2 : (p : Int) + (f : Int) + (m : Int) ≤ (s.length : Int) := by omega
        have hck2 : ¬ c = p + f := by omega
        gi_wp2_with (gi_at_call 40; refine (callsIn_wide.2 (HEX.out _ (by omega) _)).mono ?_; rintro e w2 ⟨rfl, hb2⟩; have hcx2 := (hb2.cell (p := ⟨Bs, 0, none⟩) hBw).trans hcx; have hc2 := (hb2.cell (p := ⟨b, off + p, none⟩) hbw).trans hc; have hsz2 := hb2.size; have hBw2 : Bs < w2.heap.size := Nat.lt_of_lt_of_le hBw hsz2; have hbw2 : b < w2.heap.size := Nat.lt_of_lt_of_le hbw hsz2; have HB2 := Lib.hid hb2; clear hb2)
        have hbox : Below wr.heap.size wr (w2.alloc (.cells #[.int .u8 (x.toNat : Int), .slice (some ⟨b, off + (p + f), none⟩) m (c - (p + f))] 32)) := HB2.out.alloc hsz2 _
        obtain ⟨f1, t1, a1, b1, hy1, hR1⟩ := HYY.out (w2.alloc (.cells #[.int .u8 (x.toNat : Int), .slice (some ⟨b, off + (p + f), none⟩) m (c - (p + f))] 32)) (hJo _ _ _ HJ.out hbox) hlk
        have hkb4 : KB Bs n₀ W (w2.alloc (.cells #[.int .u8 (x.toNat : Int), .slice (some ⟨b, off + (p + f), none⟩) m (c - (p + f))] 32)) := HKB.out.trans ⟨hbox.mono (Nat.le_trans hn0 hsz), hbox.block Bs hBw⟩
        have hsz4 := Nat.le_trans hsz hbox.size
        rw [hy1, Oper.uponIn_round]
        refine ⟨(fun h => by cases h), hR1.mono ?_⟩
        rintro e W3 (⟨rfl, hJ3, hk3, hsz3⟩ | ⟨rfl, hJx3⟩)
        · have HK3 := Lib.hid (hkb4.trans hk3)
          have HJ3 := Lib.hid hJ3
          have hszn := Nat.le_trans hsz4 hsz3
          clear hbox hkb4 hk3 hJ3 hy1 hR1 hY
          gi_wp2
          go_roundw
          case rel => exact ⟨k + 1, by rw [HPN.out]; simp, by rw [HPN.out]; omega, by rw [HPS.out]; exact HJ3.out, HK3.out, hszn⟩
          case measure => simp [intOf]; omega
        · gi_wp2
          refine bodyPost_ret (results_none rfl _ _ _) rfl ?_
          exact ⟨⟨_, rfl⟩, .inr ⟨k, by rw [HPK.out]; exact hlt, by rw [HPS.out]; exact hJx3⟩⟩
      · rw [if_neg hdat] at HYY
        by_cases hm0 : m = 0
        · subst hm0
          rw [show (p : Int) + (f : Int) + ((0 : Nat) : Int) = (p : Int) + (f : Int) by omega] at HYY
          clear hdat
          gi_wp2_with (gi_at_call 40; refine (callsIn_wide.2 (HEX.out _ (by omega) _)).mono ?_; rintro e w2 ⟨rfl, hb2⟩; have hcx2 := (hb2.cell (p := ⟨Bs, 0, none⟩) hBw).trans hcx; have hc2 := (hb2.cell (p := ⟨b, off + p, none⟩) hbw).trans hc; have hsz2 := hb2.size; have hBw2 : Bs < w2.heap.size := Nat.lt_of_lt_of_le hBw hsz2; have hbw2 : b < w2.heap.size := Nat.lt_of_lt_of_le hbw hsz2; have HB2 := Lib.hid hb2; clear hb2)
          have hbox : Below wr.heap.size wr (w2.alloc (.cells #[.int .u8 (x.toNat : Int), .slice none 0 0] 32)) := HB2.out.alloc hsz2 _
          obtain ⟨f1, t1, a1, b1, hy1, hR1⟩ := HYY.out (w2.alloc (.cells #[.int .u8 (x.toNat : Int), .slice none 0 0] 32)) (hJo _ _ _ HJ.out hbox) hlk
          have hkb4 : KB Bs n₀ W (w2.alloc (.cells #[.int .u8 (x.toNat : Int), .slice none 0 0] 32)) := HKB.out.trans ⟨hbox.mono (Nat.le_trans hn0 hsz), hbox.block Bs hBw⟩
          have hsz4 := Nat.le_trans hsz hbox.size
          rw [hy1, Oper.uponIn_round]
          refine ⟨(fun h => by cases h), hR1.mono ?_⟩
          rintro e W3 (⟨rfl, hJ3, hk3, hsz3⟩ | ⟨rfl, hJx3⟩)
          · have HK3 := Lib.hid (hkb4.trans hk3)
            have HJ3 := Lib.hid hJ3
            have hszn := Nat.le_trans hsz4 hsz3
            clear hbox hkb4 hk3 hJ3 hy1 hR1 hY
            gi_wp2
            go_roundw
            case rel => exact ⟨k + 1, by rw [HPN.out]; simp, by rw [HPN.out]; omega, by rw [HPS.out]; exact HJ3.out, HK3.out, hszn⟩
            case measure => simp [intOf]; omega
          · gi_wp2
            refine bodyPost_ret (results_none rfl _ _ _) rfl ?_
            exact ⟨⟨_, rfl⟩, .inr ⟨k, by rw [HPK.out]; exact hlt, by rw [HPS.out]; exact hJx3⟩⟩
        · have i1 : (0 : Int) < (m : Int) := by omega
          have i2 : (s.length : Int) < (p : Int) + (f : Int) + (m : Int) := by omega
          clear hdat
          gi_wp2_with (gi_at_call 40; refine (callsIn_wide.2 (HEX.out _ (by omega) _)).mono ?_; rintro e w2 ⟨rfl, hb2⟩; have hcx2 := (hb2.cell (p := ⟨Bs, 0, none⟩) hBw).trans hcx; have hc2 := (hb2.cell (p := ⟨b, off + p, none⟩) hbw).trans hc; have hsz2 := hb2.size; have hBw2 : Bs < w2.heap.size := Nat.lt_of_lt_of_le hBw hsz2; have hbw2 : b < w2.heap.size := Nat.lt_of_lt_of_le hbw hsz2; have HB2 := Lib.hid hb2; clear hb2)
          have hbox : Below wr.heap.size wr (w2.alloc (.cells #[.int .u8 (x.toNat : Int), .slice none 0 0] 32)) := HB2.out.alloc hsz2 _
          obtain ⟨f1, t1, a1, b1, hy1, hR1⟩ := HYY.out (w2.alloc (.cells #[.int .u8 (x.toNat : Int), .slice none 0 0] 32)) (hJo _ _ _ HJ.out hbox) hlk
          have hkb4 : KB Bs n₀ W (w2.alloc (.cells #[.int .u8 (x.toNat : Int), .slice none 0 0] 32)) := HKB.out.trans ⟨hbox.mono (Nat.le_trans hn0 hsz), hbox.block Bs hBw⟩
          have hsz4 := Nat.le_trans hsz hbox.size
          rw [hy1, Oper.uponIn_round]
          refine ⟨(fun h => by cases h), hR1.mono ?_⟩
          rintro e W3 (⟨rfl, hJ3, hk3, hsz3⟩ | ⟨rfl, hJx3⟩)
          · have HK3 := Lib.hid (hkb4.trans hk3)
            have HJ3 := Lib.hid hJ3
            have hszn := Nat.le_trans hsz4 hsz3
            clear hbox hkb4 hk3 hJ3 hy1 hR1 hY
            gi_wp2
            go_roundw
            case rel => exact ⟨k + 1, by rw [HPN.out]; simp, by rw [HPN.out]; omega, by rw [HPS.out]; exact HJ3.out, HK3.out, hszn⟩
            case measure => simp [intOf]; omega
          · gi_wp2
            refine bodyPost_ret (results_none rfl _ _ _) rfl ?_
            exact ⟨⟨_, rfl⟩, .inr ⟨k, by rw [HPK.out]; exact hlt, by rw [HPS.out]; exact hJx3⟩⟩
    · have hge2 : (s.length : Int) ≤ (p : Int) := by omega
      have hgn : s.length ≤ posN s k := by omega
      clear hp hge
      gi_wp2
      go_end0
      exact ⟨⟨_, rfl⟩, .inl ⟨k, hgn, hJs⟩⟩
end Go.Proofs.Ytkecldmjjhhlgaa.Oct
