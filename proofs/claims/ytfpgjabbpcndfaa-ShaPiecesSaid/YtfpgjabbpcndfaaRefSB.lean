/- Contract of the reference's padding: a message of at most 1,000,000 bytes. -/
import Derived.Test.YtfpgjabbpcndfaaRefSA
import Derived.Test.YtfpgjabbpcndfaaShaD
import Derived.Test.YtfpgjabbpcndfaaApp
namespace Go.Proofs.Ytfpgjabbpcndfaa.Oct
set_option linter.unusedVariables false
set_option linter.unusedSimpArgs false
open Go.Proofs.Ytfpgjabbpcndfaa Go.RowKit Go.Lib

/-- A message, its mark, and so many zeros. -/
def zr (bs : List UInt8) (j : Nat) : List UInt8 := bs ++ (128 :: List.replicate j 0)
theorem zr_length (bs : List UInt8) (j : Nat) : (zr bs j).length = bs.length + 1 + j := by simp [zr]; omega
theorem zr_succ (bs : List UInt8) (j : Nat) : zr bs j ++ [0] = zr bs (j + 1) := by
  unfold zr
  rw [List.replicate_succ', List.append_assoc, List.cons_append]
/-- The same, with so many bytes of its length behind it. -/
def zl (bs : List UInt8) (k : Nat) : List UInt8 := zr bs (padLen bs.length - 9) ++ (List.range k).map fun i => byteK bs.length (7 - i)
theorem zl_length (bs : List UInt8) (k : Nat) : (zl bs k).length = bs.length + padLen bs.length - 8 + k := by
  have := padLen_bounds bs.length
  unfold zl
  rw [List.length_append, zr_length, List.length_map, List.length_range]
  omega
theorem zl_succ (bs : List UInt8) (k : Nat) : zl bs k ++ [byteK bs.length (7 - k)] = zl bs (k + 1) := by
  unfold zl
  rw [List.range_succ, List.map_append, List.append_assoc]
  rfl
theorem zl_all (bs : List UInt8) : zl bs 8 = bs ++ padding bs.length := by
  unfold zl zr padding
  rw [List.append_assoc]
  rfl
theorem pad_more (n j : Nat) (h : j < padLen n - 9) : (n + 1 + j) % 64 ≠ 56 := by
  unfold padLen at h
  split at h <;> omega
theorem pad_done (n : Nat) : (n + 1 + (padLen n - 9)) % 64 = 56 := by
  unfold padLen
  split <;> omega

def lenV : Value → Nat | .slice _ n _ => n | _ => 0

set_option maxRecDepth 100000 in
set_option maxHeartbeats 2000000 in
theorem rpadded_any (bs : List UInt8) (A : Option Addr) (c n₀ : Nat) (w : World) (hh : Holds8 n₀ w A bs) (hl : bs.length ≤ 1000000) :
    Calls Try.prog 22 #[.slice A bs.length c] w (OwnBytes w (bs ++ padding bs.length)) := by
  have hpl := padLen_bounds bs.length
  have hoe : w.ownsRow w.heap.size 5 1 (.slice none 0 0) ([] : List UInt8).length (vals []) := World.ownsRow_nil _ _ _ _
  have HH := Lib.hid hh
  have HON : ∀ W : World, Holds8 (W.alloc (.cells #[.int .u8 128] 5)).heap.size (W.alloc (.cells #[.int .u8 128] 5)) (some ⟨W.heap.size, 0, none⟩) [128] := fun W => holds_one W 128
  have HZ : ∀ W : World, Holds8 (W.alloc (.cells #[.int .u8 0] 5)).heap.size (W.alloc (.cells #[.int .u8 0] 5)) (some ⟨W.heap.size, 0, none⟩) [0] := fun W => holds_one W 0
  have HON' := Lib.hid HON
  have HZ' := Lib.hid HZ
  obtain ⟨n, hn⟩ : ∃ n, bs.length = n := ⟨_, rfl⟩
  have HN := Lib.hid hn
  rw [hn] at hl hpl ⊢
  clear hh HON HZ hn
  go_enter Try.func22, Try.ntmps22
  go_wp2_with (first
    | (at_builtin; refine wpList_append_bytes rfl (.tmp 6) (.tmp 7) rfl w.heap.size _ _ [] bs rfl hoe A c (by rw [HN.out]; rfl) HH.out (by rw [HN.out]; simp; omega) (Nat.le_refl _) ?_; intro v1 w1 hown1 hgr1 hv1)
    | (at_builtin; refine wpList_append_bytes rfl (.tmp 9) (.tmp 10) rfl w.heap.size _ _ bs [128] rfl (ownsRow_below hown1 ((Below.refl _ _).alloc (Nat.le_refl _) _)) (some ⟨w1.heap.size, 0, none⟩) 1 rfl (HON'.out w1) (by rw [HN.out, List.length_singleton]; omega) (by have := hgr1.size; simp; omega) ?_; intro v2 w2 hown2 hgr2 hv2))
  have hb2 : Below w.heap.size w w2 := ((((Below.refl _ w).grown hgr1 (Nat.le_refl _) (fun k hk => by cases hk)).alloc (by have := hgr1.size; simpa using this) _).grown hgr2 (by have := hgr1.size; simp; omega) (own_row_ge hown1))
  obtain ⟨X2, c2, e2, _, _, _, _⟩ := own_open hown2
  have hz2 : (bs ++ [128]).length = n + 1 := by rw [List.length_append, HN.out]; rfl
  rw [hz2] at e2
  have HR := Lib.hid (show w2.ownsRow w.heap.size 5 1 v2 (zr bs 0).length (vals (zr bs 0)) from hown2)
  have HB := Lib.hid hb2
  subst e2
  clear hown1 hgr1 hv1 hown2 hgr2 hv2 hoe hb2 hz2
  obtain ⟨m, hm⟩ : ∃ m, n + 1 = m := ⟨_, rfl⟩
  rw [hm]
  go_loopw [3] (fun o wr => ∃ (j z : Nat) (X : Option Addr) (cc : Nat), j ≤ padLen n - 9 ∧ z = n + 1 + j ∧ o = .slice X z cc ∧ wr.ownsRow w.heap.size 5 1 (.slice X z cc) (zr bs j).length (vals (zr bs j)) ∧ Below w.heap.size w wr) (fun o _ => n + padLen n - lenV o)
  case atStart => exact ⟨0, m, X2, c2, Nat.zero_le _, by omega, rfl, by rw [← hm]; exact HR.out, HB.out⟩
  case round =>
    clear HR HB
    obtain ⟨j, z, X, cc, hj, hz, rfl, hrow, hB⟩ := hrel
    have HROW := Lib.hid hrow
    by_cases hlt : j < padLen n - 9
    · have hne : ((z : Int) % 64 != 56) = true := by
        have := pad_more n j hlt
        rw [← hz] at this
        simp
        omega
      have HZL := Lib.hid (zr_length bs j)
      clear hrow
      go_wp2_with (at_builtin; refine wpList_append_bytes rfl (.tmp 16) (.tmp 17) rfl w.heap.size _ _ (zr bs j) [0] rfl (ownsRow_below HROW.out ((Below.refl _ _).alloc (Nat.le_refl _) _)) (some ⟨wr.heap.size, 0, none⟩) 1 rfl (HZ'.out wr) (by rw [HZL.out, HN.out, List.length_singleton]; omega) (by have := hB.size; simp; omega) ?_; intro v3 w3 hown3 hgr3 hv3; have HOW := Lib.hid hown3; have HBW := Lib.hid ((hB.alloc hB.size _).grown hgr3 (by have := hB.size; simp; omega) (own_row_ge HROW.out)); clear hown3 hgr3 hv3)
      have HOW3 := Lib.hid (show w3.ownsRow w.heap.size 5 1 v3 (zr bs (j + 1)).length (vals (zr bs (j + 1))) by rw [← zr_succ]; exact HOW.out)
      obtain ⟨X3, c3, e3, _, _, _, _⟩ := own_open HOW3.out
      have hz3 : (zr bs (j + 1)).length = z + 1 := by rw [zr_length, HN.out]; omega
      rw [hz3] at e3
      subst e3
      go_roundw
      case rel => exact ⟨j + 1, z + 1, X3, c3, by omega, by omega, rfl, HOW3.out, HBW.out⟩
      case measure => simp only [lenV]; omega
    · have hj2 : j = padLen n - 9 := by omega
      have hne : ((z : Int) % 64 != 56) = false := by
        have := pad_done n
        rw [← hj2, ← hz] at this
        simp
        omega
      have HR2 := Lib.hid (show wr.ownsRow w.heap.size 5 1 (.slice X z cc) (zl bs 0).length (vals (zl bs 0)) by
        have e : zl bs 0 = zr bs j := by unfold zl; rw [HN.out, ← hj2]; simp
        rw [e]; exact hrow)
      have HB2 := Lib.hid hB
      obtain ⟨L, hL⟩ : ∃ L, 8 * n = L := ⟨_, rfl⟩
      have hw8 : IntKind.u64.wrap ((n : Int) * 8) = (L : Int) := by rw [IntKind.wrap_u64]; omega
      have hLb : L ≤ 8000000 := by omega
      have HL := Lib.hid hL
      clear hrow hlt hj hz hB hL
      obtain ⟨wo, rfl⟩ : ∃ wo : World, wo = wr := ⟨_, rfl⟩
      go_wp2
      go_loopw [3, 5] (fun o i wr => ∃ (k z : Nat) (X : Option Addr) (cc : Nat), k ≤ 8 ∧ i = .int .i64 k ∧ z = n + padLen n - 8 + k ∧ o = .slice X z cc ∧ wr.ownsRow w.heap.size 5 1 (.slice X z cc) (zl bs k).length (vals (zl bs k)) ∧ Below w.heap.size w wr) (fun _ i _ => 8 - (RowKit.intOf i).toNat)
      case atStart => exact ⟨0, z, X, cc, Nat.zero_le _, rfl, by have := own_open HR2.out; obtain ⟨X', c', e, _⟩ := this; injection e with _ e _; rw [zl_length, HN.out] at e; omega, rfl, HR2.out, HB2.out⟩
      case round =>
        clear HR2 HB2 hne
        obtain ⟨k, z, X, cc, hk, rfl, hz, rfl, hrow, hB⟩ := hrel
        have HROW := Lib.hid hrow
        have HZL := Lib.hid (zl_length bs k)
        by_cases hlt : k < 8
        · obtain ⟨y, hy⟩ : ∃ y, byteK n (7 - k) = y := ⟨_, rfl⟩
          obtain ⟨m, hm⟩ : ∃ m, L / 2 ^ (8 * (7 - k)) = m := ⟨_, rfl⟩
          have hmL : m ≤ L := by rw [← hm]; exact Nat.div_le_self _ _
          have q0 : ((56 : Int) - 8 * (k : Int)).toNat = 8 * (7 - k) := by omega
          have q1 : (L : Int) / 2 ^ (8 * (7 - k)) = (m : Int) := by
            rw [← hm]
            simp only [Int.natCast_ediv, Int.natCast_pow]
            rfl
          have ey : (m : Int) % 256 = (y.toNat : Int) := by
            rw [← hy, byteK_int, ← q1, ← HL.out]
            rfl
          have HX := Lib.hid (show zl bs k ++ [y] = zl bs (k + 1) by rw [← hy, ← HN.out]; exact zl_succ bs k)
          have HY := Lib.hid (show ∀ W : World, Holds8 (W.alloc (.cells #[.int .u8 (y.toNat : Int)] 5)).heap.size (W.alloc (.cells #[.int .u8 (y.toNat : Int)] 5)) (some ⟨W.heap.size, 0, none⟩) [y] from fun W => holds_one W y)
          clear hrow hy hm
          go_wp2_with (at_builtin; refine wpList_append_bytes rfl (.tmp 27) (.tmp 35) rfl w.heap.size _ _ (zl bs k) [y] rfl (ownsRow_below HROW.out ((Below.refl _ _).alloc (Nat.le_refl _) _)) (some ⟨wr.heap.size, 0, none⟩) 1 rfl (HY.out wr) (by rw [HZL.out, HN.out, List.length_singleton]; omega) (by have := hB.size; simp; omega) ?_; intro v3 w3 hown3 hgr3 hv3; have HOW := Lib.hid hown3; have HBW := Lib.hid ((hB.alloc hB.size _).grown hgr3 (by have := hB.size; simp; omega) (own_row_ge HROW.out)); clear hown3 hgr3 hv3)
          have HOW3 := Lib.hid (show w3.ownsRow w.heap.size 5 1 v3 (zl bs (k + 1)).length (vals (zl bs (k + 1))) by rw [← HX.out]; exact HOW.out)
          obtain ⟨X3, c3, e3, _, _, _, _⟩ := own_open HOW3.out
          have hz3 : (zl bs (k + 1)).length = z + 1 := by rw [zl_length, HN.out]; omega
          rw [hz3] at e3
          subst e3
          go_roundw
          case rel => exact ⟨k + 1, z + 1, X3, c3, by omega, by go_num, by omega, rfl, HOW3.out, HBW.out⟩
          case measure => simp [RowKit.intOf]; omega
        · obtain rfl : k = 8 := by omega
          clear hlt hk
          go_wp2
          go_ret
          refine ⟨_, rfl, ?_, hB⟩
          have e : zl bs 8 = bs ++ padding n := by rw [zl_all, HN.out]
          rw [← e]
          exact hrow
end Go.Proofs.Ytfpgjabbpcndfaa.Oct
