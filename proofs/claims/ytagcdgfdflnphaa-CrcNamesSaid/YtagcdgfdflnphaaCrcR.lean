/- CrcNames is true. (Closed.) -/
import Derived.Test.YtagcdgfdflnphaaCrcP
import Derived.Test.YtagcdgfdflnphaaCrcH
import Derived.Test.YtagcdgfdflnphaaLaid
import Derived.Test.YtagcdgfdflnphaaOctOpenI
namespace Go.Proofs.Ytagcdgfdflnphaa.Oct
open Go.Proofs.Ytagcdgfdflnphaa Go.ChangeShapes Go.WideShapes Go.ChangeAt Go.RowKit Go.Shelf

/-- So many bytes, from one on, by a step. -/
def rowB (a b : Int) (n : Nat) : List UInt8 := (List.range n).map fun i : Nat => UInt8.ofNat ((a + (i : Int) * b) % 256).toNat
theorem rowB_snoc (a b : Int) (n : Nat) : rowB a b (n + 1) = rowB a b n ++ [UInt8.ofNat ((a + n * b) % 256).toNat] := by simp [rowB, List.range_succ]
theorem rowB_length (a b : Int) (n : Nat) : (rowB a b n).length = n := by simp [rowB]
set_option maxRecDepth 100000 in
set_option maxHeartbeats 2000000 in
theorem row_any (a b : Int) (n : Nat) (ha : -1000 ≤ a ∧ a ≤ 1000) (hb : -1 ≤ b ∧ b ≤ 1) (hn : n ≤ 1000) (w : World) :
    Calls Try.prog 17 #[.int .i64 a, .int .i64 b, .int .i64 (n : Int)] w (OwnBytes w (rowB a b n)) := by
  obtain ⟨ha1, ha2⟩ := ha
  obtain ⟨hb1, hb2⟩ := hb
  go_enter Try.func17, Try.ntmps17
  go_wp2
  go_loopw [7, 8] (fun o i wr => ∃ q : Nat, q ≤ n ∧ i = .int .i64 (q : Int) ∧ wr.ownsRow w.heap.size 5 1 o (rowB a b q).length (vals (rowB a b q)) ∧ Below w.heap.size w wr) (fun _ i _ => n - (intOf i).toNat)
  case atStart => exact ⟨0, Nat.zero_le _, rfl, World.ownsRow_nil _ _ _ _, Below.refl _ _⟩
  case round =>
    obtain ⟨q, hq, rfl, hrow, hB⟩ := hrel
    by_cases hlt : q < n
    · obtain ⟨m, hm⟩ : ∃ m : Int, (q : Int) * b = m := ⟨_, rfl⟩
      have hm1 : -1000 ≤ m ∧ m ≤ 1000 := by
        have : b = -1 ∨ b = 0 ∨ b = 1 := by omega
        rcases this with rfl | rfl | rfl <;> omega
      obtain ⟨hm1, hm2⟩ := hm1
      obtain ⟨y, hy⟩ : ∃ y, UInt8.ofNat ((a + m) % 256).toNat = y := ⟨_, rfl⟩
      have ey : (a + m) % 256 = (y.toNat : Int) := by
        rw [← hy, UInt8.toNat_ofNat']
        omega
      have HX := Lib.hid (show rowB a b (q + 1) = rowB a b q ++ [y] by rw [rowB_snoc, hm, hy])
      have HLEN := Lib.hid (rowB_length a b q)
      have HY := Lib.hid (show ∀ W : World, Holds8 (W.alloc (.cells #[.int .u8 (y.toNat : Int)] 5)).heap.size (W.alloc (.cells #[.int .u8 (y.toNat : Int)] 5)) (some ⟨W.heap.size, 0, none⟩) [y] from fun W => holds_one W y)
      have HROW := Lib.hid hrow
      clear hy hrow
      go_wp2_with (at_builtin; refine wpList_append_bytes rfl (.tmp 14) (.tmp 21) rfl w.heap.size _ _ (rowB a b q) [y] rfl (ownsRow_below HROW.out ((Below.refl _ _).alloc (Nat.le_refl _) _)) (some ⟨wr.heap.size, 0, none⟩) 1 rfl (HY.out wr) (by rw [HLEN.out, List.length_singleton]; omega) (by have := hB.size; simp; omega) ?_; intro v' w1 hown' hgr hv; have HOW := Lib.hid hown'; have HBW := Lib.hid ((hB.alloc hB.size _).grown hgr (by have := hB.size; simp; omega) (own_row_ge HROW.out)); clear hown' hgr hv)
      go_roundw
      case rel => exact ⟨q + 1, by omega, by go_num, by rw [HX.out]; exact HOW.out, HBW.out⟩
      case measure => simp [intOf]; omega
    · obtain rfl : q = n := by omega
      go_wp2
      go_ret
      exact ⟨_, rfl, hrow, hB⟩

theorem laid_ex (w : World) (bs : List UInt8) (cs : Array Value) (hc : cs = (vals bs).toArray) (n : Nat) : ∃ wl, (convert 22 22 (.slice (some ⟨w.heap.size, 0, none⟩) n n)).run Try.prog (w.alloc (.cells cs 5)) = .ok (.slice (some ⟨w.heap.size, 0, none⟩) n n) wl ∧ Below w.heap.size w wl ∧ Holds8 wl.heap.size wl (some ⟨w.heap.size, 0, none⟩) bs :=
  ⟨laid w bs, laid_conv w bs cs hc n, laid_below w bs, laid_holds w bs⟩
/-- New cells hold their bytes. -/
theorem new_holds (w : World) (bs : List UInt8) : Holds8 (w.alloc (.cells (vals bs).toArray 5)).heap.size (w.alloc (.cells (vals bs).toArray 5)) (some ⟨w.heap.size, 0, none⟩) bs := by
  refine .inr ⟨w.heap.size, 0, rfl, by rw [World.size_alloc]; omega, fun j hj => ?_⟩
  rw [Nat.zero_add, cell_of_row _ w.heap.size j (vals bs).toArray 5 (0, 0) (heap_alloc_new w _)]
  simpa using vals_get bs j hj
theorem new_below (w : World) (o : Obj) : Below w.heap.size w (w.alloc o) := (Below.refl _ w).alloc (Nat.le_refl _) o
theorem own_opened {w w' : World} {R : List UInt8} {e : Ending} (n : Nat) (hn : R.length = n) (h : OwnBytes w R e w') : ∃ X c, e = .returned (.slice X n c) ∧ Holds8 w'.heap.size w' X R ∧ (X = none → c = 0) ∧ Below w.heap.size w w' := by
  subst hn
  obtain ⟨v, rfl, hr, hb⟩ := h
  obtain ⟨X, c, rfl, hh, _, h0, _⟩ := own_open hr
  exact ⟨X, c, rfl, hh, h0, hb⟩
theorem pair_opened {w w' : World} {R : List UInt8} {E : Int} {e : Ending} (n : Nat) (hn : R.length = n) (h : OwnPair w (R, E) e w') : ∃ X c, e = .returned (.tuple #[.slice X n c, .int .i64 E]) ∧ Holds8 w'.heap.size w' X R ∧ Below w.heap.size w w' := by
  subst hn
  obtain ⟨v, rfl, hr, hb⟩ := h
  obtain ⟨X, c, rfl, hh, _, h0, _⟩ := own_open hr
  exact ⟨X, c, rfl, hh, hb⟩
/-- The sum of one row: three parts. -/
theorem sum_three (W : World) (A B C : Option Addr) (a b c : List UInt8) (ca cb cc : Nat) (ha : Holds8 W.heap.size W A a) (hb : Holds8 W.heap.size W B b) (hc : Holds8 W.heap.size W C c) (la : a.length ≤ 1000) (lb : b.length ≤ 1000) (lc : c.length ≤ 1000) :
    Calls Try.prog 9 #[.slice (some ⟨W.heap.size, 0, none⟩) 3 3] (W.alloc (.cells #[.slice A a.length ca, .slice B b.length cb, .slice C c.length cc] 22)) fun e w' => e = .returned (.int .u32 (onS 0 (a ++ b ++ c) : Int)) ∧ Below W.heap.size W w' := by
  have hb1 := new_below W (.cells #[.slice A a.length ca, .slice B b.length cb, .slice C c.length cc] 22)
  refine (sum_any [(A, a, ca), (B, b, cb), (C, c, cc)] (by simp) 3 (some ⟨W.heap.size, 0, none⟩) _ ⟨fun k hk => ?_, fun p hp => ?_⟩).mono fun e w' ⟨he, hb2⟩ => ⟨?_, hb1.trans (hb2.mono hb1.size)⟩
  · refine ⟨W.heap.size, 0, rfl, by rw [World.size_alloc]; omega, ?_⟩
    rw [Nat.zero_add, cell_of_row _ W.heap.size k _ 22 (0, 0) (heap_alloc_new W _)]
    have : k = 0 ∨ k = 1 ∨ k = 2 := by simp at hk; omega
    rcases this with rfl | rfl | rfl <;> rfl
  · simp only [List.mem_cons, List.not_mem_nil, or_false] at hp
    rcases hp with rfl | rfl | rfl
    · exact ⟨ha.later hb1, by simp only; omega⟩
    · exact ⟨hb.later hb1, by simp only; omega⟩
    · exact ⟨hc.later hb1, by simp only; omega⟩
  · rw [he]
    simp [Go.Proofs.Ytagcdgfdflnphaa.flat]
theorem make_run (k : Nat) (hk : k ≤ 1000) (cs : Array Value) (hc : cs = madeCells #[.int .u8 0] k) (W : World) : (Instr.makeSlice 22 (.int .i64 (k : Int)) (.int .i64 (k : Int))).run Try.prog W = .ok (.slice (some ⟨W.heap.size, 0, none⟩) k k) (W.alloc (.cells cs 5)) := by
  obtain ⟨i0, hi, hz0, hz1, hz2⟩ := info_parts byte_info
  have h := run_make (P := Try.prog) W 22 5 i0 _ Try.underlying22 hi hz0 .i64 .i64 (k : Int) (k : Int) (by omega) (by omega) (by rw [hz2]; omega) (by omega)
  rw [h, hz1, hc]
  simp [Value.cells]
theorem k_row1 : onS 0 (rowB 0 0 32) = 0x8A9136AA := by decide +kernel
theorem k_row2 : onS 0 (rowB 255 0 32) = 0x62A8AB43 := by decide +kernel
theorem k_row3 : onS 0 (rowB 0 1 32) = 0x46DD794E := by decide +kernel
theorem k_row4 : onS 0 (rowB 31 (-1) 32) = 0x113FDB5C := by decide +kernel
theorem k_eight : onS (onS 0 [49, 50, 51, 52, 53, 54, 55, 56]) [57] = 3808858755 := by decide +kernel
theorem k_eight_lt : onS 0 [49, 50, 51, 52, 53, 54, 55, 56] < 4294967296 := by decide +kernel
theorem k_seven : onS 7 [] = 7 := by decide +kernel
theorem k_mark : nine ++ leB 4 (onS 0 nine) = [49, 50, 51, 52, 53, 54, 55, 56, 57, 131, 146, 6, 227] := by decide +kernel
theorem k_bare9 : bareR [49, 50, 51, 52, 53, 54, 55, 56, 57, 131, 146, 6, 227] = (nine, 0) := by decide +kernel
theorem k_bare3 : bareR [0, 0, 0] = ([], 20) := by decide +kernel
theorem k_bare0 : bareR [] = ([], 20) := by decide +kernel
theorem k_bare4 : bareR [0, 0, 0, 0] = ([], 0) := by decide +kernel
theorem k_bare5 : bareR [1, 0, 0, 0] = ([], 20) := by decide +kernel
/-- Bytes that a literal or a make laid are made bare. -/
theorem bare_new (m R : List UInt8) (E : Int) (k n : Nat) (cs : Array Value) (hc : cs = (vals m).toArray) (hk : m.length = k) (hR : bareR m = (R, E)) (hn : R.length = n) (hl : m.length ≤ 1000000000) (W : World) :
    Calls Try.prog 14 #[.slice (some ⟨W.heap.size, 0, none⟩) k k] (W.alloc (.cells cs 5)) fun e w' => ∃ X c, e = .returned (.tuple #[.slice X n c, .int .i64 E]) ∧ Below W.heap.size W w' := by
  subst hc hk
  refine (bare_any m hl _ m.length (by simp) _ (new_holds W m)).mono fun e w' h => ?_
  rw [hR] at h
  obtain ⟨X, c, he, _, hb⟩ := pair_opened n hn h
  have hb1 := new_below W (.cells (vals m).toArray 5)
  exact ⟨X, c, he, hb1.trans (hb.mono hb1.size)⟩
theorem bare_nil (W : World) : Calls Try.prog 14 #[.slice none 0 0] W fun e w' => ∃ X c, e = .returned (.tuple #[.slice X 0 c, .int .i64 20]) ∧ Below W.heap.size W w' := by
  refine (bare_any [] (by simp) none 0 (fun _ => rfl) W (.inl ⟨rfl, rfl⟩)).mono fun e w' h => ?_
  rw [k_bare0] at h
  obtain ⟨X, c, he, _, hb⟩ := pair_opened 0 rfl h
  exact ⟨X, c, he, hb⟩
set_option maxRecDepth 100000 in
set_option maxHeartbeats 8000000 in
theorem names_walk (w : World) : Calls Try.prog 5 #[] w fun e w' => e = .returned (.bool true) ∧ Below w.heap.size w w' := by
  obtain ⟨R1, hR1⟩ : ∃ R, rowB 0 0 32 = R := ⟨_, rfl⟩
  obtain ⟨S1, hS1⟩ : ∃ S, onS 0 R1 = S := ⟨_, rfl⟩
  have es1 : ((S1 : Int) == 2324772522) = true := by rw [← hS1, ← hR1, k_row1]; decide +kernel
  have hl1 : R1.length = 32 := by rw [← hR1, rowB_length]
  have HR1 := Lib.hid (show ∀ W : World, Calls Try.prog 17 #[.int .i64 0, .int .i64 0, .int .i64 32] W (fun e w' => ∃ X c, e = .returned (.slice X 32 c) ∧ Holds8 w'.heap.size w' X R1 ∧ (X = none → c = 0) ∧ Below W.heap.size W w') from fun W => (row_any 0 0 32 (by decide) (by decide) (by decide) W).mono fun e w' h => by rw [hR1] at h; exact own_opened 32 hl1 h)
  have HS1 := Lib.hid (show ∀ (W : World) X c, Holds8 W.heap.size W X R1 → Calls Try.prog 9 #[.slice (some ⟨W.heap.size, 0, none⟩) 1 1] (W.alloc (.cells #[.slice X 32 c] 22)) (fun e w' => e = .returned (.int .u32 (S1 : Int)) ∧ Below W.heap.size W w') from fun W X c h => by have q := one_sum R1 (by rw [hl1]; decide) c X W h; rw [hl1, hS1] at q; exact q)
  clear hS1 hR1 hl1
  obtain ⟨R2, hR2⟩ : ∃ R, rowB 255 0 32 = R := ⟨_, rfl⟩
  obtain ⟨S2, hS2⟩ : ∃ S, onS 0 R2 = S := ⟨_, rfl⟩
  have es2 : ((S2 : Int) == 1655221059) = true := by rw [← hS2, ← hR2, k_row2]; decide +kernel
  have hl2 : R2.length = 32 := by rw [← hR2, rowB_length]
  have HR2 := Lib.hid (show ∀ W : World, Calls Try.prog 17 #[.int .i64 255, .int .i64 0, .int .i64 32] W (fun e w' => ∃ X c, e = .returned (.slice X 32 c) ∧ Holds8 w'.heap.size w' X R2 ∧ (X = none → c = 0) ∧ Below W.heap.size W w') from fun W => (row_any 255 0 32 (by decide) (by decide) (by decide) W).mono fun e w' h => by rw [hR2] at h; exact own_opened 32 hl2 h)
  have HS2 := Lib.hid (show ∀ (W : World) X c, Holds8 W.heap.size W X R2 → Calls Try.prog 9 #[.slice (some ⟨W.heap.size, 0, none⟩) 1 1] (W.alloc (.cells #[.slice X 32 c] 22)) (fun e w' => e = .returned (.int .u32 (S2 : Int)) ∧ Below W.heap.size W w') from fun W X c h => by have q := one_sum R2 (by rw [hl2]; decide) c X W h; rw [hl2, hS2] at q; exact q)
  clear hS2 hR2 hl2
  obtain ⟨R3, hR3⟩ : ∃ R, rowB 0 1 32 = R := ⟨_, rfl⟩
  obtain ⟨S3, hS3⟩ : ∃ S, onS 0 R3 = S := ⟨_, rfl⟩
  have es3 : ((S3 : Int) == 1188919630) = true := by rw [← hS3, ← hR3, k_row3]; decide +kernel
  have hl3 : R3.length = 32 := by rw [← hR3, rowB_length]
  have HR3 := Lib.hid (show ∀ W : World, Calls Try.prog 17 #[.int .i64 0, .int .i64 1, .int .i64 32] W (fun e w' => ∃ X c, e = .returned (.slice X 32 c) ∧ Holds8 w'.heap.size w' X R3 ∧ (X = none → c = 0) ∧ Below W.heap.size W w') from fun W => (row_any 0 1 32 (by decide) (by decide) (by decide) W).mono fun e w' h => by rw [hR3] at h; exact own_opened 32 hl3 h)
  have HS3 := Lib.hid (show ∀ (W : World) X c, Holds8 W.heap.size W X R3 → Calls Try.prog 9 #[.slice (some ⟨W.heap.size, 0, none⟩) 1 1] (W.alloc (.cells #[.slice X 32 c] 22)) (fun e w' => e = .returned (.int .u32 (S3 : Int)) ∧ Below W.heap.size W w') from fun W X c h => by have q := one_sum R3 (by rw [hl3]; decide) c X W h; rw [hl3, hS3] at q; exact q)
  clear hS3 hR3 hl3
  obtain ⟨R4, hR4⟩ : ∃ R, rowB 31 (-1) 32 = R := ⟨_, rfl⟩
  obtain ⟨S4, hS4⟩ : ∃ S, onS 0 R4 = S := ⟨_, rfl⟩
  have es4 : ((S4 : Int) == 289397596) = true := by rw [← hS4, ← hR4, k_row4]; decide +kernel
  have hl4 : R4.length = 32 := by rw [← hR4, rowB_length]
  have HR4 := Lib.hid (show ∀ W : World, Calls Try.prog 17 #[.int .i64 31, .int .i64 (-1), .int .i64 32] W (fun e w' => ∃ X c, e = .returned (.slice X 32 c) ∧ Holds8 w'.heap.size w' X R4 ∧ (X = none → c = 0) ∧ Below W.heap.size W w') from fun W => (row_any 31 (-1) 32 (by decide) (by decide) (by decide) W).mono fun e w' h => by rw [hR4] at h; exact own_opened 32 hl4 h)
  have HS4 := Lib.hid (show ∀ (W : World) X c, Holds8 W.heap.size W X R4 → Calls Try.prog 9 #[.slice (some ⟨W.heap.size, 0, none⟩) 1 1] (W.alloc (.cells #[.slice X 32 c] 22)) (fun e w' => e = .returned (.int .u32 (S4 : Int)) ∧ Below W.heap.size W w') from fun W X c h => by have q := one_sum R4 (by rw [hl4]; decide) c X W h; rw [hl4, hS4] at q; exact q)
  clear hS4 hR4 hl4
  obtain ⟨S9, hS9⟩ : ∃ S, onS 0 nine = S := ⟨_, rfl⟩
  have es9 : ((S9 : Int) == 3808858755) = true := by rw [← hS9, nine_sum]; decide +kernel
  have HS5 := Lib.hid (show ∀ (W : World) A B, Holds8 W.heap.size W A [49, 50, 51, 52] → Holds8 W.heap.size W B [53, 54, 55, 56, 57] → Calls Try.prog 9 #[.slice (some ⟨W.heap.size, 0, none⟩) 3 3] (W.alloc (.cells #[.slice A 4 4, .slice none 0 0, .slice B 5 5] 22)) (fun e w' => e = .returned (.int .u32 (S9 : Int)) ∧ Below W.heap.size W w') from fun W A B h1 h2 => by have q := sum_three W A none B [49, 50, 51, 52] [] [53, 54, 55, 56, 57] 4 0 5 h1 (.inl ⟨rfl, rfl⟩) h2 (by decide) (by decide) (by decide); rw [show ([49, 50, 51, 52] ++ [] ++ [53, 54, 55, 56, 57] : List UInt8) = nine from rfl, hS9] at q; exact q)
  obtain ⟨S8, hS8⟩ : ∃ S, onS 0 [49, 50, 51, 52, 53, 54, 55, 56] = S := ⟨_, rfl⟩
  obtain ⟨S89, hS89⟩ : ∃ S, onS S8 [57] = S := ⟨_, rfl⟩
  have es89 : ((S89 : Int) == 3808858755) = true := by rw [← hS89, ← hS8, k_eight]; decide +kernel
  have l8 : S8 < 4294967296 := by rw [← hS8]; exact k_eight_lt
  have HS6 := Lib.hid (show ∀ (W : World) A, Holds8 W.heap.size W A [49, 50, 51, 52, 53, 54, 55, 56] → Calls Try.prog 9 #[.slice (some ⟨W.heap.size, 0, none⟩) 1 1] (W.alloc (.cells #[.slice A 8 8] 22)) (fun e w' => e = .returned (.int .u32 (S8 : Int)) ∧ Below W.heap.size W w') from fun W A h => by have q := one_sum [49, 50, 51, 52, 53, 54, 55, 56] (by decide) 8 A W h; rw [hS8] at q; exact q)
  have HO1 := Lib.hid (show ∀ (W : World) A, Holds8 W.heap.size W A [57] → Calls Try.prog 11 #[.int .u32 (S8 : Int), .slice A 1 1] W (fun e w' => e = .returned (.int .u32 (S89 : Int)) ∧ Below W.heap.size W w') from fun W A h => by have q := on_any S8 l8 [57] (by decide) 1 A W h; rw [hS89] at q; exact q)
  obtain ⟨S7, hS7⟩ : ∃ S, onS 7 [] = S := ⟨_, rfl⟩
  have es7 : ((S7 : Int) == 7) = true := by rw [← hS7, k_seven]; decide +kernel
  have HO2 := Lib.hid (show ∀ (W : World), Calls Try.prog 11 #[.int .u32 7, .slice none 0 0] W (fun e w' => e = .returned (.int .u32 (S7 : Int)) ∧ Below W.heap.size W w') from fun W => by have q := on_any 7 (by decide) [] (by decide) 0 none W (.inl ⟨rfl, rfl⟩); rw [hS7] at q; exact q)
  obtain ⟨M, hM⟩ : ∃ M : List UInt8, [49, 50, 51, 52, 53, 54, 55, 56, 57, 131, 146, 6, 227] = M := ⟨_, rfl⟩
  have hml : M.length = 13 := by rw [← hM]; decide
  have HM := Lib.hid (show ∀ (W : World) A, Holds8 W.heap.size W A nine → Calls Try.prog 13 #[.slice A 9 9] W (fun e w' => ∃ X c, e = .returned (.slice X 13 c) ∧ Holds8 w'.heap.size w' X M ∧ (X = none → c = 0) ∧ Below W.heap.size W w') from fun W A h => (mark_any nine (by decide) A 9 W h).mono fun e w' h => by rw [k_mark, hM] at h; exact own_opened 13 hml h)
  have HB1 := Lib.hid (show ∀ (W : World) X c, (X = none → c = 0) → Holds8 W.heap.size W X M → Calls Try.prog 14 #[.slice X 13 c] W (fun e w' => ∃ Y d, e = .returned (.tuple #[.slice Y 9 d, .int .i64 0]) ∧ Holds8 w'.heap.size w' Y nine ∧ Below W.heap.size W w') from fun W X c h0 h => by have q := bare_any M (by rw [hml]; decide) X c h0 W h; rw [hml] at q; refine q.mono fun e w' h => ?_; rw [← hM, k_bare9] at h; exact pair_opened 9 rfl h)
  have HB2 := Lib.hid (bare_new [0, 0, 0] [] 20 3 0 #[.int .u8 0, .int .u8 0, .int .u8 0] rfl rfl k_bare3 rfl (by decide))
  have HB3 := Lib.hid bare_nil
  have HB4 := Lib.hid (bare_new [0, 0, 0, 0] [] 0 4 0 #[.int .u8 0, .int .u8 0, .int .u8 0, .int .u8 0] rfl rfl k_bare4 rfl (by decide))
  have HB5 := Lib.hid (bare_new [1, 0, 0, 0] [] 20 4 0 #[.int .u8 1, .int .u8 0, .int .u8 0, .int .u8 0] rfl rfl k_bare5 rfl (by decide))
  have HSM := Lib.hid (show ∀ (W : World) X c, Holds8 W.heap.size W X M → (convert 22 9 (.slice X 13 c)).run Try.prog W = .ok (.string ⟨#[49, 50, 51, 52, 53, 54, 55, 56, 57, 131, 146, 6, 227]⟩) W from fun W X c h => by have q := str_of h c; rw [hml, ← hM] at q; exact q)
  have HSN := Lib.hid (show ∀ (W : World) X c, Holds8 W.heap.size W X nine → (convert 22 9 (.slice X 9 c)).run Try.prog W = .ok (.string ⟨#[49, 50, 51, 52, 53, 54, 55, 56, 57]⟩) W from fun W X c h => str_of h c)
  have MK3 := (show ∀ W : World, (Instr.makeSlice 22 (.int .i64 3) (.int .i64 3)).run Try.prog W = .ok (.slice (some ⟨W.heap.size, 0, none⟩) 3 3) (W.alloc (.cells #[.int .u8 0, .int .u8 0, .int .u8 0] 5)) from fun W => make_run 3 (by decide) _ (by kernel_rfl) W)
  have MK4 := (show ∀ W : World, (Instr.makeSlice 22 (.int .i64 4) (.int .i64 4)).run Try.prog W = .ok (.slice (some ⟨W.heap.size, 0, none⟩) 4 4) (W.alloc (.cells #[.int .u8 0, .int .u8 0, .int .u8 0, .int .u8 0] 5)) from fun W => make_run 4 (by decide) _ (by kernel_rfl) W)
  clear hS9 hS8 hS89 hS7 hM hml l8
  have HBW := Lib.hid (Below.refl w.heap.size w)
  go_enter Try.func5, Try.ntmps5
  go_wp2_with (first
    | (go_at_call 17; (with_reducible refine (HR1.out _).mono ?_); rintro e w1 ⟨X1, c1, rfl, hx, _, hb⟩; have HC := Lib.hid (HS1.out _ X1 c1 hx); have HBW := Lib.hid (HBW.out.trans (hb.mono HBW.out.size)); clear hx hb HR1 HS1)
    | (go_at_call 17; (with_reducible refine (HR2.out _).mono ?_); rintro e w3 ⟨X2, c2, rfl, hx, _, hb⟩; have HC := Lib.hid (HS2.out _ X2 c2 hx); have HBW := Lib.hid (HBW.out.trans (hb.mono HBW.out.size)); clear hx hb HR2 HS2)
    | (go_at_call 17; (with_reducible refine (HR3.out _).mono ?_); rintro e w5 ⟨X3, c3, rfl, hx, _, hb⟩; have HC := Lib.hid (HS3.out _ X3 c3 hx); have HBW := Lib.hid (HBW.out.trans (hb.mono HBW.out.size)); clear hx hb HR3 HS3)
    | (go_at_call 17; (with_reducible refine (HR4.out _).mono ?_); rintro e w7 ⟨X4, c4, rfl, hx, _, hb⟩; have HD := Lib.hid (HS4.out _ X4 c4 hx); have HBW := Lib.hid (HBW.out.trans (hb.mono HBW.out.size)); clear hx hb HR4 HS4)
    | (go_at_call 9; (with_reducible refine HC.out.mono ?_); rintro e w0 ⟨rfl, hb⟩; have HBW := Lib.hid (HBW.out.trans (hb.mono HBW.out.size)); clear hb HC)
    | (go_at_call 9; (with_reducible refine HD.out.mono ?_); rintro e w8 ⟨rfl, hb⟩; have HBW := Lib.hid (HBW.out.trans (hb.mono HBW.out.size)); clear hb HD; obtain ⟨wa, hcva, hba, hxa⟩ := laid_ex w8 [49, 50, 51, 52] #[.int .u8 49, .int .u8 50, .int .u8 51, .int .u8 52] rfl 4; obtain ⟨wb, hcvb, hbb, hxb⟩ := laid_ex wa [53, 54, 55, 56, 57] #[.int .u8 53, .int .u8 54, .int .u8 55, .int .u8 56, .int .u8 57] rfl 5; have HE := Lib.hid (HS5.out _ _ _ (hxa.later hbb) hxb); have HBab := Lib.hid (hba.trans (hbb.mono hba.size)); clear hba hbb hxa hxb HS5)
    | (go_at_call 9; (with_reducible refine HE.out.mono ?_); rintro e w9 ⟨rfl, hb⟩; have HBW := Lib.hid (HBW.out.trans ((HBab.out.trans (hb.mono HBab.out.size)).mono HBW.out.size)); clear hb HE HBab hcva hcvb; obtain ⟨wc, hcvc, hbc, hxc⟩ := laid_ex w9 [49, 50, 51, 52, 53, 54, 55, 56] #[.int .u8 49, .int .u8 50, .int .u8 51, .int .u8 52, .int .u8 53, .int .u8 54, .int .u8 55, .int .u8 56] rfl 8; have HF := Lib.hid (HS6.out _ _ hxc); have HBc := Lib.hid hbc; clear hxc hbc HS6)
    | (go_at_call 9; (with_reducible refine HF.out.mono ?_); rintro e w10 ⟨rfl, hb⟩; have HBW := Lib.hid (HBW.out.trans ((HBc.out.trans (hb.mono HBc.out.size)).mono HBW.out.size)); clear hb HF HBc hcvc; obtain ⟨wd, hcvd, hbd, hxd⟩ := laid_ex w10 [57] #[.int .u8 57] rfl 1; have HO := Lib.hid (HO1.out _ _ hxd); have HBd := Lib.hid hbd; clear hxd hbd HO1)
    | (go_at_call 11; (with_reducible refine HO.out.mono ?_); rintro e w11 ⟨rfl, hb⟩; have HBW := Lib.hid (HBW.out.trans ((HBd.out.trans (hb.mono HBd.out.size)).mono HBW.out.size)); clear hb HO HBd hcvd)
    | (go_at_call 11; (with_reducible refine (HO2.out _).mono ?_); rintro e w12 ⟨rfl, hb⟩; have HBW := Lib.hid (HBW.out.trans (hb.mono HBW.out.size)); clear hb HO2; obtain ⟨we, hcve, hbe, hxe⟩ := laid_ex w12 nine #[.int .u8 49, .int .u8 50, .int .u8 51, .int .u8 52, .int .u8 53, .int .u8 54, .int .u8 55, .int .u8 56, .int .u8 57] rfl 9; have HMK := Lib.hid (HM.out _ _ hxe); have HBe := Lib.hid hbe; clear hxe hbe HM)
    | (go_at_call 13; (with_reducible refine HMK.out.mono ?_); rintro e w13 ⟨X, cx, rfl, hx, hx0, hb⟩; have HBW := Lib.hid (HBW.out.trans ((HBe.out.trans (hb.mono HBe.out.size)).mono HBW.out.size)); have HX := Lib.hid hx; have HBR := Lib.hid (HB1.out _ X cx hx0 hx); clear hb HMK HBe hcve hx hx0 HB1)
    | (go_at_call 14; (with_reducible refine HBR.out.mono ?_); rintro e w14 ⟨Y, cy, rfl, hy, hb⟩; have HBW := Lib.hid (HBW.out.trans (hb.mono HBW.out.size)); have HX := Lib.hid (HX.out.later hb); have HY := Lib.hid hy; clear hb hy HBR)
    | (go_at_call 14; (with_reducible refine (HB2.out _).mono ?_); rintro e w15 ⟨Z2, cz2, rfl, hb⟩; have HBW := Lib.hid (HBW.out.trans (hb.mono HBW.out.size)); have HX := Lib.hid (HX.out.later hb); have HY := Lib.hid (HY.out.later hb); clear hb HB2)
    | (go_at_call 14; (with_reducible refine (HB3.out _).mono ?_); rintro e w16 ⟨Z3, cz3, rfl, hb⟩; have HBW := Lib.hid (HBW.out.trans (hb.mono HBW.out.size)); have HX := Lib.hid (HX.out.later hb); have HY := Lib.hid (HY.out.later hb); clear hb HB3)
    | (go_at_call 14; (with_reducible refine (HB4.out _).mono ?_); rintro e w17 ⟨Z4, cz4, rfl, hb⟩; have HBW := Lib.hid (HBW.out.trans (hb.mono HBW.out.size)); have HX := Lib.hid (HX.out.later hb); have HY := Lib.hid (HY.out.later hb); clear hb HB4)
    | (go_at_call 14; (with_reducible refine (HB5.out _).mono ?_); rintro e w18 ⟨Z5, cz5, rfl, hb⟩; have HBW := Lib.hid (HBW.out.trans (hb.mono HBW.out.size)); have HX := Lib.hid (HX.out.later hb); have HY := Lib.hid (HY.out.later hb); clear hb HB5)
    | (go_at_call 18; (with_reducible refine (alive_any _).mono ?_); rintro e w19 ⟨rfl, hb⟩; have HBW := Lib.hid (HBW.out.trans (hb.mono HBW.out.size)); have esx := HSM.out _ _ cx (HX.out.later hb); have esy := HSN.out _ _ cy (HY.out.later hb); clear hb))

  go_ret
  exact ⟨rfl, HBW.out⟩
set_option maxRecDepth 100000 in
theorem names_lifted (os : Os) (started : os.Started) (H : Type) (enc : TypeId × Value → H) :
    ReturnsInHanded {} Try.checked os 5 .any (Rows.crcNamesSpec.pre6 enc Try.prog Try.f5 Rows.crcNamesRow.domain false) (Rows.crcNamesSpec.post enc Try.prog Try.f5 false true false false) := by
  refine returnsInHanded_of_change (C := Try.checked) own started (by kernel_rfl) Try.func5
    (ChangeSpec.witness6 (enc := enc) (C := Try.checked) false ⟨#[], #[], []⟩ 8 (by kernel_rfl) (by kernel_rfl) (by kernel_rfl) (by kernel_rfl)) ?_
  intro W base args ds gs before hval0 hW hcnd _
  have hval : ∀ (j : Nat) t v, Try.f5.params[j]? = some t → args[j]? = some v → Value.okWide Try.prog W .any base t v := hval0
  have hW' := hW
  obtain ⟨p, q, hA0, hV, rfl, hfz, hnd⟩ := hW
  have hA : DataW.TrodAll enc Try.prog W 0 (fun _ => true) true Try.f5.params.toList args.toList ds p := hA0
  rw [Try.params5] at hA hval
  obtain ⟨hargs, rfl, rfl⟩ := trodAll_nil hA
  obtain rfl : args = #[] := by cases args; simp_all
  obtain ⟨rfl, rfl⟩ := trodVars_none hV
  clear hA0 hval0
  refine (names_walk W).mono fun e W' ⟨he, bel⟩ => ?_
  subst he
  exact ⟨_, rfl, _, _, _, [], _, [], hW', trodAll_mk1 (shut_bool Try.underlying4 _), trodAll_mk0, rfl, bel.frame _, fun h => by cases h⟩

theorem names_over : Rows.crcNamesRow.holds Try.pinned (OpenSpec.ofChange Rows.crcNamesSpec) :=
  OpenClaim.holds_of_wide 5 Try.f5 rfl rfl rfl rfl rfl rfl rfl ⟨rfl, rfl, rfl, rfl, rfl⟩ rfl rfl rfl rfl rfl (by kernel_rfl) Try.func5 (by kernel_rfl)
    (of_decide_eq_true (by kernel_rfl)) (by unfold Func.isWrapper; first | (rw [if_pos (by decide +kernel)]; kernel_rfl) | (rw [if_neg (by decide +kernel)]; exact ⟨rfl, rfl⟩))
    (fun os started H enc _ => names_lifted os started H enc)

/-- The error has its number; sums that are published; parts; what is not marked. No condition. -/
theorem names_proved : Rows.CrcNamesSaid := names_over
#print axioms names_proved
end Go.Proofs.Ytagcdgfdflnphaa.Oct
