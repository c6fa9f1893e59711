/- Slices of slices of bytes, slices of slices in a row, and purserlaw02.alive. No condition. -/
import Derived.Test.YtagcdgfdflnphaaReg2
import Derived.Test.YtagcdgfdflnphaaCrcG
namespace Go.Proofs.Ytagcdgfdflnphaa
open Go.RowKit

/-- Where a slice of a slice begins. -/
def cutAt (A : Option Addr) (i cap : Nat) : Option Addr := match A with
  | none => none
  | some a => if cap = i then some a else some ⟨a.block, a.off + i, none⟩
theorem Holds8.cut {n : Nat} {W : World} {A : Option Addr} {bs : List UInt8} (h : Holds8 n W A bs) {i j cap : Nat} (hij : i ≤ j) (hj : j ≤ bs.length) (hc : bs.length ≤ cap) : Holds8 n W (cutAt A i cap) ((bs.drop i).take (j - i)) := by
  rcases h with ⟨rfl, rfl⟩ | ⟨b, off, rfl, hb, hcell⟩
  · exact .inl ⟨rfl, by simp⟩
  · unfold cutAt
    by_cases e : cap = i
    · simp only [e, if_true]
      refine .inr ⟨b, off, rfl, hb, fun k hk => ?_⟩
      rw [List.length_take] at hk
      omega
    · simp only [e, if_false]
      refine .inr ⟨b, off + i, rfl, hb, fun k hk => ?_⟩
      have hk2 : k < j - i ∧ k < bs.length - i := by
        rw [List.length_take, List.length_drop] at hk
        omega
      have := hcell (i + k) (by omega)
      rw [show off + i + k = off + (i + k) by omega, this]
      simp only [List.getElem_take, List.getElem_drop]
theorem Holds8.where_ {n : Nat} {W : World} {A : Option Addr} {bs : List UInt8} (h : Holds8 n W A bs) : (A = none ∧ bs.length = 0) ∨ ∃ b off, A = some ⟨b, off, none⟩ := by
  rcases h with ⟨rfl, rfl⟩ | ⟨b, off, rfl, _⟩
  · exact .inl ⟨rfl, rfl⟩
  · exact .inr ⟨b, off, rfl⟩
section
variable (ρ : Operand → Value) (dst : Option Tmp) (x lo hi : Operand) (type : TypeId) (pos : String) (after : Array Edge) (guard : Option (Nat × Bool))
theorem slice_mid (A : Option Addr) (len cap i j : Nat) (hA : (A = none ∧ len = 0) ∨ ∃ b off, A = some ⟨b, off, none⟩) (hx : ρ x = .slice A len cap) (hlo : ρ lo = .int .i64 (i : Int)) (hhi : ρ hi = .int .i64 (j : Int))
    (hij : i ≤ j) (hjl : j ≤ len) (hl : len ≤ cap) (W : World) : (execOp ρ { dst, op := .slice 22 x (some lo) (some hi) none, type, pos, after, guard }).run Try.prog W = .ok (.value (.slice (cutAt A i cap) (j - i) (cap - i))) W := by
  have hjc : j ≤ cap := by omega
  rcases hA with ⟨rfl, rfl⟩ | ⟨b, off, rfl⟩
  · have hj0 : j = 0 := by omega
    subst hj0
    have hi0 : i = 0 := by omega
    subst hi0
    simp [execOp, go_sem, hx, hlo, hhi, cutAt]
  · simp [execOp, go_sem, hx, hlo, hhi, cutAt]
    rw [if_pos hjc, if_pos hij]
theorem slice_to (A : Option Addr) (len cap j : Nat) (hA : (A = none ∧ len = 0) ∨ ∃ b off, A = some ⟨b, off, none⟩) (hx : ρ x = .slice A len cap) (hhi : ρ hi = .int .i64 (j : Int))
    (hjl : j ≤ len) (hl : len ≤ cap) (W : World) : (execOp ρ { dst, op := .slice 22 x none (some hi) none, type, pos, after, guard }).run Try.prog W = .ok (.value (.slice A j cap)) W := by
  have hjc : j ≤ cap := by omega
  rcases hA with ⟨rfl, rfl⟩ | ⟨b, off, rfl⟩
  · have hj0 : j = 0 := by omega
    subst hj0
    simp [execOp, go_sem, hx, hhi]
  · simp [execOp, go_sem, hx, hhi]
    intro h
    omega
theorem slice_from (A : Option Addr) (len cap i : Nat) (hA : (A = none ∧ len = 0) ∨ ∃ b off, A = some ⟨b, off, none⟩) (hx : ρ x = .slice A len cap) (hlo : ρ lo = .int .i64 (i : Int))
    (hil : i ≤ len) (hl : len ≤ cap) (W : World) : (execOp ρ { dst, op := .slice 22 x (some lo) none none, type, pos, after, guard }).run Try.prog W = .ok (.value (.slice (cutAt A i cap) (len - i) (cap - i))) W := by
  rcases hA with ⟨rfl, rfl⟩ | ⟨b, off, rfl⟩
  · have hi0 : i = 0 := by omega
    subst hi0
    simp [execOp, go_sem, hx, hlo, cutAt]
  · simp [execOp, go_sem, hx, hlo, cutAt]
    intro h
    omega
theorem build_one (A : Option Addr) (n c : Nat) (hx : ρ x = .slice A n c) (W : World) :
    (execOp ρ { dst, op := .buildSlice 41 1 #[(0, x)], type, pos, after, guard }).run Try.prog W = .ok (.value (.slice (some ⟨W.heap.size, 0, none⟩) 1 1)) (W.alloc (.cells #[.slice A n c] 22)) := by
  simp [execOp, go_sem, hx]
theorem build_three (y z : Operand) (A B C : Option Addr) (n c m d k e : Nat) (hx : ρ x = .slice A n c) (hy : ρ y = .slice B m d) (hz : ρ z = .slice C k e) (W : World) :
    (execOp ρ { dst, op := .buildSlice 41 3 #[(0, x), (1, y), (2, z)], type, pos, after, guard }).run Try.prog W = .ok (.value (.slice (some ⟨W.heap.size, 0, none⟩) 3 3)) (W.alloc (.cells #[.slice A n c, .slice B m d, .slice C k e] 22)) := by
  simp [execOp, go_sem, hx, hy, hz]
end
theorem new_row (W : World) (vs : List Value) (n : Nat) (hn : vs.length = n) : ∃ g, Value.slice (some ⟨W.heap.size, 0, none⟩) n n = .slice (some ⟨g, 0, none⟩) vs.length vs.length ∧ g < (W.alloc (.cells vs.toArray 22)).heap.size ∧ ∀ j u, vs[j]? = some u → (W.alloc (.cells vs.toArray 22)).cell? ⟨g, j, none⟩ = some u := by
  subst hn
  refine ⟨W.heap.size, rfl, by simp, fun j u hj => ?_⟩
  rw [cell_of_row _ W.heap.size j vs.toArray 22 (0, 0) (heap_alloc_new W _)]
  simpa using hj
def asRow (ps : List (Option Addr × List UInt8 × Nat)) : List Value := ps.map fun p => .slice p.1 p.2.1.length p.2.2
theorem sum_row (ps : List (Option Addr × List UInt8 × Nat)) (hl : ps.length ≤ 1000000) (w : World) (v : Value) (h : (Ty.row (asRow ps)).p v w) (hb : ∀ p ∈ ps, Holds8 w.heap.size w p.1 p.2.1 ∧ p.2.1.length ≤ 140737488351232) :
    ∃ g n, v = .slice (some ⟨g, 0, none⟩) n n ∧ Calls Try.prog 9 #[.slice (some ⟨g, 0, none⟩) n n] w fun e w' => e = .returned (.int .u32 (onS 0 (flat ps) : Int)) ∧ Below w.heap.size w w' := by
  obtain ⟨g, rfl, hg, hc⟩ := h
  refine ⟨g, (asRow ps).length, rfl, ?_⟩
  rw [show (asRow ps).length = ps.length by simp [asRow]]
  refine sum_any ps hl ps.length (some ⟨g, 0, none⟩) w ⟨fun k hk => ⟨g, 0, rfl, hg, ?_⟩, hb⟩
  rw [Nat.zero_add]
  refine hc k _ ?_
  simp [asRow, hk]

theorem heap_freeze (W : World) (g n : Nat) (cs : Array Value) (hh : W.heap[g]? = some (.cells cs 5 (0, 0))) : (W.freeze ⟨g, n, none⟩ 1).heap[g]? = some (.cells cs 5 (n, n + 1)) := by
  unfold World.freeze
  simp only [Nat.succ_ne_self, if_false, Array.getElem?_modify, if_true, hh]
  simp
theorem conv_mark (W : World) (g k c : Nat) (cs : Array Value) (hh : W.heap[g]? = some (.cells cs 5 (0, 0))) : (convert 22 22 (.slice (some ⟨g, 0, none⟩) k c)).run Try.prog W = .ok (.slice (some ⟨g, 0, none⟩) k c) (W.freeze ⟨g, cs.size, none⟩ 1) := by
  unfold convert markStringish
  simp [run_underlying Try.underlying22, run_underlying Try.underlying5, World.shape?, hh]
def nine : List UInt8 := [49, 50, 51, 52, 53, 54, 55, 56, 57]
theorem nine_sum : onS 0 nine = 3808858755 := by decide +kernel
theorem nine_length : nine.length = 9 := by decide
/-- The nine bytes, laid and marked. -/
def laid9 (w : World) : World := (w.alloc (.cells #[.int .u8 49, .int .u8 50, .int .u8 51, .int .u8 52, .int .u8 53, .int .u8 54, .int .u8 55, .int .u8 56, .int .u8 57] 5)).freeze ⟨w.heap.size, 9, none⟩ 1
theorem laid9_conv (w : World) : (convert 22 22 (.slice (some ⟨w.heap.size, 0, none⟩) 9 9)).run Try.prog (w.alloc (.cells #[.int .u8 49, .int .u8 50, .int .u8 51, .int .u8 52, .int .u8 53, .int .u8 54, .int .u8 55, .int .u8 56, .int .u8 57] 5)) = .ok (.slice (some ⟨w.heap.size, 0, none⟩) 9 9) (laid9 w) :=
  conv_mark _ _ 9 9 #[.int .u8 49, .int .u8 50, .int .u8 51, .int .u8 52, .int .u8 53, .int .u8 54, .int .u8 55, .int .u8 56, .int .u8 57] (heap_alloc_new w _)
theorem laid9_size (w : World) : (laid9 w).heap.size = w.heap.size + 1 := by
  unfold laid9 World.freeze
  simp
theorem laid9_below (w : World) : Below w.heap.size w (laid9 w) := by
  refine ((Below.refl _ w).alloc (Nat.le_refl _) (.cells #[.int .u8 49, .int .u8 50, .int .u8 51, .int .u8 52, .int .u8 53, .int .u8 54, .int .u8 55, .int .u8 56, .int .u8 57] 5)).trans ?_
  unfold laid9 World.freeze
  exact ⟨rfl, rfl, rfl, by simp, fun k hk => by
    simp only [Nat.succ_ne_self, if_false, Array.getElem?_modify]
    rw [if_neg (by omega)]⟩
theorem laid9_holds (w : World) : Holds8 (laid9 w).heap.size (laid9 w) (some ⟨w.heap.size, 0, none⟩) nine := by
  refine .inr ⟨w.heap.size, 0, rfl, by rw [laid9_size]; omega, fun j hj => ?_⟩
  rw [Nat.zero_add, cell_of_row (laid9 w) w.heap.size j #[.int .u8 49, .int .u8 50, .int .u8 51, .int .u8 52, .int .u8 53, .int .u8 54, .int .u8 55, .int .u8 56, .int .u8 57] 5 (9, 10) (heap_freeze _ _ 9 _ (heap_alloc_new w _))]
  rw [show (#[.int .u8 49, .int .u8 50, .int .u8 51, .int .u8 52, .int .u8 53, .int .u8 54, .int .u8 55, .int .u8 56, .int .u8 57] : Array Value) = (vals nine).toArray from rfl]
  simpa using vals_get nine j hj
theorem laid9_ex (w : World) : ∃ wl, (convert 22 22 (.slice (some ⟨w.heap.size, 0, none⟩) 9 9)).run Try.prog (w.alloc (.cells #[.int .u8 49, .int .u8 50, .int .u8 51, .int .u8 52, .int .u8 53, .int .u8 54, .int .u8 55, .int .u8 56, .int .u8 57] 5)) = .ok (.slice (some ⟨w.heap.size, 0, none⟩) 9 9) wl ∧ Below w.heap.size w wl ∧ Holds8 wl.heap.size wl (some ⟨w.heap.size, 0, none⟩) nine :=
  ⟨laid9 w, laid9_conv w, laid9_below w, laid9_holds w⟩
set_option maxRecDepth 100000 in
set_option maxHeartbeats 400000 in
theorem alive_any (w : World) : Calls Try.prog 18 #[] w fun e w' => e = .returned (.bool true) ∧ Below w.heap.size w w' := by
  obtain ⟨S9, hS9⟩ : ∃ S9, onS 0 nine = S9 := ⟨_, rfl⟩
  obtain ⟨S0, hS0⟩ : ∃ S0, onS 0 (flat []) = S0 := ⟨_, rfl⟩
  have e9 : ((S9 : Int) == 3808858755) = true := by rw [← hS9, nine_sum]; decide +kernel
  have e0 : ((S0 : Int) == 0) = true := by rw [← hS0, show flat [] = [] from rfl, onS_nil 0 (by decide)]; rfl
  obtain ⟨wl, hcv, hBl, hhl⟩ := laid9_ex w
  have hn := sum_one nine (by decide) 9 _ _ hhl
  have hn0 := fun w => sum_any [] (by decide) 0 none w ⟨fun k hk => by simp at hk, fun p hp => by cases hp⟩
  rw [nine_length, hS9] at hn
  rw [hS0] at hn0
  have HN := Lib.hid hn
  have HN0 := Lib.hid hn0
  have HBL := Lib.hid hBl
  clear hn hn0 hBl hhl hS9 hS0
  go_enter Try.func18, Try.ntmps18
  go_wp2_with fail
  refine Calls.mono HN.out ?_
  rintro e w2 ⟨rfl, hb2⟩
  have HB2 := Lib.hid (HBL.out.trans (hb2.mono HBL.out.size))
  clear hb2
  go_wp2_with (go_at_call 9; refine Calls.mono (HN0.out _) ?_; rintro e w3 ⟨rfl, hb3⟩)
  go_ret
  exact ⟨rfl, HB2.out.trans (hb3.mono HB2.out.size)⟩
end Go.Proofs.Ytagcdgfdflnphaa
