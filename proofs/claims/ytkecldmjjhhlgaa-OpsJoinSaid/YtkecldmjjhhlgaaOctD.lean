/- The contracts of a pen's Size, Raw, Bytes, Len, All, and of slices.Clone. No condition beyond the memory's reach. -/
import Derived.Test.YtkecldmjjhhlgaaOctC
import Derived.WalkSpells
namespace Go.Proofs.Ytkecldmjjhhlgaa.Oct
open Go.Proofs.Ytkecldmjjhhlgaa Go.RowKit Go.Shelf

/-- The bytes bs in a row of the call's own. -/
def OwnBytes (w : World) (bs : List UInt8) (e : Ending) (w' : World) : Prop := ∃ v, e = .returned v ∧ w'.ownsRow w.heap.size 5 1 v bs.length (vals bs) ∧ Below w.heap.size w w'
theorem own_empty (w : World) : (w.alloc (.cells #[] 5)).ownsRow w.heap.size 5 1 (.slice (some ⟨w.heap.size, 0, none⟩) 0 0) 0 [] :=
  ⟨rfl, .inr ⟨w.heap.size, 0, #[], rfl, Nat.le_refl _, heap_alloc_new w _, Nat.le_refl _, by simp, rfl, rfl⟩⟩
set_option maxHeartbeats 1000000 in
theorem clone_any (bs : List UInt8) (A : Option Addr) (c n₀ : Nat) (hA : A = none → c = 0) (w : World) (hh : Holds8 n₀ w A bs) (hn : n₀ ≤ w.heap.size) (hl : bs.length ≤ 140737488355328) :
    Calls Try.prog 29 #[.slice A bs.length c] w (OwnBytes w bs) := by
  rcases hh with ⟨rfl, rfl⟩ | ⟨b, off, rfl, hb, hc⟩
  · obtain rfl := hA rfl
    have hnil := @Lib.run_eql_slice_nil
    go_enter Try.func29, Try.ntmps29
    go_wp2
    go_ret
    exact ⟨_, rfl, World.ownsRow_nil _ _ _ _, Below.refl _ _⟩
  · have hh : Holds8 n₀ w (some ⟨b, off, none⟩) bs := .inr ⟨b, off, rfl, hb, hc⟩
    have HH := Lib.hid ((hh.more hn).later ((Below.refl _ w).alloc (Nat.le_refl _) (.cells #[] 5)))
    clear hh hc
    have hoe : (w.alloc (.cells #[] 5)).ownsRow w.heap.size 5 1 (.slice (some ⟨w.heap.size, 0, none⟩) 0 0) ([] : List UInt8).length (vals []) := own_empty w
    have hnil := @Lib.run_eql_slice_nil
    go_enter Try.func29, Try.ntmps29
    go_wp2_with (at_builtin; refine wpList_append_bytes rfl (.tmp 5) (.tmp 6) rfl w.heap.size _ _ [] bs rfl hoe (some ⟨b, off, none⟩) c rfl HH.out (by simpa using hl) (by simp) ?_; intro v' w1 hown' hgr hv)
    go_ret
    exact ⟨_, rfl, hown', ((Below.refl _ w).alloc (Nat.le_refl _) _).grown hgr (by simp) (fun k hk => by
      have h2 : some w.heap.size = some k := hk
      injection h2 with h2
      omega)⟩

theorem OwnBytes.new {w : World} {bs : List UInt8} {e : Ending} {w' : World} (h : OwnBytes w bs e w') : NewBytes w bs e w' := by
  obtain ⟨v, rfl, hr, hb⟩ := h
  obtain ⟨A, c, rfl, hh, ha⟩ := own_holds rfl hr
  exact ⟨A, c, rfl, hh, ha, hb⟩

/-- Bytes of which each is known. -/
theorem holds_lit (w : World) (xs : List Value) (bs : List UInt8) (h : xs = vals bs) (n : Nat) (hn : n = bs.length) : Holds8 (w.alloc (.cells xs.toArray 5)).heap.size (w.alloc (.cells xs.toArray 5)) (some ⟨w.heap.size, 0, none⟩) bs := by
  refine .inr ⟨w.heap.size, 0, rfl, by simp, fun j hj => ?_⟩
  rw [cell_of_row _ _ _ _ _ _ (heap_alloc_new w _), h, Nat.zero_add]
  simpa using vals_get bs j hj

end Go.Proofs.Ytkecldmjjhhlgaa.Oct
