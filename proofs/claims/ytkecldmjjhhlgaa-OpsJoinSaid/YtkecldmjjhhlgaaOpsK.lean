/- The contracts of slices.Clone at any bytes, of ops.Value, isNoPush, IndexFunc, ContainsFunc and ops.Pushes. No condition beyond the memory's reach. -/
import Derived.Test.YtkecldmjjhhlgaaOpsI
namespace Go.Proofs.Ytkecldmjjhhlgaa.Oct
open Go.Proofs.Ytkecldmjjhhlgaa Go.RowKit Go.Shelf
set_option maxHeartbeats 1000000 in
theorem clone_in (bs : List UInt8) (n : Nat) (hbn : n = bs.length) (A : Option Addr) (c n₀ : Nat) (w : World) (hh : Bytes8 n₀ w A bs) (hn : n₀ ≤ w.heap.size) (hl : bs.length ≤ 140737488355328) :
    Calls Try.prog 29 #[.slice A n c] w (OwnBytes w bs) := by
  subst hbn
  cases hA : A with
  | none =>
    subst hA
    have h0 : bs = [] := by
      rcases hh with (⟨_, h⟩ | ⟨b, off, e, _⟩) | ⟨h, a, e⟩
      · exact h
      · cases e
      · cases e
    subst h0
    have hnil := @Lib.run_eql_slice_nil
    clear hh
    go_enter Try.func29, Try.ntmps29
    go_wp2
    go_ret
    exact ⟨_, rfl, World.ownsRow_nil _ _ _ _, Below.refl _ _⟩
  | some a =>
    subst hA
    have HH := Lib.hid (hh.below (((Below.refl w.heap.size w).alloc (Nat.le_refl _) (.cells #[] 5)).mono hn) (Nat.le_refl _))
    have hoe : (w.alloc (.cells #[] 5)).ownsRow w.heap.size 5 1 (.slice (some ⟨w.heap.size, 0, none⟩) 0 0) ([] : List UInt8).length (vals []) := own_empty w
    have hnil := @Lib.run_eql_slice_nil
    clear hh
    go_enter Try.func29, Try.ntmps29
    go_wp2_with (at_builtin; refine wpList_append_in rfl (.tmp 5) (.tmp 6) rfl w.heap.size n₀ _ [] bs rfl hoe (some a) c rfl HH.out (by simpa using hl) (by simp) ?_; intro v' w1 hown' hgr hv)
    go_ret
    exact ⟨_, rfl, hown', ((Below.refl _ w).alloc (Nat.le_refl _) _).grown hgr (by simp) (fun k hk => by
      have h2 : some w.heap.size = some k := hk
      injection h2 with h2
      omega)⟩
def valB (o : UInt8 × List UInt8) : Option (List UInt8) := if validB o = true then (if o.1.toNat ≤ 77 then some o.2 else if o.1.toNat = 79 then some [129] else if 81 ≤ o.1.toNat ∧ o.1.toNat ≤ 96 then some [UInt8.ofNat (o.1.toNat - 80)] else none) else none
def ValR (w : World) (o : UInt8 × List UInt8) (e : Ending) (w' : World) : Prop :=
  Below w.heap.size w w' ∧ ((∃ u v, valB o = some u ∧ e = .returned (.tuple #[v, .bool true]) ∧ w'.ownsRow w.heap.size 5 1 v u.length (vals u)) ∨ (valB o = none ∧ e = .returned (.tuple #[.slice none 0 0, .bool false])))
theorem valid_small {o : UInt8 × List UInt8} (h : validB o = true) : o.2.length ≤ 65535 := by
  have hx := UInt8.toNat_lt o.1
  unfold validB at h
  split at h
  · have := eq_of_beq h; omega
  · split at h
    · simp at h; omega
    · split at h
      · simpa using h
      · have := eq_of_beq h; omega
def ValO (w : World) (bs : List UInt8) (e : Ending) (w' : World) : Prop := ∃ v, e = .returned (.tuple #[v, .bool true]) ∧ w'.ownsRow w.heap.size 5 1 v bs.length (vals bs) ∧ Below w.heap.size w w'
theorem own_one_at (W : World) (base : Nat) (hb : base ≤ W.heap.size) (z : Int) (y : UInt8) (hz : z = (y.toNat : Int)) : (W.alloc (.cells #[.int .u8 z] 5)).ownsRow base 5 1 (.slice (some ⟨W.heap.size, 0, none⟩) 1 1) [y].length (vals [y]) := by
  subst hz
  exact own_one W base hb y
theorem ValR.none {w w' : World} {o : UInt8 × List UInt8} {e : Ending} (h : ValR w o e w') (hv : valB o = .none) : e = .returned (.tuple #[.slice .none 0 0, .bool false]) ∧ Below w.heap.size w w' := by
  obtain ⟨hb, ⟨u, v, q, _⟩ | ⟨_, he⟩⟩ := h
  · rw [hv] at q; cases q
  · exact ⟨he, hb⟩
theorem ValR.some {w w' : World} {o : UInt8 × List UInt8} {e : Ending} {u : List UInt8} (h : ValR w o e w') (hv : valB o = .some u) : ∃ v, e = .returned (.tuple #[v, .bool true]) ∧ w'.ownsRow w.heap.size 5 1 v u.length (vals u) ∧ Below w.heap.size w w' := by
  obtain ⟨hb, ⟨u2, v, q, he, ho⟩ | ⟨q, _⟩⟩ := h
  · have e2 : u2 = u := by rw [hv] at q; injection q with q; exact q.symm
    subst e2
    exact ⟨v, he, ho, hb⟩
  · rw [hv] at q; cases q
set_option maxRecDepth 100000 in
set_option maxHeartbeats 1000000 in
theorem val_bad (z : Int) (A : Option Addr) (n c : Nat) (w : World) (HVD : Calls Try.prog 33 #[.agg #[.int .u8 z, .slice A n c]] (w.alloc (.cells #[.int .u8 z, .slice A n c] 32)) fun e w' => e = .returned (.bool false) ∧ Below (w.alloc (.cells #[.int .u8 z, .slice A n c] 32)).heap.size (w.alloc (.cells #[.int .u8 z, .slice A n c] 32)) w') : Calls Try.prog 20 #[.agg #[.int .u8 z, .slice A n c]] w fun e w' => e = .returned (.tuple #[.slice none 0 0, .bool false]) ∧ Below w.heap.size w w' := by
  have HBA := Lib.hid (below_new w (.cells #[.int .u8 z, .slice A n c] 32))
  go_enter Try.func20, Try.ntmps20
  go_wp2_with (go_at_call 33; refine HVD.mono ?_; rintro e w1 ⟨rfl, hb⟩; have HB1 := Lib.hid (HBA.out.trans (hb.mono HBA.out.size)); have hx1 := (hb.block w.heap.size (by rw [World.size_alloc]; omega)).trans (World.alloc_heap_new w _); have e0 := cell_of_row w1 w.heap.size 0 _ _ _ hx1; have e1 := cell_of_row w1 w.heap.size 1 _ _ _ hx1; simp only [List.getElem?_toArray, List.getElem?_cons_zero, List.getElem?_cons_succ] at e0 e1; have hl1 := (Array.getElem?_eq_some_iff.1 hx1).1; clear hb hx1 HVD)
  go_ret2
  exact ⟨rfl, HB1.out⟩
set_option maxRecDepth 100000 in
set_option maxHeartbeats 1000000 in
theorem val_75 (z : Int) (f0 : z ≤ 75) (A : Option Addr) (bs : List UInt8) (n c : Nat) (w : World) (HVD : Calls Try.prog 33 #[.agg #[.int .u8 z, .slice A n c]] (w.alloc (.cells #[.int .u8 z, .slice A n c] 32)) fun e w' => e = .returned (.bool true) ∧ Below (w.alloc (.cells #[.int .u8 z, .slice A n c] 32)).heap.size (w.alloc (.cells #[.int .u8 z, .slice A n c] 32)) w') (hcl : ∀ w1 : World, Below w.heap.size w w1 → Calls Try.prog 29 #[.slice A n c] w1 (OwnBytes w1 bs)) : Calls Try.prog 20 #[.agg #[.int .u8 z, .slice A n c]] w (ValO w bs) := by
  have HBA := Lib.hid (below_new w (.cells #[.int .u8 z, .slice A n c] 32))
  go_enter Try.func20, Try.ntmps20
  go_wp2_with (first
    | (go_at_call 33; refine HVD.mono ?_; rintro e w1 ⟨rfl, hb⟩; have HB1 := Lib.hid (HBA.out.trans (hb.mono HBA.out.size)); have hx1 := (hb.block w.heap.size (by rw [World.size_alloc]; omega)).trans (World.alloc_heap_new w _); have e0 := cell_of_row w1 w.heap.size 0 _ _ _ hx1; have e1 := cell_of_row w1 w.heap.size 1 _ _ _ hx1; simp only [List.getElem?_toArray, List.getElem?_cons_zero, List.getElem?_cons_succ] at e0 e1; have hl1 := (Array.getElem?_eq_some_iff.1 hx1).1; clear hb hx1 HVD; have HC := Lib.hid (hcl w1 HB1.out))
    | (go_at_call 29; refine HC.out.mono ?_; rintro e w2 ⟨v, rfl, hown, hb2⟩))
  go_ret2
  exact ⟨v, rfl, ownsRow_base hown HB1.out.size, HB1.out.trans (hb2.mono HB1.out.size)⟩
set_option maxRecDepth 100000 in
set_option maxHeartbeats 1000000 in
theorem val_76  (A : Option Addr) (bs : List UInt8) (n c : Nat) (w : World) (HVD : Calls Try.prog 33 #[.agg #[.int .u8 76, .slice A n c]] (w.alloc (.cells #[.int .u8 76, .slice A n c] 32)) fun e w' => e = .returned (.bool true) ∧ Below (w.alloc (.cells #[.int .u8 76, .slice A n c] 32)).heap.size (w.alloc (.cells #[.int .u8 76, .slice A n c] 32)) w') (hcl : ∀ w1 : World, Below w.heap.size w w1 → Calls Try.prog 29 #[.slice A n c] w1 (OwnBytes w1 bs)) : Calls Try.prog 20 #[.agg #[.int .u8 76, .slice A n c]] w (ValO w bs) := by
  have HBA := Lib.hid (below_new w (.cells #[.int .u8 76, .slice A n c] 32))
  go_enter Try.func20, Try.ntmps20
  go_wp2_with (first
    | (go_at_call 33; refine HVD.mono ?_; rintro e w1 ⟨rfl, hb⟩; have HB1 := Lib.hid (HBA.out.trans (hb.mono HBA.out.size)); have hx1 := (hb.block w.heap.size (by rw [World.size_alloc]; omega)).trans (World.alloc_heap_new w _); have e0 := cell_of_row w1 w.heap.size 0 _ _ _ hx1; have e1 := cell_of_row w1 w.heap.size 1 _ _ _ hx1; simp only [List.getElem?_toArray, List.getElem?_cons_zero, List.getElem?_cons_succ] at e0 e1; have hl1 := (Array.getElem?_eq_some_iff.1 hx1).1; clear hb hx1 HVD; have HC := Lib.hid (hcl w1 HB1.out))
    | (go_at_call 29; refine HC.out.mono ?_; rintro e w2 ⟨v, rfl, hown, hb2⟩))
  go_ret2
  exact ⟨v, rfl, ownsRow_base hown HB1.out.size, HB1.out.trans (hb2.mono HB1.out.size)⟩
set_option maxRecDepth 100000 in
set_option maxHeartbeats 1000000 in
theorem val_77  (A : Option Addr) (bs : List UInt8) (n c : Nat) (w : World) (HVD : Calls Try.prog 33 #[.agg #[.int .u8 77, .slice A n c]] (w.alloc (.cells #[.int .u8 77, .slice A n c] 32)) fun e w' => e = .returned (.bool true) ∧ Below (w.alloc (.cells #[.int .u8 77, .slice A n c] 32)).heap.size (w.alloc (.cells #[.int .u8 77, .slice A n c] 32)) w') (hcl : ∀ w1 : World, Below w.heap.size w w1 → Calls Try.prog 29 #[.slice A n c] w1 (OwnBytes w1 bs)) : Calls Try.prog 20 #[.agg #[.int .u8 77, .slice A n c]] w (ValO w bs) := by
  have HBA := Lib.hid (below_new w (.cells #[.int .u8 77, .slice A n c] 32))
  go_enter Try.func20, Try.ntmps20
  go_wp2_with (first
    | (go_at_call 33; refine HVD.mono ?_; rintro e w1 ⟨rfl, hb⟩; have HB1 := Lib.hid (HBA.out.trans (hb.mono HBA.out.size)); have hx1 := (hb.block w.heap.size (by rw [World.size_alloc]; omega)).trans (World.alloc_heap_new w _); have e0 := cell_of_row w1 w.heap.size 0 _ _ _ hx1; have e1 := cell_of_row w1 w.heap.size 1 _ _ _ hx1; simp only [List.getElem?_toArray, List.getElem?_cons_zero, List.getElem?_cons_succ] at e0 e1; have hl1 := (Array.getElem?_eq_some_iff.1 hx1).1; clear hb hx1 HVD; have HC := Lib.hid (hcl w1 HB1.out))
    | (go_at_call 29; refine HC.out.mono ?_; rintro e w2 ⟨v, rfl, hown, hb2⟩))
  go_ret2
  exact ⟨v, rfl, ownsRow_base hown HB1.out.size, HB1.out.trans (hb2.mono HB1.out.size)⟩
set_option maxRecDepth 100000 in
set_option maxHeartbeats 1000000 in
theorem val_79  (A : Option Addr) (n c : Nat) (w : World) (HVD : Calls Try.prog 33 #[.agg #[.int .u8 79, .slice A n c]] (w.alloc (.cells #[.int .u8 79, .slice A n c] 32)) fun e w' => e = .returned (.bool true) ∧ Below (w.alloc (.cells #[.int .u8 79, .slice A n c] 32)).heap.size (w.alloc (.cells #[.int .u8 79, .slice A n c] 32)) w') : Calls Try.prog 20 #[.agg #[.int .u8 79, .slice A n c]] w (ValO w [129]) := by
  have HBA := Lib.hid (below_new w (.cells #[.int .u8 79, .slice A n c] 32))
  go_enter Try.func20, Try.ntmps20
  go_wp2_with (go_at_call 33; refine HVD.mono ?_; rintro e w1 ⟨rfl, hb⟩; have HB1 := Lib.hid (HBA.out.trans (hb.mono HBA.out.size)); have hx1 := (hb.block w.heap.size (by rw [World.size_alloc]; omega)).trans (World.alloc_heap_new w _); have e0 := cell_of_row w1 w.heap.size 0 _ _ _ hx1; have e1 := cell_of_row w1 w.heap.size 1 _ _ _ hx1; simp only [List.getElem?_toArray, List.getElem?_cons_zero, List.getElem?_cons_succ] at e0 e1; have hl1 := (Array.getElem?_eq_some_iff.1 hx1).1; clear hb hx1 HVD)
  go_ret2
  exact ⟨_, rfl, own_one_at w1 w.heap.size HB1.out.size _ _ rfl, HB1.out.trans ((below_new w1 _).mono HB1.out.size)⟩
set_option maxRecDepth 100000 in
set_option maxHeartbeats 1000000 in
theorem val_81 (z : Int) (f0 : (75 : Int) < z) (f1 : (z == 76) = false) (f2 : (z == 77) = false) (f3 : (z == 79) = false) (f4 : (81 : Int) ≤ z) (f5 : z ≤ 96) (y : UInt8) (hy : z - 81 + 1 = (y.toNat : Int)) (A : Option Addr) (n c : Nat) (w : World) (HVD : Calls Try.prog 33 #[.agg #[.int .u8 z, .slice A n c]] (w.alloc (.cells #[.int .u8 z, .slice A n c] 32)) fun e w' => e = .returned (.bool true) ∧ Below (w.alloc (.cells #[.int .u8 z, .slice A n c] 32)).heap.size (w.alloc (.cells #[.int .u8 z, .slice A n c] 32)) w') : Calls Try.prog 20 #[.agg #[.int .u8 z, .slice A n c]] w (ValO w [y]) := by
  have HBA := Lib.hid (below_new w (.cells #[.int .u8 z, .slice A n c] 32))
  have HY := Lib.hid hy
  clear hy
  go_enter Try.func20, Try.ntmps20
  go_wp2_with (go_at_call 33; refine HVD.mono ?_; rintro e w1 ⟨rfl, hb⟩; have HB1 := Lib.hid (HBA.out.trans (hb.mono HBA.out.size)); have hx1 := (hb.block w.heap.size (by rw [World.size_alloc]; omega)).trans (World.alloc_heap_new w _); have e0 := cell_of_row w1 w.heap.size 0 _ _ _ hx1; have e1 := cell_of_row w1 w.heap.size 1 _ _ _ hx1; simp only [List.getElem?_toArray, List.getElem?_cons_zero, List.getElem?_cons_succ] at e0 e1; have hl1 := (Array.getElem?_eq_some_iff.1 hx1).1; clear hb hx1 HVD)
  go_ret2
  exact ⟨_, rfl, own_one_at w1 w.heap.size HB1.out.size _ _ HY.out, HB1.out.trans ((below_new w1 _).mono HB1.out.size)⟩
set_option maxRecDepth 100000 in
set_option maxHeartbeats 1000000 in
theorem val_97 (z : Int) (f0 : (75 : Int) < z) (f1 : (z == 76) = false) (f2 : (z == 77) = false) (f3 : (z == 79) = false) (f4 : (81 : Int) ≤ z) (f5 : (96 : Int) < z) (A : Option Addr) (n c : Nat) (w : World) (HVD : Calls Try.prog 33 #[.agg #[.int .u8 z, .slice A n c]] (w.alloc (.cells #[.int .u8 z, .slice A n c] 32)) fun e w' => e = .returned (.bool true) ∧ Below (w.alloc (.cells #[.int .u8 z, .slice A n c] 32)).heap.size (w.alloc (.cells #[.int .u8 z, .slice A n c] 32)) w') : Calls Try.prog 20 #[.agg #[.int .u8 z, .slice A n c]] w fun e w' => e = .returned (.tuple #[.slice none 0 0, .bool false]) ∧ Below w.heap.size w w' := by
  have HBA := Lib.hid (below_new w (.cells #[.int .u8 z, .slice A n c] 32))
  go_enter Try.func20, Try.ntmps20
  go_wp2_with (go_at_call 33; refine HVD.mono ?_; rintro e w1 ⟨rfl, hb⟩; have HB1 := Lib.hid (HBA.out.trans (hb.mono HBA.out.size)); have hx1 := (hb.block w.heap.size (by rw [World.size_alloc]; omega)).trans (World.alloc_heap_new w _); have e0 := cell_of_row w1 w.heap.size 0 _ _ _ hx1; have e1 := cell_of_row w1 w.heap.size 1 _ _ _ hx1; simp only [List.getElem?_toArray, List.getElem?_cons_zero, List.getElem?_cons_succ] at e0 e1; have hl1 := (Array.getElem?_eq_some_iff.1 hx1).1; clear hb hx1 HVD)
  go_ret2
  exact ⟨rfl, HB1.out⟩
set_option maxRecDepth 100000 in
set_option maxHeartbeats 1000000 in
theorem val_80 (z : Int) (f0 : (75 : Int) < z) (f1 : (z == 76) = false) (f2 : (z == 77) = false) (f3 : (z == 79) = false) (f4 : decide ((81 : Int) ≤ z) = false) (A : Option Addr) (n c : Nat) (w : World) (HVD : Calls Try.prog 33 #[.agg #[.int .u8 z, .slice A n c]] (w.alloc (.cells #[.int .u8 z, .slice A n c] 32)) fun e w' => e = .returned (.bool true) ∧ Below (w.alloc (.cells #[.int .u8 z, .slice A n c] 32)).heap.size (w.alloc (.cells #[.int .u8 z, .slice A n c] 32)) w') : Calls Try.prog 20 #[.agg #[.int .u8 z, .slice A n c]] w fun e w' => e = .returned (.tuple #[.slice none 0 0, .bool false]) ∧ Below w.heap.size w w' := by
  have HBA := Lib.hid (below_new w (.cells #[.int .u8 z, .slice A n c] 32))
  go_enter Try.func20, Try.ntmps20
  go_wp2_with (go_at_call 33; refine HVD.mono ?_; rintro e w1 ⟨rfl, hb⟩; have HB1 := Lib.hid (HBA.out.trans (hb.mono HBA.out.size)); have hx1 := (hb.block w.heap.size (by rw [World.size_alloc]; omega)).trans (World.alloc_heap_new w _); have e0 := cell_of_row w1 w.heap.size 0 _ _ _ hx1; have e1 := cell_of_row w1 w.heap.size 1 _ _ _ hx1; simp only [List.getElem?_toArray, List.getElem?_cons_zero, List.getElem?_cons_succ] at e0 e1; have hl1 := (Array.getElem?_eq_some_iff.1 hx1).1; clear hb hx1 HVD)
  go_ret2
  exact ⟨rfl, HB1.out⟩

set_option maxRecDepth 100000 in
theorem value_any (p : PV) (n₀ : Nat) (w : World) (hh : Bytes8 n₀ w p.A p.b) (hn0 : n₀ ≤ w.heap.size) : Calls Try.prog 20 #[.agg #[.int .u8 (p.code.toNat : Int), .slice p.A p.b.length p.c]] w (ValR w p.is) := by
  have HVD := valid_any p (w.alloc (.cells #[.int .u8 (p.code.toNat : Int), .slice p.A p.b.length p.c] 32))
  have hba := below_new w (.cells #[.int .u8 (p.code.toNat : Int), .slice p.A p.b.length p.c] 32)
  obtain ⟨x, A, bs, c⟩ := p
  simp only at hh HVD hba ⊢
  have hx := UInt8.toNat_lt x
  have his : (PV.is ⟨x, A, bs, c⟩) = (x, bs) := rfl
  rw [his] at HVD ⊢
  cases hv : validB (x, bs) with
  | false =>
    rw [hv] at HVD
    refine (val_bad (x.toNat : Int) A bs.length c w HVD).mono fun e w' h => ?_
    exact ⟨h.2, .inr ⟨by unfold valB; rw [if_neg (by rw [hv]; decide)], h.1⟩⟩
  | true =>
    rw [hv] at HVD
    have hsm : bs.length ≤ 65535 := valid_small hv
    have hcl : ∀ w1 : World, Below w.heap.size w w1 → Calls Try.prog 29 #[.slice A bs.length c] w1 (OwnBytes w1 bs) := fun w1 hb1 => clone_in bs _ rfl A c n₀ w1 (hh.below (hb1.mono hn0) (Nat.le_refl _)) (Nat.le_trans hn0 hb1.size) (by omega)
    have hfin : x.toNat ≤ 77 → valB (x, bs) = some bs := fun h => by unfold valB; rw [if_pos hv, if_pos h]
    have own : ∀ (e : Ending) (w' : World), x.toNat ≤ 77 → ValO w bs e w' → ValR w (x, bs) e w' := fun e w' h ⟨v, he, ho, hb⟩ => ⟨hb, .inl ⟨bs, v, hfin h, he, ho⟩⟩
    by_cases h75 : x.toNat ≤ 75
    · exact (val_75 (x.toNat : Int) (by omega) A bs bs.length c w HVD hcl).mono fun e w' h => own e w' (by omega) h
    by_cases h76 : x.toNat = 76
    · have hz : (x.toNat : Int) = 76 := by omega
      rw [hz] at HVD ⊢
      exact (val_76 A bs bs.length c w HVD hcl).mono fun e w' h => own e w' (by omega) h
    by_cases h77 : x.toNat = 77
    · have hz : (x.toNat : Int) = 77 := by omega
      rw [hz] at HVD ⊢
      exact (val_77 A bs bs.length c w HVD hcl).mono fun e w' h => own e w' (by omega) h
    by_cases h79 : x.toNat = 79
    · have hz : (x.toNat : Int) = 79 := by omega
      rw [hz] at HVD ⊢
      exact (val_79 A bs.length c w HVD).mono fun e w' ⟨v, he, ho, hb⟩ => ⟨hb, .inl ⟨[129], v, by unfold valB; rw [if_pos hv]; dsimp only; rw [if_neg (by omega), if_pos h79], he, ho⟩⟩
    have f0 : (75 : Int) < (x.toNat : Int) := by omega
    have f1 : ((x.toNat : Int) == 76) = false := by rw [beq_eq_false_iff_ne]; omega
    have f2 : ((x.toNat : Int) == 77) = false := by rw [beq_eq_false_iff_ne]; omega
    have f3 : ((x.toNat : Int) == 79) = false := by rw [beq_eq_false_iff_ne]; omega
    by_cases h81 : 81 ≤ x.toNat
    · by_cases h96 : x.toNat ≤ 96
      · have hy : (x.toNat : Int) - 81 + 1 = ((UInt8.ofNat (x.toNat - 80)).toNat : Int) := by rw [UInt8.toNat_ofNat']; omega
        exact (val_81 (x.toNat : Int) f0 f1 f2 f3 (by omega) (by omega) _ hy A bs.length c w HVD).mono fun e w' ⟨v, he, ho, hb⟩ => ⟨hb, .inl ⟨[UInt8.ofNat (x.toNat - 80)], v, by unfold valB; rw [if_pos hv]; dsimp only; rw [if_neg (by omega), if_neg h79, if_pos ⟨h81, h96⟩], he, ho⟩⟩
      · exact (val_97 (x.toNat : Int) f0 f1 f2 f3 (by omega) (by omega) A bs.length c w HVD).mono fun e w' h => ⟨h.2, .inr ⟨by unfold valB; rw [if_pos hv]; dsimp only; rw [if_neg (by omega), if_neg h79, if_neg (by omega)], h.1⟩⟩
    · exact (val_80 (x.toNat : Int) f0 f1 f2 f3 (by simp; omega) A bs.length c w HVD).mono fun e w' h => ⟨h.2, .inr ⟨by unfold valB; rw [if_pos hv]; dsimp only; rw [if_neg (by omega), if_neg h79, if_neg (by omega)], h.1⟩⟩
def noB (o : UInt8 × List UInt8) : Bool := !(valB o).isSome
theorem noPush_any (p : PV) (n₀ : Nat) (w : World) (hh : Bytes8 n₀ w p.A p.b) (hn0 : n₀ ≤ w.heap.size) : Calls Try.prog 32 #[.agg #[.int .u8 (p.code.toNat : Int), .slice p.A p.b.length p.c]] w fun e w' => e = .returned (.bool (noB p.is)) ∧ Below w.heap.size w w' := by
  have HBA := Lib.hid (below_new w (.cells #[.int .u8 (p.code.toNat : Int), .slice p.A p.b.length p.c] 32))
  have HVA := Lib.hid (value_any p n₀ (w.alloc (.cells #[.int .u8 (p.code.toNat : Int), .slice p.A p.b.length p.c] 32)) (hh.below (HBA.out.mono hn0) (Nat.le_refl _)) (Nat.le_trans hn0 HBA.out.size))
  clear hh
  cases hv : valB p.is with
  | none =>
    have HV := Lib.hid hv
    clear hv
    go_enter Try.func32, Try.ntmps32
    go_wp2_with (go_at_call 20; refine HVA.out.mono ?_; intro e w1 hr; obtain ⟨rfl, hb1⟩ := hr.none HV.out; clear hr)
    go_ret
    exact ⟨by unfold noB; rw [HV.out]; rfl, HBA.out.trans (hb1.mono HBA.out.size)⟩
  | some u =>
    have HV := Lib.hid hv
    clear hv
    go_enter Try.func32, Try.ntmps32
    go_wp2_with (go_at_call 20; refine HVA.out.mono ?_; intro e w1 hr; obtain ⟨v, rfl, hown, hb1⟩ := hr.some HV.out; clear hr)
    go_ret
    exact ⟨by unfold noB; rw [HV.out]; rfl, HBA.out.trans (hb1.mono HBA.out.size)⟩
def pushesL (L : List (UInt8 × List UInt8)) : Bool := L.all fun o => !noB o
set_option maxRecDepth 100000 in
set_option maxHeartbeats 2000000 in
theorem index_any (l : List PV) (n : Nat) (hn : n = l.length) (LA : Option Addr) (c n₀ : Nat) (w : World) (hl : PvsAt n₀ w LA l) (hn0 : n₀ ≤ w.heap.size) (hsz : l.length ≤ 1000000) :
    Calls Try.prog 41 #[.slice LA n c, .func (.func 32) #[] #[]] w fun e w' => (∃ z : Int, e = .returned (.int .i64 z) ∧ decide (0 ≤ z) = !pushesL (l.map PV.is)) ∧ Below w.heap.size w w' := by
  have HN := Lib.hid hn
  have HL := Lib.hid hl
  have hn6 : n ≤ 1000000 := by omega
  clear hn hl hsz
  go_enter Try.func41, Try.ntmps41
  go_wp2
  go_loopw [8] (fun i wr => ∃ q : Nat, q ≤ n ∧ i = .int .i64 (q : Int) ∧ (∀ p ∈ l.take q, noB p.is = false) ∧ Below w.heap.size w wr) (fun i _ => n - (intOf i).toNat)
  case atStart => exact ⟨0, Nat.zero_le _, rfl, (fun p hp => by simp at hp), Below.refl _ _⟩
  case round =>
    obtain ⟨q, hq, rfl, hva, hB⟩ := hrel
    by_cases hlt : q < n
    · have hql : q < l.length := by rw [← HN.out]; exact hlt
      obtain ⟨b1, o1, rfl, hb1, c1, c2⟩ := (HL.out.later (hB.mono hn0)).cells q hql
      have hbr1 : b1 < wr.heap.size := Nat.lt_of_lt_of_le hb1 (Nat.le_trans hn0 hB.size)
      have htk : l.take (q + 1) = l.take q ++ [l[q]] := List.take_succ_eq_append_getElem hql
      have hp1 := (HL.out.later (hB.mono hn0)).held _ (List.getElem_mem hql)
      have hbad : noB l[q].is = true → pushesL (l.map PV.is) = false := fun h => by
        unfold pushesL
        rw [List.all_eq_false]
        exact ⟨_, List.mem_map.2 ⟨l[q], List.getElem_mem hql, rfl⟩, by simp [h]⟩
      obtain ⟨x, hx⟩ : ∃ x, l[q] = x := ⟨_, rfl⟩
      rw [hx] at c1 c2 htk hp1 hbad
      have HB := Lib.hid hB
      have HTK := Lib.hid htk
      have HVA := Lib.hid hva
      have HNP := Lib.hid (noPush_any x n₀ wr hp1 (Nat.le_trans hn0 hB.size))
      cases hno : noB x.is with
      | true =>
        rw [hno] at HNP
        have HBAD := Lib.hid (hbad hno)
        clear hno hbad hp1 htk hva hB hx
        go_wp2_with (go_at_call 32; refine HNP.out.mono ?_; rintro e w2 ⟨rfl, hb2⟩; have HB2 := Lib.hid (HB.out.trans (hb2.mono HB.out.size)); clear hb2)
        go_ret
        exact ⟨⟨(q : Int), rfl, by rw [HBAD.out]; simp⟩, HB2.out⟩
      | false =>
        rw [hno] at HNP
        have HNO := Lib.hid hno
        clear hno hbad hp1 htk hva hB hx
        go_wp2_with (go_at_call 32; refine HNP.out.mono ?_; rintro e w2 ⟨rfl, hb2⟩; have HB2 := Lib.hid (HB.out.trans (hb2.mono HB.out.size)); clear hb2)
        refine ⟨⟨q + 1, by omega, by go_num, fun p hp => ?_, HB2.out⟩, ?_⟩
        · rw [HTK.out] at hp
          rcases List.mem_append.1 hp with hp | hp
          · exact HVA.out p hp
          · rw [List.mem_singleton.1 hp]
            exact HNO.out
        · simp [intOf]
          omega
    · obtain rfl : n = q := by omega
      have HALL := Lib.hid (show pushesL (l.map PV.is) = true by
        unfold pushesL
        rw [List.all_eq_true]
        intro o ho
        obtain ⟨p, hp, rfl⟩ := List.mem_map.1 ho
        rw [List.take_of_length_le (by rw [← HN.out]; exact Nat.le_refl _)] at hva
        rw [hva p hp]
        rfl)
      have HB := Lib.hid hB
      clear hva hB hq hlt
      go_wp2
      go_ret
      exact ⟨⟨-1, rfl, by rw [HALL.out]; rfl⟩, HB.out⟩
theorem contains_any (l : List PV) (n : Nat) (hn : n = l.length) (LA : Option Addr) (c n₀ : Nat) (w : World) (hl : PvsAt n₀ w LA l) (hn0 : n₀ ≤ w.heap.size) (hsz : l.length ≤ 1000000) :
    Calls Try.prog 31 #[.slice LA n c, .func (.func 32) #[] #[]] w fun e w' => e = .returned (.bool (!pushesL (l.map PV.is))) ∧ Below w.heap.size w w' := by
  have HI := Lib.hid (index_any l n hn LA c n₀ w hl hn0 hsz)
  clear hl hn
  go_enter Try.func31, Try.ntmps31
  go_wp2_with (go_at_call 41; refine HI.out.mono ?_; rintro e w1 ⟨⟨z, rfl, hz⟩, hb1⟩; have HZ := Lib.hid hz; clear hz)
  go_ret
  exact ⟨by rw [← HZ.out]; rfl, hb1⟩
def pushesB (s : List UInt8) : Bool := match splitL s with
  | some L => pushesL L
  | none => false
theorem pushes_any (s : List UInt8) (n : Nat) (hn : n = s.length) (A : Option Addr) (c n₀ : Nat) (w : World) (hsl : s.length ≤ 1000000) (hsc : s.length ≤ c) (hcm : c ≤ 9223372036854775807) (hh : Holds8 n₀ w A s) (hn0 : n₀ ≤ w.heap.size) :
    Calls Try.prog 12 #[.slice A n c] w fun e w' => e = .returned (.bool (pushesB s)) ∧ Below w.heap.size w w' := by
  have HSP := Lib.hid (split_is s n hn A c n₀ w hsl hsc hcm hh hn0)
  clear hh hn
  cases hs : splitL s with
  | none =>
    have HQ := Lib.hid hs
    have HV := Lib.hid (show pushesB s = false by unfold pushesB; rw [hs])
    clear hs
    go_enter Try.func12, Try.ntmps12
    go_wp2_with (go_at_call 9; refine HSP.out.mono ?_; intro e w1 hr; obtain ⟨rfl, hb1⟩ := hr.none HQ.out; clear hr)
    go_ret
    exact ⟨by rw [HV.out]; rfl, hb1⟩
  | some L =>
    have HQ := Lib.hid hs
    have HV := Lib.hid (show pushesB s = pushesL L by unfold pushesB; rw [hs])
    clear hs
    go_enter Try.func12, Try.ntmps12
    go_wp2_with (first
      | (go_at_call 9; refine HSP.out.mono ?_; intro e w1 hr; obtain ⟨PA, c2, rs, rfl, hpv, q3, hrl, hb⟩ := hr.some HQ.out; have HB1 := Lib.hid hb; have HCO := Lib.hid (contains_any rs rs.length rfl PA c2 _ w1 hpv (Nat.le_refl _) (by omega)); rw [q3] at HCO; clear hr hpv q3 hrl hb)
      | (go_at_call 31; refine HCO.out.mono ?_; rintro e w2 ⟨rfl, hb2⟩))
    go_ret
    refine ⟨?_, HB1.out.trans (hb2.mono HB1.out.size)⟩
    rw [HV.out]
    rfl
end Go.Proofs.Ytkecldmjjhhlgaa.Oct
