/- The contracts of ops.valid and ops.Join; joining and splitting undo one another. No condition beyond the memory's reach. -/
import Derived.Test.YtkecldmjjhhlgaaOpsE
namespace Go.Proofs.Ytkecldmjjhhlgaa.Oct
open Go.Proofs.Ytkecldmjjhhlgaa Go.RowKit Go.Shelf
def validB (o : UInt8 × List UInt8) : Bool := if o.1.toNat ≤ 75 then o.2.length == o.1.toNat else if o.1.toNat = 76 then decide (o.2.length ≤ 255) else if o.1.toNat = 77 then decide (o.2.length ≤ 65535) else o.2.length == 0
def headOf (o : UInt8 × List UInt8) : List UInt8 := if o.1.toNat = 76 then [UInt8.ofNat (o.2.length % 256)] else if o.1.toNat = 77 then [UInt8.ofNat (o.2.length % 256), UInt8.ofNat (o.2.length / 256 % 256)] else []
def opBytes (o : UInt8 × List UInt8) : List UInt8 := o.1 :: (headOf o ++ o.2)
def joinB (L : List (UInt8 × List UInt8)) : List UInt8 := L.flatMap opBytes
def joinL (L : List (UInt8 × List UInt8)) : Option (List UInt8) := if L.all validB = true then some (joinB L) else none
theorem joinB_snoc (L : List (UInt8 × List UInt8)) (o : UInt8 × List UInt8) : joinB (L ++ [o]) = joinB L ++ opBytes o := by simp [joinB]
theorem joinB_append (L M : List (UInt8 × List UInt8)) : joinB (L ++ M) = joinB L ++ joinB M := by simp [joinB]
theorem ofNat_lt {n : Nat} (h : n < 256) : (UInt8.ofNat n).toNat = n := by rw [UInt8.toNat_ofNat']; omega
/-- The extent of an operation's bytes, whatever stands behind them. -/
theorem ext_op (o : UInt8 × List UInt8) (h : validB o = true) (r : List UInt8) : (ext (opBytes o ++ r)).1 = 1 + (headOf o).length ∧ (ext (opBytes o ++ r)).2 = o.2.length := by
  obtain ⟨c, d⟩ := o
  unfold validB at h
  unfold opBytes
  simp only at h ⊢
  rw [List.cons_append]
  unfold ext headOf
  simp only
  by_cases h1 : c.toNat ≤ 75
  · rw [if_pos h1] at h
    rw [if_pos h1, if_neg (by omega), if_neg (by omega)]
    have : d.length = c.toNat := by simpa using h
    exact ⟨rfl, this.symm⟩
  rw [if_neg h1] at h
  rw [if_neg h1]
  by_cases h2 : c.toNat = 76
  · rw [if_pos h2] at h
    have : d.length ≤ 255 := by simpa using h
    rw [if_pos h2, if_pos h2]
    refine ⟨rfl, ?_⟩
    show (UInt8.ofNat (d.length % 256)).toNat = _
    rw [ofNat_lt (by omega)]
    omega
  rw [if_neg h2] at h
  rw [if_neg h2, if_neg h2]
  by_cases h3 : c.toNat = 77
  · rw [if_pos h3] at h
    have : d.length ≤ 65535 := by simpa using h
    rw [if_pos h3, if_pos h3]
    refine ⟨rfl, ?_⟩
    show (UInt8.ofNat (d.length % 256)).toNat + 256 * (UInt8.ofNat (d.length / 256 % 256)).toNat = _
    rw [ofNat_lt (by omega), ofNat_lt (by omega)]
    omega
  rw [if_neg h3] at h
  rw [if_neg h3, if_neg h3]
  have : d.length = 0 := by simpa using h
  exact ⟨rfl, this.symm⟩
theorem opBytes_length (o : UInt8 × List UInt8) : (opBytes o).length = 1 + (headOf o).length + o.2.length := by
  unfold opBytes
  rw [List.length_cons, List.length_append]
  omega
theorem split_op (o : UInt8 × List UInt8) (h : validB o = true) (r : List UInt8) : splitL (opBytes o ++ r) = (splitL r).map (o :: ·) := by
  obtain ⟨e1, e2⟩ := ext_op o h r
  have hl := opBytes_length o
  have hb : opBytes o ++ r = o.1 :: (headOf o ++ o.2 ++ r) := by unfold opBytes; simp
  have hd1 : (opBytes o ++ r).drop ((ext (opBytes o ++ r)).1 + (ext (opBytes o ++ r)).2) = r := by
    rw [e1, e2, ← hl]
    exact List.drop_left
  have hd2 : ((opBytes o ++ r).drop (ext (opBytes o ++ r)).1).take (ext (opBytes o ++ r)).2 = o.2 := by
    rw [e1, e2]
    have : opBytes o ++ r = (o.1 :: headOf o) ++ (o.2 ++ r) := by unfold opBytes; simp
    rw [this, show 1 + (headOf o).length = (o.1 :: headOf o).length by simp [Nat.add_comm], List.drop_left, List.take_left]
  have hle : (ext (opBytes o ++ r)).1 + (ext (opBytes o ++ r)).2 ≤ (opBytes o ++ r).length := by
    rw [e1, e2, List.length_append, hl]
    omega
  rw [hb] at hd1 hd2 hle ⊢
  rw [splitL, if_pos hle, hd1, hd2]
theorem join_split (L : List (UInt8 × List UInt8)) (h : L.all validB = true) (r : List UInt8) : splitL (joinB L ++ r) = (splitL r).map (L ++ ·) := by
  induction L with
  | nil =>
    show splitL r = _
    cases splitL r <;> rfl
  | cons o L ih =>
    rw [List.all_cons, Bool.and_eq_true] at h
    have e : joinB (o :: L) ++ r = opBytes o ++ (joinB L ++ r) := by simp [joinB]
    rw [e, split_op o h.1, ih h.2]
    cases splitL r <;> rfl
theorem ext_head (x : UInt8) (l : List UInt8) (h : (ext (x :: l)).1 + (ext (x :: l)).2 ≤ (x :: l).length) :
    validB (x, ((x :: l).drop (ext (x :: l)).1).take (ext (x :: l)).2) = true ∧ opBytes (x, ((x :: l).drop (ext (x :: l)).1).take (ext (x :: l)).2) = (x :: l).take ((ext (x :: l)).1 + (ext (x :: l)).2) := by
  have hx := UInt8.toNat_lt x
  have hlen : (((x :: l).drop (ext (x :: l)).1).take (ext (x :: l)).2).length = (ext (x :: l)).2 := by rw [List.length_take, List.length_drop]; omega
  have htk : (x :: l).take ((ext (x :: l)).1 + (ext (x :: l)).2) = (x :: l).take (ext (x :: l)).1 ++ ((x :: l).drop (ext (x :: l)).1).take (ext (x :: l)).2 := List.take_add
  rw [htk]
  generalize hd : ((x :: l).drop (ext (x :: l)).1).take (ext (x :: l)).2 = d at hlen
  unfold validB opBytes headOf
  simp only
  unfold ext at hlen h ⊢
  simp only at hlen h ⊢
  by_cases h1 : x.toNat ≤ 75
  · rw [if_pos h1] at hlen h ⊢
    rw [if_pos h1, if_neg (by omega), if_neg (by omega)]
    exact ⟨by simpa using hlen, rfl⟩
  rw [if_neg h1] at hlen h ⊢
  rw [if_neg h1]
  by_cases h2 : x.toNat = 76
  · rw [if_pos h2] at hlen h ⊢
    rw [if_pos h2, if_pos h2]
    cases l with
    | nil => simp at h
    | cons y l =>
      have hy := UInt8.toNat_lt y
      simp only [List.headD_cons] at hlen
      refine ⟨by simp; omega, ?_⟩
      rw [hlen, show y.toNat % 256 = y.toNat by omega, UInt8.ofNat_toNat]
      rfl
  rw [if_neg h2] at hlen h ⊢
  rw [if_neg h2, if_neg h2]
  by_cases h3 : x.toNat = 77
  · rw [if_pos h3] at hlen h ⊢
    rw [if_pos h3, if_pos h3]
    cases l with
    | nil => simp [two77] at h
    | cons y l =>
      cases l with
      | nil => simp [two77] at h
      | cons z l =>
        have hy := UInt8.toNat_lt y
        have hz := UInt8.toNat_lt z
        simp only [two77] at hlen
        refine ⟨by simp; omega, ?_⟩
        rw [hlen, show (y.toNat + 256 * z.toNat) % 256 = y.toNat by omega, show (y.toNat + 256 * z.toNat) / 256 % 256 = z.toNat by omega, UInt8.ofNat_toNat, UInt8.ofNat_toNat]
        rfl
  rw [if_neg h3] at hlen h ⊢
  rw [if_neg h3, if_neg h3]
  exact ⟨by simpa using hlen, rfl⟩
theorem split_join : ∀ (n : Nat) (u : List UInt8) (L : List (UInt8 × List UInt8)), u.length ≤ n → splitL u = some L → L.all validB = true ∧ joinB L = u := by
  intro n
  induction n with
  | zero =>
    intro u L hu h
    have : u = [] := List.eq_nil_of_length_eq_zero (by omega)
    subst this
    unfold splitL at h
    injection h with h
    subst h
    exact ⟨rfl, rfl⟩
  | succ n ih =>
    intro u L hu h
    cases u with
    | nil =>
      unfold splitL at h
      injection h with h
      subst h
      exact ⟨rfl, rfl⟩
    | cons x l =>
      rw [splitL] at h
      split at h
      · rename_i hle
        have h1 := (ext_pos (x :: l)).1
        rw [Option.map_eq_some_iff] at h
        obtain ⟨M, hM, rfl⟩ := h
        obtain ⟨i1, i2⟩ := ih _ M (by simp only [List.length_drop, List.length_cons] at hu ⊢; omega) hM
        obtain ⟨q1, q2⟩ := ext_head x l hle
        refine ⟨by rw [List.all_cons, q1, i1]; rfl, ?_⟩
        have : joinB ((x, ((x :: l).drop (ext (x :: l)).1).take (ext (x :: l)).2) :: M) = opBytes (x, ((x :: l).drop (ext (x :: l)).1).take (ext (x :: l)).2) ++ joinB M := by simp [joinB]
        rw [this, q2, i2, List.take_append_drop]
      · cases h
set_option maxRecDepth 100000 in
set_option maxHeartbeats 1000000 in
theorem valid_le_true (x : UInt8) (n : Nat) (A : Option Addr) (c : Nat) (h1 : (x.toNat : Int) ≤ 75) (h2 : ((n : Int) == (x.toNat : Int)) = true) (w : World) : Calls Try.prog 33 #[.agg #[.int .u8 (x.toNat : Int), .slice A n c]] w fun e w' => e = .returned (.bool true) ∧ Below w.heap.size w w' := by
  have hx := UInt8.toNat_lt x
  have hy2 : wrap64 (x.toNat : Int) = (x.toNat : Int) := IntWalk.wrap64_in _ (by omega)
  go_enter Try.func33, Try.ntmps33
  go_wp2
  go_ret
  exact ⟨rfl, (Below.refl _ w).alloc (Nat.le_refl _) _⟩
set_option maxRecDepth 100000 in
set_option maxHeartbeats 1000000 in
theorem valid_76_true (x : UInt8) (n : Nat) (A : Option Addr) (c : Nat) (h1 : (75 : Int) < (x.toNat : Int)) (h3 : ((x.toNat : Int) == 76) = true) (h2 : (n : Int) ≤ 255) (w : World) : Calls Try.prog 33 #[.agg #[.int .u8 (x.toNat : Int), .slice A n c]] w fun e w' => e = .returned (.bool true) ∧ Below w.heap.size w w' := by
  have hx := UInt8.toNat_lt x
  have hy2 : wrap64 (x.toNat : Int) = (x.toNat : Int) := IntWalk.wrap64_in _ (by omega)
  go_enter Try.func33, Try.ntmps33
  go_wp2
  go_ret
  exact ⟨rfl, (Below.refl _ w).alloc (Nat.le_refl _) _⟩
set_option maxRecDepth 100000 in
set_option maxHeartbeats 1000000 in
theorem valid_77_true (x : UInt8) (n : Nat) (A : Option Addr) (c : Nat) (h1 : (75 : Int) < (x.toNat : Int)) (h3 : ((x.toNat : Int) == 76) = false) (h4 : ((x.toNat : Int) == 77) = true) (h2 : (n : Int) ≤ 65535) (w : World) : Calls Try.prog 33 #[.agg #[.int .u8 (x.toNat : Int), .slice A n c]] w fun e w' => e = .returned (.bool true) ∧ Below w.heap.size w w' := by
  have hx := UInt8.toNat_lt x
  have hy2 : wrap64 (x.toNat : Int) = (x.toNat : Int) := IntWalk.wrap64_in _ (by omega)
  go_enter Try.func33, Try.ntmps33
  go_wp2
  go_ret
  exact ⟨rfl, (Below.refl _ w).alloc (Nat.le_refl _) _⟩
set_option maxRecDepth 100000 in
set_option maxHeartbeats 1000000 in
theorem valid_gt_true (x : UInt8) (n : Nat) (A : Option Addr) (c : Nat) (h1 : (75 : Int) < (x.toNat : Int)) (h3 : ((x.toNat : Int) == 76) = false) (h4 : ((x.toNat : Int) == 77) = false) (h2 : ((n : Int) == 0) = true) (w : World) : Calls Try.prog 33 #[.agg #[.int .u8 (x.toNat : Int), .slice A n c]] w fun e w' => e = .returned (.bool true) ∧ Below w.heap.size w w' := by
  have hx := UInt8.toNat_lt x
  have hy2 : wrap64 (x.toNat : Int) = (x.toNat : Int) := IntWalk.wrap64_in _ (by omega)
  go_enter Try.func33, Try.ntmps33
  go_wp2
  go_ret
  exact ⟨rfl, (Below.refl _ w).alloc (Nat.le_refl _) _⟩
set_option maxRecDepth 100000 in
set_option maxHeartbeats 1000000 in
theorem valid_le_false (x : UInt8) (n : Nat) (A : Option Addr) (c : Nat) (h1 : (x.toNat : Int) ≤ 75) (h2 : ((n : Int) == (x.toNat : Int)) = false) (w : World) : Calls Try.prog 33 #[.agg #[.int .u8 (x.toNat : Int), .slice A n c]] w fun e w' => e = .returned (.bool false) ∧ Below w.heap.size w w' := by
  have hx := UInt8.toNat_lt x
  have hy2 : wrap64 (x.toNat : Int) = (x.toNat : Int) := IntWalk.wrap64_in _ (by omega)
  go_enter Try.func33, Try.ntmps33
  go_wp2
  go_ret
  exact ⟨rfl, (Below.refl _ w).alloc (Nat.le_refl _) _⟩
set_option maxRecDepth 100000 in
set_option maxHeartbeats 1000000 in
theorem valid_76_false (x : UInt8) (n : Nat) (A : Option Addr) (c : Nat) (h1 : (75 : Int) < (x.toNat : Int)) (h3 : ((x.toNat : Int) == 76) = true) (h2 : decide ((n : Int) ≤ 255) = false) (w : World) : Calls Try.prog 33 #[.agg #[.int .u8 (x.toNat : Int), .slice A n c]] w fun e w' => e = .returned (.bool false) ∧ Below w.heap.size w w' := by
  have hx := UInt8.toNat_lt x
  have hy2 : wrap64 (x.toNat : Int) = (x.toNat : Int) := IntWalk.wrap64_in _ (by omega)
  go_enter Try.func33, Try.ntmps33
  go_wp2
  go_ret
  exact ⟨rfl, (Below.refl _ w).alloc (Nat.le_refl _) _⟩
set_option maxRecDepth 100000 in
set_option maxHeartbeats 1000000 in
theorem valid_77_false (x : UInt8) (n : Nat) (A : Option Addr) (c : Nat) (h1 : (75 : Int) < (x.toNat : Int)) (h3 : ((x.toNat : Int) == 76) = false) (h4 : ((x.toNat : Int) == 77) = true) (h2 : decide ((n : Int) ≤ 65535) = false) (w : World) : Calls Try.prog 33 #[.agg #[.int .u8 (x.toNat : Int), .slice A n c]] w fun e w' => e = .returned (.bool false) ∧ Below w.heap.size w w' := by
  have hx := UInt8.toNat_lt x
  have hy2 : wrap64 (x.toNat : Int) = (x.toNat : Int) := IntWalk.wrap64_in _ (by omega)
  go_enter Try.func33, Try.ntmps33
  go_wp2
  go_ret
  exact ⟨rfl, (Below.refl _ w).alloc (Nat.le_refl _) _⟩
set_option maxRecDepth 100000 in
set_option maxHeartbeats 1000000 in
theorem valid_gt_false (x : UInt8) (n : Nat) (A : Option Addr) (c : Nat) (h1 : (75 : Int) < (x.toNat : Int)) (h3 : ((x.toNat : Int) == 76) = false) (h4 : ((x.toNat : Int) == 77) = false) (h2 : ((n : Int) == 0) = false) (w : World) : Calls Try.prog 33 #[.agg #[.int .u8 (x.toNat : Int), .slice A n c]] w fun e w' => e = .returned (.bool false) ∧ Below w.heap.size w w' := by
  have hx := UInt8.toNat_lt x
  have hy2 : wrap64 (x.toNat : Int) = (x.toNat : Int) := IntWalk.wrap64_in _ (by omega)
  go_enter Try.func33, Try.ntmps33
  go_wp2
  go_ret
  exact ⟨rfl, (Below.refl _ w).alloc (Nat.le_refl _) _⟩
theorem valid_any (p : PV) (w : World) : Calls Try.prog 33 #[.agg #[.int .u8 (p.code.toNat : Int), .slice p.A p.b.length p.c]] w fun e w' => e = .returned (.bool (validB p.is)) ∧ Below w.heap.size w w' := by
  obtain ⟨x, A, d, c⟩ := p
  unfold PV.is validB
  simp only
  by_cases h1 : x.toNat ≤ 75
  · rw [if_pos h1]
    cases hr : (d.length == x.toNat) with
    | true => exact valid_le_true x d.length A c (by omega) (by have := eq_of_beq hr; rw [this]; simp) w
    | false => exact valid_le_false x d.length A c (by omega) (by have := ne_of_beq_false hr; rw [beq_eq_false_iff_ne]; omega) w
  rw [if_neg h1]
  by_cases h2 : x.toNat = 76
  · rw [if_pos h2]
    by_cases hr : d.length ≤ 255
    · rw [show decide (d.length ≤ 255) = true by simpa using hr]
      exact valid_76_true x d.length A c (by omega) (by rw [h2]; rfl) (by omega) w
    · rw [show decide (d.length ≤ 255) = false by simpa using hr]
      exact valid_76_false x d.length A c (by omega) (by rw [h2]; rfl) (by simp; omega) w
  rw [if_neg h2]
  by_cases h3 : x.toNat = 77
  · rw [if_pos h3]
    by_cases hr : d.length ≤ 65535
    · rw [show decide (d.length ≤ 65535) = true by simpa using hr]
      exact valid_77_true x d.length A c (by omega) (by rw [beq_eq_false_iff_ne]; omega) (by rw [h3]; rfl) (by omega) w
    · rw [show decide (d.length ≤ 65535) = false by simpa using hr]
      exact valid_77_false x d.length A c (by omega) (by rw [beq_eq_false_iff_ne]; omega) (by rw [h3]; rfl) (by simp; omega) w
  rw [if_neg h3]
  cases hr : (d.length == 0) with
  | true => exact valid_gt_true x d.length A c (by omega) (by rw [beq_eq_false_iff_ne]; omega) (by rw [beq_eq_false_iff_ne]; omega) (by have := eq_of_beq hr; rw [this]; rfl) w
  | false => exact valid_gt_false x d.length A c (by omega) (by rw [beq_eq_false_iff_ne]; omega) (by rw [beq_eq_false_iff_ne]; omega) (by have := ne_of_beq_false hr; rw [beq_eq_false_iff_ne]; omega) w
end Go.Proofs.Ytkecldmjjhhlgaa.Oct
