/- What the statements' write answers, whatever the call. No condition beyond the memory's reach. -/
import Derived.Test.YtngkckngjobojaaOctZ
import Derived.Test.YtngkckngjobojaaOctT
namespace Go.Proofs.Ytngkckngjobojaa.Oct
open Go.Proofs.Ytngkckngjobojaa Go.RowKit Go.Shelf

def opB (o : OpD) : List UInt8 := if o.kind = 0 then fixedB o.size o.n else if o.kind = 1 then sizeB o.n else if o.kind = 2 then sizeB o.b.length ++ o.b else if o.kind = 3 then o.b else []
def opE (o : OpD) : Int := if o.kind = 0 then fixedE o.size o.n else 0
theorem fixedB_le (s : Int) (x : Nat) : (fixedB s x).length ≤ 8 := by
  unfold fixedB
  split
  · rename_i h
    split
    · simp
    · rw [leB_length]
      unfold sizeOkB at h
      simp at h
      omega
  · simp
theorem sizeB_le (x : Nat) : (sizeB x).length ≤ 9 := by rw [sizeB_length]; unfold cmpL; (repeat' split) <;> omega
theorem opB_le (o : OpD) : (opB o).length ≤ 9 + o.b.length := by
  unfold opB
  have h1 := fixedB_le o.size o.n
  have h2 := sizeB_le o.n
  have h3 := sizeB_le o.b.length
  (repeat' split) <;> (try rw [List.length_append]) <;> (try simp only [List.length_nil]) <;> omega
theorem write_any (o : OpD) (b base n₀ : Nat) (xs : List UInt8) (w : World) (hnn : o.n < 18446744073709551616) (hh : Bytes8 n₀ w o.A o.b) (hn : n₀ ≤ base) (hbase : base ≤ w.heap.size) (hp : PenAt base w b xs) (hl : o.b.length ≤ 100000000) (hxl : xs.length ≤ 1000000000) :
    Calls Try.prog 10 #[.pointer (some ⟨b, 0, none⟩), .agg #[.int .i64 o.kind, .int .i64 o.size, .int .u64 (o.n : Int), .slice o.A o.b.length o.c]] w (WroteOp base b xs (opB o) (opE o) w) := by
  obtain ⟨k, s, n, A, bs, c⟩ := o
  simp only at hnn hh hl ⊢
  unfold opB opE
  simp only
  by_cases h0 : k = 0
  · subst h0
    rw [if_pos rfl, if_pos rfl]
    exact write_0 s n hnn bs xs A c b base n₀ w hh hn hbase hp hl hxl
  by_cases h1 : k = 1
  · subst h1
    simp only [h0, if_false, if_true]
    exact write_1 s n hnn bs xs A c b base n₀ w hh hn hbase hp hl hxl
  by_cases h2 : k = 2
  · subst h2
    simp only [h0, h1, if_false, if_true]
    exact write_2 s n hnn bs xs A c b base n₀ w hh hn hbase hp hl hxl
  by_cases h3 : k = 3
  · subst h3
    simp only [h0, h1, h2, if_false, if_true]
    exact write_3 s n hnn bs xs A c b base n₀ w hh hn hbase hp hl hxl
  · simp only [h0, h1, h2, h3, if_false]
    refine (write_none k s n (by simpa using h0) (by simpa using h1) (by simpa using h2) (by simpa using h3) bs A c b n₀ w hh (Nat.le_trans hn hbase) hl).mono fun e w' h => ?_
    obtain ⟨rfl, hb⟩ := h
    exact ⟨none, 0, rfl, .inl (.inl ⟨rfl, rfl⟩), by rw [List.append_nil]; exact hp.below hb, PenStep.of_below hp.lt hb⟩
theorem PenAt.grown {base b : Nat} {W W' : World} {bs : List UInt8} {r : Option Nat} (h : PenAt base W b bs) (hg : W.grownBy W' r) (hr : ∀ k, r = some k → k ≠ b ∧ rowOf W b ≠ some k) : PenAt base W' b bs ∧ rowOf W' b = rowOf W b := by
  have hk : ∀ k, k < W.heap.size → r ≠ some k → W'.heap[k]? = W.heap[k]? := fun k h1 h2 => hg.block k h1 (fun e => h2 e.symm)
  have hbb : W'.heap[b]? = W.heap[b]? := hk b h.lt (fun e => (hr b e).1 rfl)
  obtain ⟨h1, v, hh, hrow, hne⟩ := h
  rw [rowOf_at hh] at hr
  exact ⟨⟨h1, v, by rw [hbb]; exact hh, ownsRow_same hrow fun k e => hk k (hrow.lt k e).2 (fun e2 => (hr k e2).2 e), hne⟩, rowOf_same hbb⟩
end Go.Proofs.Ytngkckngjobojaa.Oct
