/- The reference's double hash and its short one are the hash's: messages of at most 1,000,000 bytes. -/
import Derived.Test.YtijobhpmaenjlaaRefSD
import Derived.Test.YtijobhpmaenjlaaApp
namespace Go.Proofs.Ytijobhpmaenjlaa.Oct
set_option linter.unusedVariables false
set_option linter.unusedSimpArgs false
open Go.Proofs.Ytijobhpmaenjlaa Go.RowKit Go.Lib

theorem rof_any (w : World) (A : Option Addr) (L c : Nat) (bs : List UInt8) (hL : bs.length = L) (h8 : Holds8 w.heap.size w A bs) (hm : L ≤ 1000000) :
    Calls Try.prog 20 #[.slice A L c] w fun e w' => e = .returned (.agg (arr8 (sha bs))) ∧ Below w.heap.size w w' := by
  subst hL
  exact rof_walk bs A c w.heap.size w (Nat.le_refl _) h8 hm
theorem Keeps.rholds32 {w W : World} {l : List (Nat × Array Value × TypeId)} {k g : Nat} {bs : List UInt8} {t : TypeId} (h : Keeps w l W) (hk : l[k]? = some (g, arr8 bs, t)) : Holds8 W.heap.size W (some ⟨g, 0, none⟩) bs :=
  .inr ⟨g, 0, rfl, h.lt k hk, fun j hj => by
    rw [h.cell k hk (0 + j), Nat.zero_add, arr8_get bs j hj]
    congr 3
    simp [List.getD, hj]⟩

end Go.Proofs.Ytijobhpmaenjlaa.Oct
