/- The law ChangesFollow. -/
import Derived.Test.YtajigndlcdiinaaDL2
import Derived.Test.YtajigndlcdiinaaDQ6
namespace Go.Proofs.Ytajigndlcdiinaa
open Go.RowKit
theorem thenC : ThenC := fun n a b c1 c2 es fs w hn h1 h2 h3 h4 h5 h6 => then_any2 n a b c1 c2 es fs w hn h1 h2 h3 h4 h5 h6
theorem foldC : FoldC := fun n a cap cs w hn h1 h2 h3 h4 => fold_any n a cap cs w hn h1 h2 h3 h4
theorem changesFollow_all (av : Option Addr) (cap : Nat) (xs : List Int) (w : World) (hx2 : xs.length ≤ 9223372036854775807)
    (hel : ∀ j, j < xs.length → ∃ bl off, av = some ⟨bl, off, none⟩ ∧ w.cell? ⟨bl, off + j, none⟩ = some (.int .i64 (xs.getD j 0))) :
    Calls Try.prog 4 #[.slice av xs.length cap] w (LawPost w) := changesFollow_any (Lib.hid thenC) (Lib.hid foldC) (Lib.hid editedC) av cap xs w hx2 hel
end Go.Proofs.Ytajigndlcdiinaa
