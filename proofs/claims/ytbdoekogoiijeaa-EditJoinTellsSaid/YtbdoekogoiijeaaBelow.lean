/- Steps that keep all that they found. -/
import Derived.Test.YtbdoekogoiijeaaNumWalkD
namespace Go.Proofs.Ytbdoekogoiijeaa
open Go.RowKit

/-- Two steps, each of which keeps all that it found. -/
theorem Below.next {w w1 w2 : World} (h1 : Below w.heap.size w w1) (h2 : Below w1.heap.size w1 w2) : Below w.heap.size w w2 := h1.trans (h2.mono h1.size)
theorem Below.next_alloc {w w1 : World} (h1 : Below w.heap.size w w1) (o : Obj) : Below w.heap.size w (w1.alloc o) := h1.alloc h1.size o

end Go.Proofs.Ytbdoekogoiijeaa
