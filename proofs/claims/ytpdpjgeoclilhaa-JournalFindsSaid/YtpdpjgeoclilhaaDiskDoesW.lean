/-
  Contracts of the statements' own calls on a disk: an act that writes.
-/
import Derived.Test.YtpdpjgeoclilhaaDiskDoes
namespace Go.Proofs.Ytpdpjgeoclilhaa
open Go.RowKit
namespace Disk
open Num (hid bcells)

end Disk
end Go.Proofs.Ytpdpjgeoclilhaa
