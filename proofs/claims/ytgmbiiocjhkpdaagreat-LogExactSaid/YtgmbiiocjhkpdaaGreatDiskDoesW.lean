/-
  Contracts of the statements' own calls on a disk: an act that writes.
-/
import Derived.Test.YtgmbiiocjhkpdaaGreatDiskDoes
namespace Go.Proofs.YtgmbiiocjhkpdaaGreat
open Go.RowKit
namespace Disk
open Num (hid bcells)

end Disk
end Go.Proofs.YtgmbiiocjhkpdaaGreat
