/- slices.Equal at blocks, laid at this program. -/
import Derived.Shelf.Lay
import Derived.Shelf.LaySoft
import Derived.Shelf.SlicesQ.Equal
import Derived.Ground.SlgqProg
import Derived.Test.YtaggodghaemkiaaDoorProg
namespace Go.Proofs
open Go.Shelf
shelf_try shelf_lay_g SlLaysQ.n8 Slgq 8 at Tryd 29 as Tryd.equalL
shelf_tried
end Go.Proofs
