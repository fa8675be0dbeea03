import Derived.Shelf.SlIterI.Nil
import Derived.Shelf.SortM.Plain
import Derived.Shelf.SortM.SortNone
import Derived.Ground.GgzProg
import Derived.Ground.SlgmProg
import Derived.Shelf.LaySoft
import Derived.Shelf.Lay
import Derived.Test.YtmnjdlnjhomhnaaDoorProg
namespace Go.Proofs
open Go.Shelf
shelf_try shelf_lay_g SlLaysZI.n7 Ggz 7 at Tryd 35 as Tryd.keysA
shelf_try shelf_lay_g SlLaysZI.n6 Ggz 6 at Tryd 34 as Tryd.sortedA
shelf_try shelf_lay_g SlLaysM.n5 Slgm 5 at Tryd 45 as Tryd.sortA
shelf_tried
end Go.Proofs
