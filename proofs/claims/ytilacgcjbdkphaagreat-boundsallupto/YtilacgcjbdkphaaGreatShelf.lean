import Derived.Shelf.Lay
import Derived.Shelf.Lays
import Derived.Shelf.Slices.Cells
import Derived.Test.YtilacgcjbdkphaaGreatProg
