/- The shelf of this seat: nothing of its own. -/
import Derived.Shelf.Lay
import Derived.Shelf.Lays
import Derived.Shelf.Slices.Cells
import Derived.Test.YthkjkcojbepfmaaProg
