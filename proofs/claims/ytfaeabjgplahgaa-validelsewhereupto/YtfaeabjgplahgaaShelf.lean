/- The library's contracts that the walks lean on: none at this seat. -/
import Derived.Shelf.Lay
import Derived.Shelf.Lays
import Derived.Shelf.Slices.Cells
import Derived.Test.YtfaeabjgplahgaaProg
