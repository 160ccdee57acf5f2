/- No such function of the library stands in this seat. -/
import Derived.Shelf.Strings.OnBuilder
import Derived.Test.YtgbbobjkhpplkaaDoorProg
