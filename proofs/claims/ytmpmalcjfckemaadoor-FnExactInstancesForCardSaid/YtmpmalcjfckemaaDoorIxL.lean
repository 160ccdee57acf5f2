/- No function of the library that searches a text stands in this seat. -/
import Derived.Test.YtmpmalcjfckemaaDoorProg
