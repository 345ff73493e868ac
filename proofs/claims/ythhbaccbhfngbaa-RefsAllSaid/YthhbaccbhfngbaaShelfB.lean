/- Where the seat has no strings.Builder: the library s own. -/
import Derived.Shelf.Strings.BuilderK
