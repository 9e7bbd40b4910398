/-
  Nothing of its own: the library's contracts lie in one text here.
-/
import Derived.Test.YtebbgdihifihnaaDoorShz
