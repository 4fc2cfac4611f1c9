
/- Package ident's calls do what the document asks. -/
import Derived.Test.YthenlajknoddcaaDoorIdSpec
import Derived.Test.YthenlajknoddcaaDoorIdHas
import Derived.Test.YthenlajknoddcaaDoorIdRow
import Derived.Test.YthenlajknoddcaaDoorIdPats
import Derived.Test.YthenlajknoddcaaDoorIdParse
import Derived.Test.YthenlajknoddcaaDoorIdOrd
namespace Go.Proofs.YthenlajknoddcaaDoor
open Go.RowKit
set_option linter.unusedVariables false

theorem id_c {W0 : World} (hT : Nums W0) : IdC W0 where
  root := root_any
  begin_ := begin_any
  end_ := end_any
  right := fun x w h => idright_any x w (by omega)
  text := fun x w hb h => idtext_any x w (hT.on hb) h
  parse := fun s w hb h => idparse_any s w (hT.on hb) h
  less := idless_any
  has := fun A l c x w hs hn => idhas_any A l c x w hs (by omega)
  row := fun p first n w h => idrow_any p first n w h
  patches := idpats_any
end Go.Proofs.YthenlajknoddcaaDoor
