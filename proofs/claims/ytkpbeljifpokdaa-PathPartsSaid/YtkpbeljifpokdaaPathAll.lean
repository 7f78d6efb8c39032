/-
  Layer path's six calls as they landed answer as the document says.
-/
import Derived.Test.YtkpbeljifpokdaaFoldQ
import Derived.Test.YtkpbeljifpokdaaPathC
namespace Go.Proofs.Ytkpbeljifpokdaa
open Go Go.RowKit

theorem path_ok : PathOk where
  parts s w hs := parts_any s (by omega) w
  base s w hs := (base_any s (by omega) w).mono fun _ _ h => h
  dir s w hs := (dir_any s (by omega) w).mono fun _ _ h => h
  join a b w ha hb := (join_any a b (by omega) (by omega) w).mono fun _ _ h => ⟨h.1, h.2 ▸ Below.refl _ _⟩
  fold a b w ha hb := (fold_any a b (by omega) (by omega) w).mono fun _ _ h => h
  name s w hs := (name_any s (by omega) w).mono fun _ _ h => ⟨h.1, h.2 ▸ Below.refl _ _⟩
end Go.Proofs.Ytkpbeljifpokdaa
