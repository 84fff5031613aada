/-
  DERIVED. GIVEN WITH THE SEED: THE PROGRAM's TIES (one call each: nine closed facts by the kernel) AND EACH ROW's TIE, after the 31st guide's Derived/Test/Toyas{Tie, Card}.lean. No idea stands in it: it is a product of the set-up. Laid BY PROGRAM, IN A SANDBOX (cutbox-door.mjs). By AI agents, Wed Nov 11 2026. No macro, syntax, notation, axiom, sorry.
-/
import Derived.Test.YthmcdoakfmlecaaGreatDoorRows
import Derived.LaidByTextLater
import Derived.SevenTiedAt
import Derived.LaidSub
import Derived.LaidOnce
namespace Go.Proofs.YthmcdoakfmlecaaGreatDoor
open Go
set_option maxRecDepth 100000
theorem seatTie1 : Tryz.prog.laidByTextLater [("moniker/monikerref9.universe", Rows.laid_moniker_monikerref9_universe), ("moniker/scope.ranks", Rows.laid_moniker_scope_ranks), ("moniker/scope.universe", Rows.laid_moniker_scope_universe)] [.data, .widerDeep, .widerDeep] true :=
  Program.laidByTextLater_by_one 24 8 16 (by kernel_rfl) (by kernel_rfl) (by kernel_rfl) (by kernel_rfl) (by kernel_rfl) (by kernel_rfl) (fun _ _ => by kernel_rfl)
theorem noOwnUnsafe : Tryz.pinned.checked.prog.headLifts.contains "ownunsafe" = false := by kernel_rfl
theorem tie : Tryz.prog.laidByTextLater [("moniker/monikerref9.universe", Rows.laid_moniker_monikerref9_universe), ("moniker/scope.ranks", Rows.laid_moniker_scope_ranks), ("moniker/scope.universe", Rows.laid_moniker_scope_universe)] [.data, .widerDeep, .widerDeep] true :=
  Program.laidByTextLater.sub seatTie1 ["moniker/monikerref9.universe", "moniker/scope.ranks", "moniker/scope.universe"] (by kernel_rfl) (by kernel_rfl)
theorem scopeUniverse_row_tie : Rows.scopeUniverseRow.laidByTextAt .later Tryz.pinned [.data, .widerDeep, .widerDeep] true :=
  OpenClaim.laidByTextAt_later rfl rfl tie noOwnUnsafe
theorem scopeUniverseUpto_row_tie : Rows.scopeUniverseUptoRow.laidByTextAt .later Tryz.pinned [.data, .widerDeep, .widerDeep] true :=
  OpenClaim.laidByTextAt_later rfl rfl tie noOwnUnsafe
end Go.Proofs.YthmcdoakfmlecaaGreatDoor
