/- A variable that holds a form. -/
import Derived.Test.YtedabholcldgbaaGreatDoorScan
namespace Go.Proofs.YtedabholcldgbaaGreatDoor
open Go.RowKit Go.Deep
/-- The block of a variable that holds t. -/
abbrev boxO (t : T) : Obj := .cells #[.int .i64 t.kd, .int .i64 t.nn, .string t.tx, .slice t.ad t.ks.length t.cp] 29
/-- The block of a variable that holds the zero form. -/
abbrev zeroO : Obj := .cells #[.int .i64 0, .int .i64 0, .string ⟨#[]⟩, .slice none 0 0] 29
end Go.Proofs.YtedabholcldgbaaGreatDoor
