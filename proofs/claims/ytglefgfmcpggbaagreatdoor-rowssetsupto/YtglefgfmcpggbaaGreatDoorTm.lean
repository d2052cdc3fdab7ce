import Derived.Test.YtglefgfmcpggbaaGreatDoorA
namespace Go.Proofs.YtglefgfmcpggbaaGreatDoor

/-- A term: its kind, its number, its text. -/
structure Tm where
  kind : Int
  num : Int
  text : ByteArray
def Tm.val (t : Tm) : Value := .agg #[.int .i64 t.kind, .int .i64 t.num, .string t.text]
end Go.Proofs.YtglefgfmcpggbaaGreatDoor
