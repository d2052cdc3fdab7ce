import Derived.Test.YtfiipfcdddaceaaGreatDoorA
namespace Go.Proofs.YtfiipfcdddaceaaGreatDoor

/-- A term: its kind, its number, its text. -/
structure Tm where
  kind : Int
  num : Int
  text : ByteArray
def Tm.val (t : Tm) : Value := .agg #[.int .i64 t.kind, .int .i64 t.num, .string t.text]
end Go.Proofs.YtfiipfcdddaceaaGreatDoor
