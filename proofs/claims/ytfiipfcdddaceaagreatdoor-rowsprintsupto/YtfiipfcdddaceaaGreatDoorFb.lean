import Derived.Test.YtfiipfcdddaceaaGreatDoorOa
import Derived.MakeChecks
import Derived.Lib.LaidTab
import Derived.Stop.LaidErr
import Derived.LaidLaws
import Derived.LaidHandle
import Derived.Lay
namespace Go.Proofs.YtfiipfcdddaceaaGreatDoor
open Go.ChangeShapes Go.WideShapes Go.ChangeAt Go.RowKit

theorem cells17u : Tryz.prog.cellsOf 224 = 20 := by kernel_rfl

/-- The package variables that the rows laws list. -/
def rlaid : List (String × DataW Unit) := Rows.rowsLawsUptoRow.laid
/-- Those that are no handle. -/
def rplain : List (String × DataW Unit) := rlaid.filter fun x => x.2.handleName?.isNone

theorem tab_of_laid {W : World} (hH : laidMetH Tryz.prog rlaid W) : Lib.TabIs Tryz.prog W "internal/strconv.uint64pow10" .u64 Lib.pow10Tab := by
  have hL : laidMet Tryz.prog rplain W := by
    unfold laidMetH at hH
    split at hH
    · rename_i h; exact absurd h (by
        intro e
        have := congrArg List.length e
        revert this
        exact (show ¬ (rlaid.filter fun x => x.2.handleName?.isSome).length = 0 from by
          rw [show (rlaid.filter fun x => x.2.handleName?.isSome).length = 1 by kernel_rfl]; omega))
    · exact hH.1
  have h3 := hL.tail.tail
  exact Lib.tabIs_of_head (zs := Lib.pow10Tab) (k := .u64) (g := 3) (t := 224) (by kernel_rfl) (by kernel_rfl) Tryz.underlying224 (by kernel_rfl) (by kernel_rfl) cells17u h3

/-- A world for the witness: the handle's cell laid, then the others. -/
def rset (P : Program) (w0 : World) : World :=
  { w0 with heap := w0.heap.modify 0 fun
      | .cells _ t frozen => .cells #[.iface 189 (.agg #[typeHandle P 109])] t frozen
      | o => o }
def rworld (P : Program) (w0 : World) : World := (rset P w0).layVars P rplain
theorem rworld_os (os : Os) : (rworld Tryz.prog (World.holding Tryz.prog os ⟨#[], #[], []⟩)).os = os := World.layVars_os _ _ _
theorem rlaid_met (os : Os) (args : Array Value) : laidMetH Tryz.prog rlaid ((rworld Tryz.prog (World.holding Tryz.prog os ⟨#[], #[], []⟩)).forCall (fun _ _ => 0) ⟨#[], args, []⟩).memory := by
  refine laidMetH_of_parts ?_ (by kernel_rfl)
  have e1 : (rplain.filter fun x => (rplain.map (·.1)).contains x.1) = rplain := List.filter_eq_self.2 fun x hx => List.contains_iff_mem.2 (List.mem_map.2 ⟨x, hx, rfl⟩)
  have e2 : (rplain.filter fun x => !(rplain.map (·.1)).contains x.1) = [] := List.filter_eq_nil_iff.2 fun x hx => by rw [List.contains_iff_mem.2 (List.mem_map.2 ⟨x, hx, rfl⟩)]; simp
  have h : laidMet Tryz.prog rplain (rworld Tryz.prog (World.holding Tryz.prog os ⟨#[], #[], []⟩)) := laidMet_layVars (w0 := rset Tryz.prog (World.holding Tryz.prog os ⟨#[], #[], []⟩)) (rplain.map (·.1)) [] (by rw [e1]; rfl) (by rw [e1]; kernel_rfl) (by rw [e1]; kernel_rfl) (by rw [e2]; exact LaidIn.none)
  exact h.of_heap (by simp [World.memory, World.forCall, Input.heap])
end Go.Proofs.YtfiipfcdddaceaaGreatDoor
