import Derived.Test.YtfiipfcdddaceaaDoorQ
import Derived.Test.YtfiipfcdddaceaaDoorShelf
import Derived.Lib.IndexBytes
namespace Go.Proofs.YtfiipfcdddaceaaDoor
open Go.RowKit

theorem ix0 (w : World) : (Instr.index 94 (.agg #[.string (markB 0), .string (markB 1), .string (markB 2), .string (markB 3), .string (markB 4), .string (markB 5), .string (markB 6), .string (markB 7), .string (markB 8), .string (markB 9), .string (markB 10), .string (markB 11), .string (markB 12)]) (.int .i64 0)).run Tryd.prog w = .ok (.string (markB 0)) w := by kernel_rfl
theorem ix1 (w : World) : (Instr.index 94 (.agg #[.string (markB 0), .string (markB 1), .string (markB 2), .string (markB 3), .string (markB 4), .string (markB 5), .string (markB 6), .string (markB 7), .string (markB 8), .string (markB 9), .string (markB 10), .string (markB 11), .string (markB 12)]) (.int .i64 1)).run Tryd.prog w = .ok (.string (markB 1)) w := by kernel_rfl
theorem ix2 (w : World) : (Instr.index 94 (.agg #[.string (markB 0), .string (markB 1), .string (markB 2), .string (markB 3), .string (markB 4), .string (markB 5), .string (markB 6), .string (markB 7), .string (markB 8), .string (markB 9), .string (markB 10), .string (markB 11), .string (markB 12)]) (.int .i64 2)).run Tryd.prog w = .ok (.string (markB 2)) w := by kernel_rfl
theorem ix3 (w : World) : (Instr.index 94 (.agg #[.string (markB 0), .string (markB 1), .string (markB 2), .string (markB 3), .string (markB 4), .string (markB 5), .string (markB 6), .string (markB 7), .string (markB 8), .string (markB 9), .string (markB 10), .string (markB 11), .string (markB 12)]) (.int .i64 3)).run Tryd.prog w = .ok (.string (markB 3)) w := by kernel_rfl
theorem ix4 (w : World) : (Instr.index 94 (.agg #[.string (markB 0), .string (markB 1), .string (markB 2), .string (markB 3), .string (markB 4), .string (markB 5), .string (markB 6), .string (markB 7), .string (markB 8), .string (markB 9), .string (markB 10), .string (markB 11), .string (markB 12)]) (.int .i64 4)).run Tryd.prog w = .ok (.string (markB 4)) w := by kernel_rfl
theorem ix5 (w : World) : (Instr.index 94 (.agg #[.string (markB 0), .string (markB 1), .string (markB 2), .string (markB 3), .string (markB 4), .string (markB 5), .string (markB 6), .string (markB 7), .string (markB 8), .string (markB 9), .string (markB 10), .string (markB 11), .string (markB 12)]) (.int .i64 5)).run Tryd.prog w = .ok (.string (markB 5)) w := by kernel_rfl
theorem ix6 (w : World) : (Instr.index 94 (.agg #[.string (markB 0), .string (markB 1), .string (markB 2), .string (markB 3), .string (markB 4), .string (markB 5), .string (markB 6), .string (markB 7), .string (markB 8), .string (markB 9), .string (markB 10), .string (markB 11), .string (markB 12)]) (.int .i64 6)).run Tryd.prog w = .ok (.string (markB 6)) w := by kernel_rfl
theorem ix7 (w : World) : (Instr.index 94 (.agg #[.string (markB 0), .string (markB 1), .string (markB 2), .string (markB 3), .string (markB 4), .string (markB 5), .string (markB 6), .string (markB 7), .string (markB 8), .string (markB 9), .string (markB 10), .string (markB 11), .string (markB 12)]) (.int .i64 7)).run Tryd.prog w = .ok (.string (markB 7)) w := by kernel_rfl
theorem ix8 (w : World) : (Instr.index 94 (.agg #[.string (markB 0), .string (markB 1), .string (markB 2), .string (markB 3), .string (markB 4), .string (markB 5), .string (markB 6), .string (markB 7), .string (markB 8), .string (markB 9), .string (markB 10), .string (markB 11), .string (markB 12)]) (.int .i64 8)).run Tryd.prog w = .ok (.string (markB 8)) w := by kernel_rfl
theorem ix9 (w : World) : (Instr.index 94 (.agg #[.string (markB 0), .string (markB 1), .string (markB 2), .string (markB 3), .string (markB 4), .string (markB 5), .string (markB 6), .string (markB 7), .string (markB 8), .string (markB 9), .string (markB 10), .string (markB 11), .string (markB 12)]) (.int .i64 9)).run Tryd.prog w = .ok (.string (markB 9)) w := by kernel_rfl
theorem ix10 (w : World) : (Instr.index 94 (.agg #[.string (markB 0), .string (markB 1), .string (markB 2), .string (markB 3), .string (markB 4), .string (markB 5), .string (markB 6), .string (markB 7), .string (markB 8), .string (markB 9), .string (markB 10), .string (markB 11), .string (markB 12)]) (.int .i64 10)).run Tryd.prog w = .ok (.string (markB 10)) w := by kernel_rfl
theorem ix11 (w : World) : (Instr.index 94 (.agg #[.string (markB 0), .string (markB 1), .string (markB 2), .string (markB 3), .string (markB 4), .string (markB 5), .string (markB 6), .string (markB 7), .string (markB 8), .string (markB 9), .string (markB 10), .string (markB 11), .string (markB 12)]) (.int .i64 11)).run Tryd.prog w = .ok (.string (markB 11)) w := by kernel_rfl
theorem ix12 (w : World) : (Instr.index 94 (.agg #[.string (markB 0), .string (markB 1), .string (markB 2), .string (markB 3), .string (markB 4), .string (markB 5), .string (markB 6), .string (markB 7), .string (markB 8), .string (markB 9), .string (markB 10), .string (markB 11), .string (markB 12)]) (.int .i64 12)).run Tryd.prog w = .ok (.string (markB 12)) w := by kernel_rfl
theorem index_mark (k : Nat) (hk : k < 13) (w : World) :
    (Instr.index 94 (.agg #[.string (markB 0), .string (markB 1), .string (markB 2), .string (markB 3), .string (markB 4), .string (markB 5), .string (markB 6), .string (markB 7), .string (markB 8), .string (markB 9), .string (markB 10), .string (markB 11), .string (markB 12)]) (.int .i64 (k : Int))).run Tryd.prog w = .ok (.string (markB k)) w := by
  have h : k = 0 ∨ k = 1 ∨ k = 2 ∨ k = 3 ∨ k = 4 ∨ k = 5 ∨ k = 6 ∨ k = 7 ∨ k = 8 ∨ k = 9 ∨ k = 10 ∨ k = 11 ∨ k = 12 := by omega
  rcases h with rfl | rfl | rfl | rfl | rfl | rfl | rfl | rfl | rfl | rfl | rfl | rfl | rfl
  · exact ix0 w
  · exact ix1 w
  · exact ix2 w
  · exact ix3 w
  · exact ix4 w
  · exact ix5 w
  · exact ix6 w
  · exact ix7 w
  · exact ix8 w
  · exact ix9 w
  · exact ix10 w
  · exact ix11 w
  · exact ix12 w

def pre (s : ByteArray) (i k : Nat) : Bool := Lib.hasPrefix (s.extract i s.size).data.toList (markB k).data.toList

theorem pre_eq (s : ByteArray) (i k : Nat) : pre s i k = (marksL.getD k []).isPrefixOf (s.data.toList.drop i) := by
  have e : (s.extract i s.size).data.toList = s.data.toList.drop i := by
    exact Lib.extract_to_end s i
  unfold pre Lib.hasPrefix markB
  rw [e]

theorem more_pre (s : ByteArray) (i k : Nat) (h : ∀ j, j < k → pre s i j = false) (e : pre s i k = false) : ∀ j, j < k + 1 → pre s i j = false := by
  intro j hj
  by_cases h1 : j < k
  · exact h j h1
  · obtain rfl : j = k := by omega
    exact e

theorem getD_get {k : Nat} (h : k < marksL.length) : marksL.getD k [] = marksL[k] := by
  simp [List.getD, List.getElem?_eq_getElem h]

theorem mk_at (s : ByteArray) (i k : Nat) (hk : k < 13) (h0 : ∀ j, j < k → pre s i j = false) (h1 : pre s i k = true) : mk (s.data.toList.drop i) = k := by
  unfold mk
  have hl : marksL.length = 13 := rfl
  rw [List.findIdx_eq (by omega)]
  rw [pre_eq, getD_get (by omega)] at h1
  refine ⟨h1, fun j hj => ?_⟩
  have := h0 j hj
  rw [pre_eq, getD_get (by omega)] at this
  simpa using this
theorem mk_none (s : ByteArray) (i : Nat) (h0 : ∀ j, j < 13 → pre s i j = false) : mk (s.data.toList.drop i) = 13 := by
  unfold mk
  have hl : marksL.length = 13 := rfl
  rw [← hl, List.findIdx_eq_length]
  intro x hx
  obtain ⟨j, hj, rfl⟩ := List.getElem_of_mem hx
  have := h0 j (by omega)
  rw [pre_eq, getD_get (by omega)] at this
  exact this

set_option maxHeartbeats 1000000 in
theorem mark_any (r : Nat) (s : ByteArray) (i : Nat) (w : World) (_hs : s.size ≤ maxLen) (hi : i ≤ s.size) (hr : Rd r s i w) (hm : Mk w) :
    Calls Tryd.prog 45 #[.pointer (some ⟨r, 0, none⟩)] w fun e w' => e = .returned (.int .i64 (mk (s.data.toList.drop i))) ∧ ∃ n, w' = w.drewN n := by
  unfold maxLen at _hs
  obtain ⟨hlt, c0, c1, _⟩ := hr
  obtain ⟨hm0, hm1⟩ := hm
  have m0 := hm1 0 (by omega)
  have m1 := hm1 1 (by omega)
  have m2 := hm1 2 (by omega)
  have m3 := hm1 3 (by omega)
  have m4 := hm1 4 (by omega)
  have m5 := hm1 5 (by omega)
  have m6 := hm1 6 (by omega)
  have m7 := hm1 7 (by omega)
  have m8 := hm1 8 (by omega)
  have m9 := hm1 9 (by omega)
  have m10 := hm1 10 (by omega)
  have m11 := hm1 11 (by omega)
  have m12 := hm1 12 (by omega)
  clear hm1
  go_enter Tryd.func45, Tryd.ntmps45
  go_wp2_with fail
  go_loopw [6] (fun t wr => ∃ k n : Nat, k ≤ 13 ∧ t = .int .i64 k ∧ (∀ j, j < k → pre s i j = false) ∧ wr = w.drewN n) (fun t _ => 13 - (intOf t).toNat)
  case atStart => exact ⟨0, 0, by omega, rfl, fun j h => by omega, rfl⟩
  case round =>
    obtain ⟨k, n, hk, rfl, hall, hwr⟩ := hrel
    have d0 : wr.cell? ⟨r, 0, none⟩ = some (.string s) := by rw [hwr]; exact c0
    have d1 : wr.cell? ⟨r, 1, none⟩ = some (.int .i64 i) := by rw [hwr]; exact c1
    have HW := hide hwr
    have HA := hide hall
    clear hall hwr c0 c1
    by_cases hlt : k < 13
    · have hix := index_mark k hlt
      go_wp2_with fail
      go_quiet ((go_at_call 54; exact Calls.quiet_of_same (Tryd.strings_HasPrefix _ _ _)))
      go_wp2
      · have hp : pre s i k = true := by assumption
        have e := mk_at s i k hlt HA.out hp
        go_ret
        exact ⟨by rw [e]; rfl, _, by rw [HW.out, World.drewN_drewN]⟩
      · have hp : pre s i k = false := by assumption
        exact ⟨⟨k + 1, _, by omega, by go_num, more_pre s i k HA.out hp, by rw [HW.out, World.drewN_drewN]⟩, by simp [intOf]; omega⟩
    · have hk13 : k = 13 := by omega
      have HK := hide hk13
      clear hk13
      go_wp2
      have e := mk_none s i (HK.out ▸ HA.out)
      go_ret
      exact ⟨by rw [e]; rfl, _, HW.out⟩
end Go.Proofs.YtfiipfcdddaceaaDoor
