import Derived.Test.YtfiipfcdddaceaaGreatDoorQ9Op
import Derived.MakeChecks
import Derived.Lib.LaidTab
import Derived.Stop.LaidErr
import Derived.LaidLaws
namespace Go.Proofs.YtfiipfcdddaceaaGreatDoor
open Go.ChangeShapes Go.WideShapes Go.ChangeAt Go.RowKit

theorem cells17u : Tryz.prog.cellsOf 224 = 20 := by kernel_rfl

/-- What the row's list gives: the marks and the powers of ten. -/
theorem tabs_of_laid {W : World} (hH : laidMetH Tryz.prog Rows.textOrdersUptoRow.laid W) : Tabs W := by
  have hL : laidMet Tryz.prog Rows.textOrdersUptoRow.laid W := by
    rw [MakeChecks.laidMetH_plain _ _ _ (by kernel_rfl)] at hH
    exact hH
  clear hH
  have h3 := hL.tail.tail
  have h6 := h3.tail.tail.tail
  clear hL
  constructor
  · clear h3
    obtain ⟨ps, ⟨g, t, cs, fuel, p, q, hg, ht, hv, hd, _, _⟩, _, _⟩ := h6
    obtain rfl := Option.some.inj ((show Tryz.prog.globalNamed "lore/text.marks" = some 1 by kernel_rfl).symm.trans hg)
    obtain rfl := Option.some.inj ((show (Tryz.prog.globals[1]?).map (·.type) = some 181 by kernel_rfl).symm.trans ht)
    obtain ⟨xs, m, _, ex, _, hl, hel⟩ := DataW.trod_array Tryz.underlying181 hd
    have cell : ∀ k, k < 13 → W.cell? ⟨1, k, none⟩ = some (.string (markB k)) := by
      intro r hr
      have hE := hel r hr
      rw [cells9, Nat.mul_one, List.getElem?_eq_getElem (by omega)] at hE
      obtain ⟨z, e1, e2, _⟩ := DataW.trod_string Tryz.underlying9 hE
      have e3 : (xs.map (·.1)) = marksL.map fun n => .lit (.string n) := (DataW.agg.inj (Prod.mk.inj ex).1).symm
      have hlen : marksL.length = 13 := rfl
      have e4 : (xs.map (·.1))[r]? = (marksL.map fun n => (DataW.lit (.string n) : DataW Unit))[r]? := by rw [e3]
      rw [List.getElem?_map, List.getElem?_map, List.getElem?_eq_getElem (by omega : r < xs.length), List.getElem?_eq_getElem (by omega : r < marksL.length), e2] at e4
      have hz : z = markB r := by
        simp only [Option.map_some, Option.some.injEq, DataW.lit.injEq, Lit.string.injEq] at e4
        unfold markB
        rw [List.getD, List.getElem?_eq_getElem (by omega : r < marksL.length), Option.getD_some, ← e4]
      rw [World.var?_cell hg hv r, ← hz]
      have : cs.toList[r]? = some (.string z) := by
        have h0 : ((cs.toList.drop r).take 1)[0]? = some (.string z) := by rw [e1]; rfl
        simpa using h0
      simpa using this
    refine ⟨?_, cell⟩
    have h0 := cell 0 (by omega)
    rcases Nat.lt_or_ge 1 W.heap.size with h' | h'
    · exact h'
    · simp [World.cell?, Array.getElem?_eq_none h'] at h0
  · clear h6
    exact Lib.tabIs_of_head (zs := Lib.pow10Tab) (k := .u64) (g := 3) (t := 224) (by kernel_rfl) (by kernel_rfl) Tryz.underlying224 (by kernel_rfl) (by kernel_rfl) cells17u h3

/-- What a term is shown as is not much longer than it. -/
theorem plainL_le (t : Tm) (h0 : -9223372036854775808 ≤ t.num) (h1 : t.num ≤ 9223372036854775807) : (plainL t).length ≤ 2 * t.text.size + 21 := by
  have hs : t.text.data.toList.length = t.text.size := by simp
  unfold plainL
  split
  · have := Lib.itoa_length_le t.num h0 h1
    omega
  · split
    · have := flat_le t.text.data.toList
      unfold quoteL
      simp only [List.length_cons, List.length_append, List.length_nil]
      omega
    · omega

theorem sum_le (t : Nat → Tm) (n : Nat) (h : ∀ j, j < n → -9223372036854775808 ≤ (t j).num ∧ (t j).num ≤ 9223372036854775807) :
    sumL (pstrs t n) + n ≤ 5 * ((List.range n).map fun j => (t j).text.size + 5).sum ∧ ∀ j, j < n → (t j).text.size ≤ ((List.range n).map fun j => (t j).text.size + 5).sum := by
  induction n with
  | zero => exact ⟨by simp [sumL, pstrs], fun j hj => absurd hj (Nat.not_lt_zero j)⟩
  | succ n ih =>
    obtain ⟨i1, i2⟩ := ih fun j hj => h j (by omega)
    obtain ⟨k0, k1⟩ := h n (by omega)
    have hp := plainL_le (t n) k0 k1
    have e1 : sumL (pstrs t (n + 1)) = sumL (pstrs t n) + (plainL (t n)).length := by
      rw [pstrs_succ]
      simp only [sumL, List.map_append, List.sum_append, List.map_cons, List.map_nil, List.sum_cons, List.sum_nil, Nat.add_zero]
      rfl
    have e2 : ((List.range (n + 1)).map fun j => (t j).text.size + 5).sum = ((List.range n).map fun j => (t j).text.size + 5).sum + ((t n).text.size + 5) := by
      rw [List.range_succ, List.map_append, List.sum_append]
      simp
    rw [e1, e2]
    refine ⟨by omega, fun j hj => ?_⟩
    by_cases h : j < n
    · have := i2 j h
      omega
    · obtain rfl : j = n := by omega
      omega

theorem small_of {nm : ByteArray} {n : Nat} {t : Nat → Tm} (h0 : nm.size ≤ 2 ^ 20) (h : ∀ j, j < n → -9223372036854775808 ≤ (t j).num ∧ (t j).num ≤ 9223372036854775807) (hs : ((List.range n).map fun j => (t j).text.size + 5).sum ≤ 2 ^ 20) : Small nm n t := by
  obtain ⟨h1, h2⟩ := sum_le t n h
  exact ⟨by omega, fun j hj => ⟨(h j hj).1, (h j hj).2, by have := h2 j hj; omega⟩, by omega⟩
end Go.Proofs.YtfiipfcdddaceaaGreatDoor
