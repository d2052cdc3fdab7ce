import Derived.Test.YtfiipfcdddaceaaDoorQu
import Derived.Lib.AppendIntMem
namespace Go.Proofs.YtfiipfcdddaceaaDoor
open Go.RowKit

/-- The tables that the texts go by, as their initialisers lay them. -/
structure Tabs (w : World) : Prop where
  mks : Mk w
  pow : Lib.TabIs Tryd.prog w "internal/strconv.uint64pow10" .u64 Lib.pow10Tab

theorem itoa_any (n : Int) (h0 : -9223372036854775808 ≤ n) (h1 : n ≤ 9223372036854775807) (w : World) (h : Lib.TabIs Tryd.prog w "internal/strconv.uint64pow10" .u64 Lib.pow10Tab) :
    Calls Tryd.prog 18 #[.int .i64 n] w fun e w' => e = .returned (.string ⟨(Lib.itoa n).toArray⟩) ∧ Below w.heap.size w w' :=
  (Tryd.strconv_Itoa n h0 h1 w h).mono fun _ _ ⟨h1, d, os, h2⟩ => ⟨h1, by rw [h2]; exact Lib.below_grow _ _ (Nat.le_refl _) d os⟩

def plainL (t : Tm) : List UInt8 := if t.kind = 1 then Lib.itoa t.num else if t.kind = 3 then quoteL t.text.data.toList else t.text.data.toList

/-- A term that can be: its number is an int, its text is short. -/
def TmOk (t : Tm) : Prop := -9223372036854775808 ≤ t.num ∧ t.num ≤ 9223372036854775807 ∧ t.text.size ≤ 1099511627776

set_option maxHeartbeats 1000000 in
theorem plain_any (t : Tm) (w : World) (ht : TmOk t) (hw : Lib.TabIs Tryd.prog w "internal/strconv.uint64pow10" .u64 Lib.pow10Tab) :
    Calls Tryd.prog 11 #[t.val] w fun e w' => e = .returned (.string ⟨(plainL t).toArray⟩) ∧ Below w.heap.size w w' := by
  obtain ⟨k, n, tx⟩ := t
  obtain ⟨h0, h1, h2⟩ := ht
  simp only [Tm.val] at *
  have HI := hide (fun w h => itoa_any n h0 h1 w h)
  have HQ := hide (fun w => quote_any tx w h2)
  have HT := hide hw
  clear hw h0 h1
  cases e1 : (k == 1)
  · cases e3 : (k == 3)
    · have hp : plainL ⟨k, n, tx⟩ = tx.data.toList := by
        have a : ¬ k = 1 := by simpa using e1
        have b : ¬ k = 3 := by simpa using e3
        simp [plainL, a, b]
      rw [hp]
      go_enter Tryd.func11, Tryd.ntmps11
      go_wp2_with fail
      go_ret
      exact ⟨rfl, (Below.refl _ _).alloc (Nat.le_refl _) _⟩
    · have hp : plainL ⟨k, n, tx⟩ = quoteL tx.data.toList := by
        have a : ¬ k = 1 := by simpa using e1
        have b : k = 3 := by simpa using e3
        simp [plainL, b]
      rw [hp]
      go_enter Tryd.func11, Tryd.ntmps11
      go_wp2_with fail
      refine (HQ.out _).mono ?_
      rintro x w1 ⟨rfl, hb⟩
      have HB := hide hb
      clear hb
      go_wp2_with fail
      go_ret
      exact ⟨rfl, ((Below.refl _ _).alloc (Nat.le_refl _) _).trans (HB.out.mono (by simp))⟩
  · have hp : plainL ⟨k, n, tx⟩ = Lib.itoa n := by
      have a : k = 1 := by simpa using e1
      simp [plainL, a]
    rw [hp]
    go_enter Tryd.func11, Tryd.ntmps11
    go_wp2_with fail
    refine (HI.out _ (Lib.tabIs_alloc HT.out _)).mono ?_
    rintro x w1 ⟨rfl, hb⟩
    have HB := hide hb
    clear hb
    go_wp2_with fail
    go_ret
    exact ⟨rfl, ((Below.refl _ _).alloc (Nat.le_refl _) _).trans (HB.out.mono (by simp))⟩
end Go.Proofs.YtfiipfcdddaceaaDoor
