import Derived.Test.YtfiipfcdddaceaaGreatDoorQ9Ra
namespace Go.Proofs.YtfiipfcdddaceaaGreatDoor
open Go.RowKit

set_option maxHeartbeats 1000000 in
theorem rterms_any (a b : Tm) (p q : Int) (w : World) (ha : a.text.size ≤ 1099511627776) : Calls Tryz.prog 72 #[.agg #[.int .i64 a.kind, .int .i64 a.num, .string a.text, .int .i64 p], .agg #[.int .i64 b.kind, .int .i64 b.num, .string b.text, .int .i64 q]] w fun e w' => e = .returned (.int .i64 (cmpT a b)) ∧ Below w.heap.size w w' := by
  obtain ⟨k1, n1, x1⟩ := a
  obtain ⟨k2, n2, x2⟩ := b
  have HI := hide (fun x y w => ints_any x y w)
  have HS := hide (fun y w => words_any x1 y w ha)
  clear ha
  cases hk : (k1 != k2)
  · cases h1 : (k1 == 1)
    · have e : cmpT ⟨k1, n1, x1⟩ ⟨k2, n2, x2⟩ = cmpS x1 x2 := by
        have a : k1 = k2 := by simpa using hk
        have b : ¬ k1 = 1 := by simpa using h1
        subst a
        simp [cmpT, b]
      rw [e]
      go_enter Tryz.func72, Tryz.ntmps72
      go_wp2_with fail
      refine (HS.out _ _).mono ?_
      rintro x w1 ⟨rfl, hb1⟩
      have HB1 := hide hb1
      clear hb1
      go_wp2_with fail
      go_ret
      exact ⟨rfl, (two_alloc _ _ _).trans (HB1.out.mono (by simp; omega))⟩
    · have e : cmpT ⟨k1, n1, x1⟩ ⟨k2, n2, x2⟩ = Lib.compareInt n1 n2 := by
        have a : k1 = k2 := by simpa using hk
        have b : k1 = 1 := by simpa using h1
        subst a
        simp [cmpT, b]
      rw [e]
      go_enter Tryz.func72, Tryz.ntmps72
      go_wp2_with fail
      refine (HI.out _ _ _).mono ?_
      rintro x w1 ⟨rfl, rfl⟩
      go_wp2_with fail
      go_ret
      exact ⟨rfl, two_alloc _ _ _⟩
  · have e : cmpT ⟨k1, n1, x1⟩ ⟨k2, n2, x2⟩ = Lib.compareInt k1 k2 := by
      have a : ¬ k1 = k2 := by simpa using hk
      simp [cmpT, a]
    rw [e]
    go_enter Tryz.func72, Tryz.ntmps72
    go_wp2_with fail
    refine (HI.out _ _ _).mono ?_
    rintro x w1 ⟨rfl, rfl⟩
    go_wp2_with fail
    go_ret
    exact ⟨rfl, two_alloc _ _ _⟩

/-- n terms of the document's, each with its place. -/
def R4 (w : World) (g off n : Nat) (t : Nat → Tm) (p : Nat → Int) : Prop :=
  ∀ j, j < n → w.cell? ⟨g, off + j * 4, none⟩ = some (.int .i64 (t j).kind) ∧ w.cell? ⟨g, off + j * 4 + 1, none⟩ = some (.int .i64 (t j).num) ∧ w.cell? ⟨g, off + j * 4 + 2, none⟩ = some (.string (t j).text) ∧ w.cell? ⟨g, off + j * 4 + 3, none⟩ = some (.int .i64 (p j))
def IsR4 (w : World) (v : Value) (n : Nat) (t : Nat → Tm) (p : Nat → Int) : Prop :=
  n ≤ 1099511627776 ∧ ((∃ a c, v = .slice a 0 c ∧ n = 0) ∨ ∃ g off c, v = .slice (some ⟨g, off, none⟩) n c ∧ g < w.heap.size ∧ n ≤ c ∧ R4 w g off n t p)
theorem IsR4.plain {w : World} {v : Value} {n : Nat} {t : Nat → Tm} {p : Nat → Int} (h : IsR4 w v n t p) : IsRTerms w v n t := by
  obtain ⟨hn, h | ⟨g, off, c, hv, hg, hc, ht⟩⟩ := h
  · exact ⟨hn, .inl h⟩
  · exact ⟨hn, .inr ⟨g, off, c, hv, hg, hc, fun j hj => ⟨(ht j hj).1, (ht j hj).2.1, (ht j hj).2.2.1⟩⟩⟩
theorem IsR4.below {w w' : World} {v : Value} {n : Nat} {t : Nat → Tm} {p : Nat → Int} (h : IsR4 w v n t p) (hb : Below w.heap.size w w') : IsR4 w' v n t p := by
  obtain ⟨hn, h | ⟨g, off, c, hv, hg, hc, ht⟩⟩ := h
  · exact ⟨hn, .inl h⟩
  · refine ⟨hn, .inr ⟨g, off, c, hv, Nat.lt_of_lt_of_le hg hb.size, hc, fun j hj => ?_⟩⟩
    obtain ⟨a, b, c, d⟩ := ht j hj
    exact ⟨(hb.cell (p := ⟨g, _, none⟩) hg).trans a, (hb.cell (p := ⟨g, _, none⟩) hg).trans b, (hb.cell (p := ⟨g, _, none⟩) hg).trans c, (hb.cell (p := ⟨g, _, none⟩) hg).trans d⟩
theorem IsR4.shape {w : World} {v : Value} {n : Nat} {t : Nat → Tm} {p : Nat → Int} (h : IsR4 w v n t p) : ∃ a c, v = .slice a n c := by
  obtain ⟨_, ⟨a, c, hv, h0⟩ | ⟨g, off, c, hv, _⟩⟩ := h
  · subst h0; exact ⟨a, c, hv⟩
  · exact ⟨_, _, hv⟩
end Go.Proofs.YtfiipfcdddaceaaGreatDoor
