import Derived.Test.YtfiipfcdddaceaaGreatDoorQ9To
namespace Go.Proofs.YtfiipfcdddaceaaGreatDoor
open Go.ChangeShapes Go.WideShapes Go.ChangeAt Go.RowKit
section
variable {H : Type} {enc : TypeId × Value → H} {w : World} {base : Nat} {spare : Nat → Bool} {held : Bool}

set_option maxRecDepth 100000 in
/-- An atom that came in: its name, its terms, and how much there is of it. -/
theorem open_atom4 {b0 : Nat} {r : Reach} {v : Value} {d : DataW H} {p : List MemPlace} (hv : Value.okWide Tryz.prog w r b0 44 v) (h : DataW.Trod enc Tryz.prog w base spare held 44 v d p) (hb : Rows.uptoBulk d ≤ 2 ^ 20) :
    ∃ (nm : ByteArray) (va : Value) (n : Nat) (a : Int) (t : Nat → Tm) (q : Nat → Int), v = .agg #[.string nm, va, .int .i64 a] ∧ IsR4 w va n t q ∧ nm.size ≤ 2 ^ 20 ∧ (∀ j, j < n → -9223372036854775808 ≤ (t j).num ∧ (t j).num ≤ 9223372036854775807) ∧ ((List.range n).map fun j => (t j).text.size + 5).sum ≤ 2 ^ 20 := by
  obtain ⟨v0, v1, v2, y0, y1, y2, fu, rfl, rfl, rfl, h0, h1, h2⟩ := Joins.open_agg3 Tryz.underlying44 (by kernel_rfl) cells24 hv h
  obtain ⟨s, e0, r0, _⟩ := DataW.trod_string Tryz.underlying9 h0
  obtain ⟨a, e2, r2, _⟩ := DataW.trod_int Tryz.underlying3 h2
  simp at e0 e2
  subst e0 e2 r0 r2
  have hs : s.data.toList.length = s.size := by simp
  simp only [Rows.uptoBulk, Rows.uptoBulkAll, hs] at hb
  rcases Deep.open_slice Tryz.underlying42 h1 with ⟨hcs, _⟩ | ⟨ad, len, cap, m, nn, D, Pl, hcs, hbb, hl, hm, hmm, hx, hall⟩
  · simp at hcs
    exact ⟨s, v1, 0, a, fun _ => ⟨0, 0, ⟨#[]⟩⟩, fun _ => 0, rfl, ⟨by omega, .inl ⟨none, 0, hcs, rfl⟩⟩, by omega, fun j hj => absurd hj (Nat.not_lt_zero j), Nat.zero_le _⟩
  · simp at hcs
    have hlm : len ≤ m := by rw [hmm]; split <;> omega
    have hbulk : Rows.uptoBulkAll ((List.range len).map D) ≤ 2 ^ 20 := by
      rw [hx] at hb
      simp only [Rows.uptoBulk] at hb
      omega
    have hP : ∀ i, i < len → ∃ q : Tm × Int, w.cells? base (ad.add (i * 4)) 4 = some [.int .i64 q.1.kind, .int .i64 q.1.num, .string q.1.text, .int .i64 q.2] ∧ D i = tmD q.1 q.2 ∧ -9223372036854775808 ≤ q.1.num ∧ q.1.num ≤ 9223372036854775807 := by
      intro i hi
      obtain ⟨cs', c1, c2⟩ := hall i (by omega)
      rw [cells37] at c1
      obtain ⟨t, aa, rfl, e, k1, k2⟩ := open_term c2
      exact ⟨(t, aa), c1, e, k1, k2⟩
    have : Inhabited (Tm × Int) := ⟨(⟨0, 0, ⟨#[]⟩⟩, 0)⟩
    obtain ⟨f, hf⟩ := Deep.choose_lt hP
    have hsum : ((List.range len).map fun j => (f j).1.text.size + 5).sum ≤ 2 ^ 20 := by
      refine Nat.le_trans (bulk_range D len _ fun j hj => ?_) hbulk
      rw [(hf j hj).2.1, bulk_tm]
      exact Nat.le_refl _
    have hlen : len ≤ 2 ^ 20 := by
      have h5 : ∀ n, n ≤ ((List.range n).map fun j => (f j).1.text.size + 5).sum := by
        intro n
        induction n with
        | zero => simp
        | succ n ih => rw [List.range_succ, List.map_append, List.sum_append]; simp only [List.map_cons, List.map_nil, List.sum_cons, List.sum_nil]; omega
      have := h5 len
      omega
    refine ⟨s, v1, len, a, fun j => (f j).1, fun j => (f j).2, rfl, ⟨by omega, ?_⟩, by omega, fun j hj => (hf j hj).2.2, hsum⟩
    by_cases hz : len = 0
    · exact .inl ⟨some ad, cap, by rw [hcs, hz], hz⟩
    · obtain ⟨g, off, spot⟩ := ad
      have hcell : ∀ j, j < len → ∀ k u, ([.int .i64 (f j).1.kind, .int .i64 (f j).1.num, .string (f j).1.text, .int .i64 (f j).2] : List Value)[k]? = some u → w.cell? (((⟨g, off, spot⟩ : Addr).add (j * 4)).add k) = some u := fun j hj k u hu => cells_at (hf j hj).1 k u hu
      have hspot : spot = none := by
        have := World.cell?_spot (hcell 0 (by omega) 0 _ rfl)
        simpa [Addr.add] using this
      subst hspot
      refine .inr ⟨g, off, cap, hcs, ?_, hl, fun j hj => ?_⟩
      · have h00 := hcell 0 (by omega) 0 _ rfl
        rcases Nat.lt_or_ge g w.heap.size with h' | h'
        · exact h'
        · simp [Addr.add, World.cell?, Array.getElem?_eq_none h'] at h00
      · have ea : ∀ k, ((⟨g, off, none⟩ : Addr).add (j * 4)).add k = ⟨g, off + j * 4 + k, none⟩ := fun k => by
          rw [Deep.add_add]
          unfold Addr.add
          split
          · rename_i h0; simp at h0 ⊢
          · simp; omega
        refine ⟨?_, ?_, ?_, ?_⟩
        · have := hcell j hj 0 _ rfl; rw [ea] at this; exact this
        · have := hcell j hj 1 _ rfl; rw [ea] at this; exact this
        · have := hcell j hj 2 _ rfl; rw [ea] at this; exact this
        · have := hcell j hj 3 _ rfl; rw [ea] at this; exact this
end
end Go.Proofs.YtfiipfcdddaceaaGreatDoor
