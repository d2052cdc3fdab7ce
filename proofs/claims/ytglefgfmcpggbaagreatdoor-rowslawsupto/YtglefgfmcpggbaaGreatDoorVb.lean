import Derived.Test.YtglefgfmcpggbaaGreatDoorVa
namespace Go.Proofs.YtglefgfmcpggbaaGreatDoor
open Go.RowKit Go.Sort Go.Shelf

set_option maxRecDepth 100000 in
set_option maxHeartbeats 2000000 in
theorem value_any (k : Int) (w : World) (h0 : -999999999999999999 ≤ k) (h1 : k ≤ 999999999999999999) : Calls Tryz.prog 86 #[.agg #[.int .i64 1, .int .i64 k, .string ⟨#[]⟩]] w fun e w' => e = .returned (.bool true) ∧ Below w.heap.size w w' := by
  go_enter Tryz.func86, Tryz.ntmps86
  go_wp2_with fail
  exact bodyPost_ret (v := .bool true) (by simp [results, go_sem]) rfl ⟨rfl, (Below.refl _ _).alloc (Nat.le_refl _) _⟩

set_option maxRecDepth 100000 in
set_option maxHeartbeats 2000000 in
theorem isName_p (w : World) : Calls Tryz.prog 85 #[.string nP] w fun e w' => e = .returned (.bool true) ∧ w' = w := by
  have HN := hide (fun w => nameAt_some nP 0 w (by unfold maxLen; decide) (by decide) (by kernel_rfl))
  have e : nP.extract 0 (0 + wl (nP.data.toList.drop 0)) = nP := by kernel_rfl
  rw [e] at HN
  clear e
  generalize nP = nm at *
  go_enter Tryz.func85, Tryz.ntmps85
  go_wp2_with fail
  refine (HN.out _).mono ?_
  rintro x w1 ⟨rfl, rfl⟩
  go_wp2_with fail
  exact bodyPost_ret (v := .bool true) (by simp [results, go_sem]) rfl ⟨rfl, rfl⟩

theorem one_term {w : World} {p : Option Addr} {c : Nat} {k : Int} (h : IsTerms w (.slice p 1 c) 1 (fun _ => tN k)) : ∃ g, p = some ⟨g, 0, none⟩ ∧ g < w.heap.size ∧ w.cell? ⟨g, 0, none⟩ = some (.int .i64 1) ∧ w.cell? ⟨g, 1, none⟩ = some (.int .i64 k) ∧ w.cell? ⟨g, 2, none⟩ = some (.string ⟨#[]⟩) := by
  obtain ⟨_, ⟨_, _, _, hz⟩ | ⟨g, c', hv, hg, _, ht⟩⟩ := h
  · cases hz
  · cases hv
    obtain ⟨a, b, d⟩ := ht 0 (by omega)
    exact ⟨g, rfl, hg, a, b, d⟩

set_option maxRecDepth 100000 in
set_option maxHeartbeats 2000000 in
theorem fact_one (k : Int) (p : Option Addr) (c : Nat) (w : World) (h : IsTerms w (.slice p 1 c) 1 (fun _ => tN k)) (h0 : -999999999999999999 ≤ k) (h1 : k ≤ 999999999999999999) : Calls Tryz.prog 38 #[.agg #[.string nP, .slice p 1 c]] w fun e w' => e = .returned (.bool true) ∧ Below w.heap.size w w' := by
  obtain ⟨g, rfl, hg, c0, c1, c2⟩ := one_term h
  have HN := hide isName_p
  have HV := hide (fun w => value_any k w h0 h1)
  clear h
  generalize nP = nm at *
  go_enter Tryz.func38, Tryz.ntmps38
  go_wp2_with fail
  refine (HN.out _).mono ?_
  rintro x w1 ⟨rfl, rfl⟩
  have d0 := (cell_alloc_old w (.cells #[.string nm, .slice (some ⟨g, 0, none⟩) 1 c] 47) g 0 hg).trans c0
  have d1 := (cell_alloc_old w (.cells #[.string nm, .slice (some ⟨g, 0, none⟩) 1 c] 47) g 1 hg).trans c1
  have d2 := (cell_alloc_old w (.cells #[.string nm, .slice (some ⟨g, 0, none⟩) 1 c] 47) g 2 hg).trans c2
  go_wp2_with fail
  refine wp_loop_rounds 2 ?_
  rw [rounds_succ]
  go_wp2_with fail
  refine (HV.out _).mono ?_
  rintro x w2 ⟨rfl, hb⟩
  go_wp2_with fail
  rw [rounds_succ]
  go_wp2_with fail
  refine bodyPost_ret (v := .bool true) (by simp [results, go_sem]) rfl ⟨rfl, ?_⟩
  exact (((Below.refl _ _).alloc (Nat.le_refl _) _).alloc (by simp) _).trans (hb.mono (by simp; omega))

theorem two_again {out : List Atm} (h : Ord [aN 1, aN 2] out) : out = [aN 1, aN 2] :=
  two_in_order ⟨h.str, fun y hy => by have := h.sub y hy; simp at this ⊢; exact this.symm, fun x hx => h.cov x (by simp at hx ⊢; exact hx.symm)⟩
end Go.Proofs.YtglefgfmcpggbaaGreatDoor
