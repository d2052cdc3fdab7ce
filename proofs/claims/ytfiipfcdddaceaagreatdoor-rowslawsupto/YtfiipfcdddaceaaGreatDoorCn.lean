import Derived.Test.YtfiipfcdddaceaaGreatDoorTc
import Derived.Test.YtfiipfcdddaceaaGreatDoorGn
import Derived.Test.YtfiipfcdddaceaaGreatDoorLs
import Derived.Lib.LazyBuf
namespace Go.Proofs.YtfiipfcdddaceaaGreatDoor
open Go.RowKit Go.Sort Go.Shelf

theorem isnil_z (a : Option Addr) (l c : Nat) (w : World) : Sem.run Tryz.prog (binOp .eql 63 (.slice a l c) (.slice none 0 0)) w = .ok (.bool a.isNone) w := by
  apply Lib.run_eql_slice_nil
  exact Tryz.underlying63

set_option maxRecDepth 100000 in
set_option maxHeartbeats 2000000 in
theorem clone_nil (w : World) : Calls Tryz.prog 119 #[.slice none 0 0] w fun e w' => e = .returned (.slice none 0 0) ∧ w' = w := by
  have hn := isnil_z none 0 0
  go_enter Tryz.func119, Tryz.ntmps119
  go_wp2_with fail
  go_ret
  exact ⟨rfl, rfl⟩

set_option maxRecDepth 100000 in
set_option maxHeartbeats 2000000 in
theorem clone_some (g c n : Nat) (xs : List Value) (w : World) (hl : xs.length = n * 2) (hx : ∀ j u, xs[j]? = some u → w.cell? ⟨g, j, none⟩ = some u) (h1 : ∀ u ∈ xs, u.oneCell' = true) (hn : n ≤ 1099511627776) (hg : g < w.heap.size) :
    Calls Tryz.prog 119 #[.slice (some ⟨g, 0, none⟩) n c] w fun e w' => ∃ v', e = .returned v' ∧ w'.ownsRow w.heap.size 47 2 v' n xs ∧ Below w.heap.size w w' := by
  have hnil := isnil_z (some ⟨g, 0, none⟩) n c
  obtain ⟨i0, hi, hz0, hz1, hz2⟩ := info_parts (P := Tryz.prog) (e := 47) (z := .agg #[.string ⟨#[]⟩, .slice none 0 0]) (size := 2) (bytes := 40) (by kernel_rfl)
  have HX := hide hx
  have H1 := hide h1
  clear hx h1
  go_enter Tryz.func119, Tryz.ntmps119
  have hown : (w.alloc (.cells #[] 47)).ownsRow w.heap.size 47 2 (.slice (some ⟨w.heap.size, 0, none⟩) 0 0) 0 [] := World.ownsRow_made w #[] 0 (Nat.le_refl _) (by unfold maxLen; omega) rfl
  go_wp2_with (at_builtin; refine wpList_append_own _ rfl _ _ 63 rfl w.heap.size 47 i0 (.agg #[.string ⟨#[]⟩, .slice none 0 0]) 2 40 Tryz.underlying63 hi hz0 hz1 hz2 rfl (by decide) _ _ _ rfl hown ⟨g, 0, none⟩ n c xs rfl hl ?c1 ?c2 ?c3 ?c4 ?c5 ?_)
  case c1 =>
    intro j u hu
    have := HX.out j u hu
    rw [Addr.add_lit, Nat.zero_add, cell_alloc_old _ _ _ _ hg]
    exact this
  case c2 => exact H1.out
  case c3 => unfold maxLen; omega
  case c4 => omega
  case c5 => simp
  intro v' w' h2 h3 _
  go_wp2_with fail
  refine bodyPost_ret (v := v') (by simp [results, go_sem]) rfl ⟨v', rfl, ?_, ?_⟩
  · simpa using h2
  · exact ((Below.refl _ _).alloc (Nat.le_refl _) _).grown h3 (by simp) (fun k hk => by simp [Value.ownBlock] at hk; omega)
end Go.Proofs.YtfiipfcdddaceaaGreatDoor
