import Derived.Test.YtfiipfcdddaceaaDoorSh
namespace Go.Proofs.YtfiipfcdddaceaaDoor
open Go.RowKit

set_option maxHeartbeats 1000000 in
theorem showLit (nm : ByteArray) (w : World) :
    Calls Tryd.prog 40 #[.agg #[.bool false, .string ⟨#[]⟩, .string nm, .slice none 0 0, .int .i64 0, .int .i64 0, .string ⟨#[]⟩, .int .i64 0, .int .i64 0, .string ⟨#[]⟩]] w fun e w' => e = .returned (.string nm) ∧ Below w.heap.size w w' := by
  have HS := hide (fun w => show_none nm none 0 w)
  go_enter Tryd.func40, Tryd.ntmps40
  go_wp2_with fail
  refine (HS.out _).mono ?_
  rintro x w1 ⟨rfl, hb⟩
  have HB := hide hb
  clear hb
  go_wp2_with fail
  go_ret
  exact ⟨rfl, ((Below.refl _ _).alloc (Nat.le_refl _) _).trans (HB.out.mono (by simp))⟩

set_option maxRecDepth 100000 in
set_option maxHeartbeats 2000000 in
theorem showBody_one (nm : ByteArray) (g cap : Nat) (w : World) (hg : g < w.heap.size)
    (h0 : w.cell? ⟨g, 0, none⟩ = some (.bool false)) (h1 : w.cell? ⟨g, 1, none⟩ = some (.string ⟨#[]⟩)) (h2 : w.cell? ⟨g, 2, none⟩ = some (.string nm)) (h3 : w.cell? ⟨g, 3, none⟩ = some (.slice none 0 0))
    (h4 : w.cell? ⟨g, 4, none⟩ = some (.int .i64 0)) (h5 : w.cell? ⟨g, 5, none⟩ = some (.int .i64 0)) (h6 : w.cell? ⟨g, 6, none⟩ = some (.string ⟨#[]⟩)) (h7 : w.cell? ⟨g, 7, none⟩ = some (.int .i64 0)) (h8 : w.cell? ⟨g, 8, none⟩ = some (.int .i64 0)) (h9 : w.cell? ⟨g, 9, none⟩ = some (.string ⟨#[]⟩)) :
    Calls Tryd.prog 31 #[.slice (some ⟨g, 0, none⟩) 1 cap] w fun e w' => e = .returned (.string nm) ∧ Below w.heap.size w w' := by
  obtain ⟨i0, hi, hz0, hz1, hz2⟩ := info_parts (P := Tryd.prog) (e := 9) (z := .string ⟨#[]⟩) (size := 1) (bytes := 16) (by kernel_rfl)
  have HL := hide (fun w => showLit nm w)
  go_enter Tryd.func31, Tryd.ntmps31
  go_wp2_with fail
  go_loopw [3, 8] (fun v i wr => (i = .int .i64 0 ∧ v = .slice none 0 0 ∧ wr = w) ∨ (i = .int .i64 1 ∧ wr.ownsRow w.heap.size 9 1 v 1 [.string nm] ∧ Below w.heap.size w wr)) (fun _ i _ => 1 - (intOf i).toNat)
  case atStart => exact .inl ⟨rfl, rfl, rfl⟩
  case round =>
    rcases hrel with ⟨rfl, rfl, rfl⟩ | ⟨rfl, hown, hbw⟩
    · go_wp2_with fail
      refine (HL.out _).mono ?_
      rintro x w2 ⟨rfl, hb2⟩
      have hzz2 := hb2.size
      simp at hzz2
      have hown2 : w2.ownsRow wr.heap.size 9 1 (.slice none 0 0) 0 [] := ⟨rfl, .inl ⟨rfl, rfl⟩⟩
      have HW2 : Hid (Below wr.heap.size wr w2) := ((Below.refl _ _).alloc (Nat.le_refl _) _).trans (hb2.mono (by simp))
      clear hb2 h0 h1 h2 h3 h4 h5 h6 h7 h8 h9
      go_wp2_with (at_builtin; refine wpList_append_own _ rfl _ _ 40 rfl wr.heap.size 9 i0 (.string ⟨#[]⟩) 1 16 Tryd.underlying40 hi hz0 hz1 hz2 rfl (by decide) _ _ _ rfl (hown2.alloc _) ⟨w2.heap.size, 0, none⟩ 1 1 [.string nm] rfl rfl ?c1 ?c2 ?c3 ?c4 ?c5 ?_)
      case c1 =>
        intro j u hj
        match j, hj with
        | 0, hj => simp at hj; subst hj; simp [Addr.add]
      case c2 => intro u hu; simp at hu; subst hu; rfl
      case c3 => unfold maxLen; omega
      case c4 => omega
      case c5 => simp; omega
      intro v' w5 hown' hgrow _
      go_wp2_with fail
      refine ⟨.inr ⟨rfl, hown', ?_⟩, by simp [intOf]⟩
      exact (HW2.out.alloc (by omega) _).grown hgrow (by simp; omega) (fun j hj => by cases hj)
    · obtain ⟨gr, cp, rfl⟩ := own_shape (n := 0) hown
      have HJ := hide (join_one ⟨#[44, 32]⟩ nm ⟨gr, 0, none⟩ cp wr (own_cell hown 0 rfl))
      have HW := hide hbw
      clear hown hbw
      go_wp2_with fail
      refine HJ.out.mono ?_
      rintro x w2 ⟨rfl, hw2⟩
      have HW2 : Hid (Below w.heap.size w w2) := by rw [hw2]; exact HW.out
      clear hw2
      go_wp2_with fail
      go_ret
      exact ⟨rfl, HW2.out⟩

set_option maxRecDepth 100000 in
set_option maxHeartbeats 4000000 in
theorem showClause_one (nm n2 S1 : ByteArray) (g c gb cb : Nat) (w : World) (hs1 : S1.size ≤ 1000) (hs2 : n2.size ≤ 1000)
    (HS : ∀ W, Below w.heap.size w W → Calls Tryd.prog 6 #[.agg #[.string nm, .slice (some ⟨g, 0, none⟩) 1 c]] W fun e w' => e = .returned (.string S1) ∧ Below W.heap.size W w')
    (HB : ∀ W, Below w.heap.size w W → Calls Tryd.prog 31 #[.slice (some ⟨gb, 0, none⟩) 1 cb] W fun e w' => e = .returned (.string n2) ∧ Below W.heap.size W w') :
    Calls Tryd.prog 29 #[.agg #[.string nm, .slice (some ⟨g, 0, none⟩) 1 c, .slice (some ⟨gb, 0, none⟩) 1 cb]] w fun e w' => e = .returned (.string (S1 ++ ⟨#[32, 58, 45, 32]⟩ ++ n2 ++ ⟨#[46, 10]⟩)) ∧ Below w.heap.size w w' := by
  have H1 := hide HS
  have H2 := hide HB
  clear HS HB
  go_enter Tryd.func29, Tryd.ntmps29
  go_wp2_with fail
  go_region_with (first | (go_at_call 6; refine (H1.out _ ?_).mono ?_; (exact ((Below.refl _ _).alloc (Nat.le_refl _) _).drew); rintro x w1 ⟨rfl, hb1⟩; obtain ⟨hc1, hf1⟩ := bcell hb1) | (go_at_call 31; refine (H2.out _ ?_).mono ?_; (exact ((Below.refl _ _).alloc (Nat.le_refl _) _).drew.trans (hb1.mono (by simp))); rintro x w2 ⟨rfl, hb2⟩; obtain ⟨hc2, hf2⟩ := bcell hb2))
  all_goals
    have hz1 := hb1.size
    simp at hz1
    go_wp2_with fail
    go_ret
    exact ⟨rfl, (((Below.refl _ _).alloc (Nat.le_refl _) _).drew.trans (hb1.mono (by simp))).trans (hb2.mono (by omega))⟩
end Go.Proofs.YtfiipfcdddaceaaDoor
