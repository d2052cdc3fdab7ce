import Derived.Test.YtfiipfcdddaceaaGreatDoorQ9Pn
namespace Go.Proofs.YtfiipfcdddaceaaGreatDoor
open Go.RowKit

/-- The two texts of the law's own plain program. -/
def S1 : ByteArray := ⟨#[112, 40, 88, 41, 32, 58, 45, 32, 113, 40, 88, 44, 49, 41, 44, 32, 33, 114, 44, 32, 88, 33, 61, 97, 46]⟩
def S2 : ByteArray := ⟨#[112, 32, 40, 32, 49, 32, 41, 58, 45, 113, 32, 46]⟩

def tX : Tm := ⟨0, 0, ⟨#[88]⟩⟩
def t1 : Tm := ⟨1, 1, ⟨#[]⟩⟩

theorem plain1 : ∀ j (h : j < S1.size), ((S1[j].toNat : Int) == 37) = false := by decide +kernel
theorem plain2 : ∀ j (h : j < S2.size), ((S2[j].toNat : Int) == 37) = false := by decide +kernel

theorem lit1 : LitAt S1 8 14 (fun cs => 2 = 0 → cs = litCells ⟨#[113]⟩ (.slice none 0 0)) := by
  refine lit_atom S1 8 9 14 2 ⟨#[113]⟩ (fun k => if k = 0 then tX else t1) (by decide +kernel) (by kernel_rfl) (.inr (by decide +kernel)) ?_
  exact termsAt_some S1 9 1 (fun k => if k = 0 then tX else t1) (fun k => if k = 0 then 11 else 13) (by omega) (by kernel_rfl) ⟨11, by kernel_rfl, by kernel_rfl⟩
    (fun k hk => by obtain rfl : k = 0 := by omega
                    exact ⟨by kernel_rfl, 13, by kernel_rfl, by kernel_rfl⟩) (by kernel_rfl)

theorem lit2 : LitAt S1 16 18 (fun _ => True) :=
  lit_not S1 16 18 0 (fun _ => tX) (by kernel_rfl) (by decide +kernel) (by kernel_rfl) (termsAt_none S1 18 (fun _ => tX) (by decide +kernel))
theorem lit3 : LitAt S1 20 24 (fun _ => True) :=
  lit_op S1 20 21 2 24 tX ⟨2, 0, ⟨#[97]⟩⟩ (by decide +kernel) (by kernel_rfl) (by kernel_rfl) (by omega) (by omega) (by kernel_rfl)

theorem body1 : BodyAt S1 8 25 2 (fun cs => 2 = 0 → cs = litCells ⟨#[113]⟩ (.slice none 0 0)) :=
  body_ok S1 8 2 (fun k => if k = 0 then 14 else if k = 1 then 18 else 24) _ (by omega) lit1
    (fun k hk => by
      have h : k = 0 ∨ k = 1 := by omega
      rcases h with rfl | rfl
      · exact ⟨by kernel_rfl, lit2⟩
      · exact ⟨by kernel_rfl, lit3⟩) (by kernel_rfl)

theorem clause1 : ClauseAt S1 0 25 1 2 ⟨#[112]⟩ (fun _ => tX) (fun cs => 2 = 0 → cs = litCells ⟨#[113]⟩ (.slice none 0 0)) :=
  clause_ok S1 0 5 25 1 2 (fun _ => tX) _ (by decide +kernel) (by kernel_rfl)
    (termsAt_some S1 1 0 (fun _ => tX) (fun _ => 3) (by omega) (by kernel_rfl) ⟨3, by kernel_rfl, by kernel_rfl⟩ (fun k hk => by omega) (by kernel_rfl)) (by kernel_rfl) body1

theorem clause2 : ClauseAt S2 0 12 1 0 ⟨#[112]⟩ (fun _ => t1) (fun cs => 0 = 0 → cs = litCells ⟨#[113]⟩ (.slice none 0 0)) :=
  clause_ok S2 0 7 12 1 0 (fun _ => t1) _ (by decide +kernel) (by kernel_rfl)
    (termsAt_some S2 2 0 (fun _ => t1) (fun _ => 6) (by omega) (by kernel_rfl) ⟨5, by kernel_rfl, by kernel_rfl⟩ (fun k hk => by omega) (by kernel_rfl)) (by kernel_rfl)
    (body_ok S2 9 0 (fun _ => 11) _ (by omega)
      (lit_atom S2 9 10 11 0 ⟨#[113]⟩ (fun _ => t1) (by decide +kernel) (by kernel_rfl) (.inr (by decide +kernel)) (termsAt_none S2 11 (fun _ => t1) (by decide +kernel)))
      (fun k hk => by omega) (by kernel_rfl))

theorem parse1 (w : World) (hm : Mk w) :
    Calls Tryz.prog 14 #[.string S1] w fun e w' => ∃ g cap ab cb, e = .returned (.tuple #[.agg #[.slice (some ⟨g, 0, none⟩) 1 cap, .slice none 0 0], .int .i64 0, .int .i64 0]) ∧ w'.cell? ⟨g, 2, none⟩ = some (.slice ab 3 cb) ∧ Below w.heap.size w w' :=
  parse_ok S1 1 2 ⟨#[112]⟩ (fun _ => tX) (fun cs => 2 = 0 → cs = litCells ⟨#[113]⟩ (.slice none 0 0)) w (by decide +kernel) plain1 hm (by decide +kernel) (by decide +kernel) clause1

theorem plain_1 : plainL t1 = [49] := by
  simp [plainL, t1, Lib.itoa]
  rw [Lib.decDigits]
  rfl
theorem show_1 : showA ⟨#[112]⟩ (fun _ => t1) 1 = ⟨#[112, 40, 49, 41]⟩ := by
  have h : pstrs (fun _ => t1) 1 = [⟨#[49]⟩] := by simp [pstrs, pstr, plain_1]
  simp only [showA, h]
  rfl
theorem print1 (w : World) (hm : Tabs w) :
    Calls Tryz.prog 19 #[.string S2] w fun e w' => e = .returned (.tuple #[.string ⟨#[112, 40, 49, 41, 32, 58, 45, 32, 113, 46, 10]⟩, .int .i64 0, .int .i64 0]) ∧ Below w.heap.size w w' := by
  have h := print_ok S2 ⟨#[112]⟩ ⟨#[113]⟩ (fun _ => t1) w (by decide +kernel) plain2 hm.mks (by decide +kernel) (by decide +kernel) (by rw [show_1]; decide +kernel) ⟨by decide, by decide, by decide +kernel⟩ (by rw [pstr, plain_1]; decide +kernel) hm.pow (by decide +kernel) (by decide +kernel) clause2
  have e : clauseS ⟨#[112]⟩ ⟨#[113]⟩ (fun _ => t1) = ⟨#[112, 40, 49, 41, 32, 58, 45, 32, 113, 46, 10]⟩ := by
    rw [clauseS, show_1]
    rfl
  rw [e] at h
  exact h

set_option maxHeartbeats 1000000 in
theorem num_any (n : Int) (w : World) : Calls Tryz.prog 17 #[.int .i64 n] w fun e w' => e = .returned (.int .i64 n) ∧ w' = w := by
  go_enter Tryz.func17, Tryz.ntmps17
  go_wp2
  go_ret
  exact ⟨rfl, rfl⟩

theorem Tabs.below {w w' : World} (h : Tabs w) (hb : Below w.heap.size w w') : Tabs w' := ⟨h.mks.below hb, tab_below h.pow hb⟩

set_option maxRecDepth 100000 in
set_option maxHeartbeats 2000000 in
theorem alive_true (w : World) (hm : Tabs w) :
    Calls Tryz.prog 18 #[] w fun e w' => e = .returned (.bool true) ∧ Below w.heap.size w w' := by
  have H1 := hide (parse1 w hm.mks)
  have H2 := hide (fun w h => print1 w h)
  have HM := hide hm
  clear hm
  unfold S1 S2 at *
  go_enter Tryz.func18, Tryz.ntmps18
  go_wp2_with fail
  refine H1.out.mono ?_
  rintro x w1 ⟨g, cap, ab, cb, rfl, hc, hb⟩
  have hgl : g < w1.heap.size := by
    rcases Nat.lt_or_ge g w1.heap.size with h' | h'
    · exact h'
    · simp [World.cell?, Array.getElem?_eq_none h'] at hc
  have HB := hide hb
  clear hb
  go_wp2_with fail
  refine (H2.out _ (HM.out.below (HB.out.alloc (by have := HB.out.size; omega) _))).mono ?_
  rintro x w2 ⟨rfl, hb2⟩
  have d0 := fun o => hb2.cell (p := ⟨w1.heap.size, o, none⟩) (by simp)
  have d1 : w2.cell? ⟨g, 2, none⟩ = some (.slice ab 3 cb) := (hb2.cell (p := ⟨g, 2, none⟩) (by simp; omega)).trans ((cell_alloc_old _ _ _ _ hgl).trans hc)
  have HB2 := hide hb2
  clear hb2 hc
  go_wp2_with (go_at_call 17; refine (num_any _ _).mono ?_; rintro e w' ⟨rfl, rfl⟩)
  go_ret
  exact ⟨rfl, (HB.out.alloc (by have := HB.out.size; omega) _).trans (HB2.out.mono (by have := HB.out.size; simp; omega))⟩
end Go.Proofs.YtfiipfcdddaceaaGreatDoor
