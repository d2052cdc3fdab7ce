import Derived.Test.YtfiipfcdddaceaaGreatDoorSy
import Derived.Sort.WalkA
namespace Go.Proofs.YtfiipfcdddaceaaGreatDoor
open Go.RowKit Go.Sort Go.Shelf
variable {α : Type} [Inhabited α] {T : Two α}

set_option maxHeartbeats 4000000 in
set_option maxRecDepth 1000000 in
theorem ins_any (cf : α → α → Int) (blk cap a b : Nat) (d0 d : Array α) (w0 w : World) (hC : CmpLays Tryz.prog 22 #[] (enc2 T) 2 cf blk 0 d0.size w0) (R : RowK (enc2 T) 2 w0 blk 0 d0) (hs : d0.size = d.size)
    (S : SWK (enc2 T) 2 w0 blk 0 d w) (hab : a ≤ b) (hb : b ≤ d.size) (hsz : d.size < 1099511627776) :
    Calls Tryz.prog 155 #[.slice (some ⟨blk, 0, none⟩) d.size cap, .int .i64 a, .int .i64 b, .func (.func 22) #[] #[]] w fun e w' => e = .returned (.tuple #[]) ∧ SWK (enc2 T) 2 w0 blk 0 (Sort.insertionSort (ltOf cf) d a b) w' := by
  have mixed := mixed_z
  have S0 := hide S
  have HC := hide hC
  clear S hC
  go_enter Tryz.func155, Tryz.ntmps155
  go_wp2_with fail
  go_loopw [8] (fun v wr => ∃ i : Nat, ∃ dk : Array α, v = .int .i64 i ∧ a < i ∧ i ≤ b + 1 ∧ dk.size = d.size ∧ Hid (insOuter (ltOf cf) a b i dk = insOuter (ltOf cf) a b (a + 1) d) ∧ Hid (SWK (enc2 T) 2 w0 blk 0 dk wr)) (fun v _ => b + 1 - (intOf v).toNat)
  case atStart => exact ⟨a + 1, d, by go_num, by omega, by omega, rfl, rfl, S0.out⟩
  case round =>
    clear S0
    obtain ⟨i, dk, rfl, hai, hib, hds, HO, S1⟩ := hrel
    by_cases hlt : i < b
    · go_wp2_with fail
      go_loopw [9] (fun v wr2 => ∃ j : Nat, ∃ dj : Array α, v = .int .i64 j ∧ a ≤ j ∧ j ≤ i ∧ dj.size = d.size ∧ Hid (insInner (ltOf cf) a j dj = insInner (ltOf cf) a i dk) ∧ Hid (SWK (enc2 T) 2 w0 blk 0 dj wr2)) (fun v _ => (intOf v).toNat)
      case atStart => exact ⟨i, dk, rfl, by omega, Nat.le_refl _, hds, rfl, S1.out⟩
      case round =>
        clear S1
        obtain ⟨j, dj, rfl, haj, hji, hsj, HI, S1⟩ := hrel
        have OUT : Hid ((j ≤ a ∨ ltOf cf dj[j]! dj[j - 1]! = false) → insOuter (ltOf cf) a b (i + 1) dj = insOuter (ltOf cf) a b (a + 1) d) := fun h => by
          rw [← HO.out, insOuter_go _ _ _ _ _ hlt, ← HI.out, insInner_stop _ _ _ _ h]
        by_cases hja : a < j
        · obtain ⟨jp, rfl⟩ : ∃ jp, j = jp + 1 := ⟨j - 1, by omega⟩
          obtain ⟨xj, hxj⟩ : ∃ x, dj[jp + 1]! = x := ⟨_, rfl⟩
          obtain ⟨xp, hxp⟩ : ∃ x, dj[jp]! = x := ⟨_, rfl⟩
          obtain ⟨c0, c1⟩ := swk_cells S1.out R (by omega) (jp + 1) (by omega) xj hxj
          obtain ⟨a0, a1⟩ := swk_cells S1.out R (by omega) jp (by omega) xp hxp
          have hc := fun n os => swk_cmp S1.out HC.out (by omega) xj xp n os
          have XX := hide (And.intro hxj hxp)
          have e0 : ((jp : Int) + 1).toNat = jp + 1 := by omega
          have jz : (jp : Int) + 1 < (d.size : Int) := by omega
          have jz1 : (jp : Int) < (d.size : Int) := by omega
          have ja : (a : Int) < (jp : Int) + 1 := by omega
          have p0 : (0 : Int) ≤ (jp : Int) + 1 := by omega
          have wj : IntKind.i64.wrap (jp : Int) = (jp : Int) := by rw [IntKind.wrap_i64]; omega
          clear hxj hxp
          by_cases hlv : cf xj xp < 0
          · go_wp2_with fail
            go_quiet_grown (first | (go_at_call 22; refine Calls.grown_of (hc _ _)))
            have S2 := hide (S1.out.grown nq osq)
            clear S1 c0 c1 a0 a1 hc
            generalize grow (wr.drewN nq) osq = wq at S2 ⊢
            go_wp2_with fail
            obtain ⟨x0, x1, xf0, xf1⟩ := swk_two S2.out R (by omega) (jp + 1) (by omega)
            obtain ⟨y0, y1, yf0, yf1⟩ := swk_two S2.out R (by omega) jp (by omega)
            have S3 : Hid (SWK (enc2 T) 2 w0 blk 0 (swp dj (jp + 1) jp) ((wq.drew.setCells blk (0 + (jp + 1) * 2) (enc2 T dj[jp]!)).setCells blk (0 + jp * 2) (enc2 T dj[jp + 1]!))) := S2.out.swapped R (jp + 1) jp (by omega) (by omega)
            clear S2
            go_big_region
            clear x0 x1 xf0 xf1 y0 y1 yf0 yf1
            go_wp2_with fail
            refine ⟨⟨jp, swp dj (jp + 1) jp, by go_num, by omega, by omega, by rw [size_swp]; exact hsj, ?_, ?_⟩, by simp [intOf]⟩
            · have e := insInner_go (ltOf cf) a (jp + 1) dj hja (by rw [Nat.add_sub_cancel, XX.out.1, XX.out.2]; exact decide_eq_true hlv)
              rw [Nat.add_sub_cancel] at e
              show _ = _
              rw [← HI.out, e]
            · have h := S3.out
              simp only [World.setCells, enc2, Nat.zero_add] at h
              exact h
          · have hnl : decide (cf xj xp < 0) = false := decide_eq_false (by omega)
            go_wp2_with fail
            go_quiet_grown (first | (go_at_call 22; refine Calls.grown_of (hc _ _)))
            go_wp2_with fail
            refine ⟨⟨i + 1, dj, by go_num, by omega, by omega, hsj, OUT.out (Or.inr ?_), S1.out.grown nq osq⟩, by simp [intOf]; omega⟩
            rw [Nat.add_sub_cancel, XX.out.1, XX.out.2]
            exact decide_eq_false (by omega)
        · have hjn : ¬ (a : Int) < (j : Int) := by omega
          go_wp2_with fail
          go_big_region
          go_wp2_with fail
          refine ⟨⟨i + 1, dj, by go_num, by omega, by omega, hsj, OUT.out (Or.inl (by omega)), S1.out.drew⟩, by simp [intOf]; omega⟩
    · go_wp2_with fail
      go_end0
      refine ⟨rfl, ?_⟩
      have e : Sort.insertionSort (ltOf cf) d a b = dk := by
        unfold Sort.insertionSort
        rw [← HO.out, insOuter_stop _ _ _ _ _ hlt]
      rw [e]
      exact S1.out
end Go.Proofs.YtfiipfcdddaceaaGreatDoor
