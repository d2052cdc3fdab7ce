import Derived.Test.YtfiipfcdddaceaaGreatDoorSx
namespace Go.Proofs.YtfiipfcdddaceaaGreatDoor
open Go.RowKit Go.Sort Go.Shelf
variable {α : Type} [Inhabited α] {T : Two α}

theorem mixed_z : Tryz.prog.follows .mixedOrders = true := by kernel_rfl

theorem swk_cmp {w0 W : World} {blk size : Nat} {dk : Array α} {cf : α → α → Int} (S : SWK (enc2 T) 2 w0 blk 0 dk W) (hC : CmpLays Tryz.prog 22 #[] (enc2 T) 2 cf blk 0 size w0) (hs : dk.size = size) (x y : α) (n : Nat) (os : Array Obj) :
    Calls Tryz.prog 22 #[.agg #[.string (T.name x), .slice (T.tp x) (T.tn x) (T.tc x)], .agg #[.string (T.name y), .slice (T.tp y) (T.tn y) (T.tc y)]] (grow (W.drewN n) os) fun e w' => e = .returned (.int .i64 (cf x y)) ∧ ∃ q os', w' = grow ((grow (W.drewN n) os).drewN q) os' := by
  have h := S.cmp hC hs x y n os
  simpa [enc2] using h

theorem swk_cells {w0 W : World} {blk : Nat} {d0 dk : Array α} (S : SWK (enc2 T) 2 w0 blk 0 dk W) (R : RowK (enc2 T) 2 w0 blk 0 d0) (hs : dk.size = d0.size) (i : Nat) (hi : i < dk.size) (x : α) (hx : dk[i]! = x) :
    (∀ n os, (grow (W.drewN n) os).cell? ⟨blk, i * 2, none⟩ = some (.string (T.name x))) ∧ (∀ n os, (grow (W.drewN n) os).cell? ⟨blk, i * 2 + 1, none⟩ = some (.slice (T.tp x) (T.tn x) (T.tc x))) :=
  ⟨fun n os => by rw [← hx]; exact (swk_two (S.grown n os) R hs i hi).1, fun n os => by rw [← hx]; exact (swk_two (S.grown n os) R hs i hi).2.1⟩

set_option maxHeartbeats 4000000 in
set_option maxRecDepth 1000000 in
theorem sym_left (cf : α → α → Int) (hO : SWO (ltOf cf)) (blk cap a m b : Nat) (hm : m = a + 1) (d0 d : Array α) (w0 w : World) (hC : CmpLays Tryz.prog 22 #[] (enc2 T) 2 cf blk 0 d0.size w0) (R : RowK (enc2 T) 2 w0 blk 0 d0) (hs : d0.size = d.size)
    (S : SWK (enc2 T) 2 w0 blk 0 d w) (hmb : m < b) (hb : b ≤ d.size) (hsz : d.size < 1099511627776) (hB : SortedIn (ltOf cf) m b d) :
    Calls Tryz.prog 156 #[.slice (some ⟨blk, 0, none⟩) d.size cap, .int .i64 a, .int .i64 m, .int .i64 b, .func (.func 22) #[] #[]] w fun e w' => e = .returned (.tuple #[]) ∧ ∃ d', (PermIn a b d d' ∧ SortedIn (ltOf cf) a b d') ∧ SWK (enc2 T) 2 w0 blk 0 d' w' := by
  have mixed := mixed_z
  have HM0 := hide hm
  have hmz : (m : Int) - (a : Int) = 1 := by omega
  have S0 := hide S
  have HB := hide hB
  have HO := hide hO
  have HC := hide hC
  have ham : a < m := by omega
  clear S hB hO hC hm
  obtain ⟨xa, hxa⟩ : ∃ x, d[a]! = x := ⟨_, rfl⟩
  have XA := hide hxa
  clear hxa
  go_enter Tryz.func156, Tryz.ntmps156
  go_wp2_with fail
  go_loopw [10, 11] (fun v u wr => ∃ i j : Nat, v = .int .i64 i ∧ u = .int .i64 j ∧ m ≤ i ∧ i ≤ j ∧ j ≤ b ∧ Hid (i = m ∨ ltOf cf d[i - 1]! d[a]! = true) ∧ Hid (j = b ∨ ltOf cf d[j]! d[a]! = false) ∧ Hid (SWK (enc2 T) 2 w0 blk 0 d wr)) (fun v u _ => (intOf u).toNat - (intOf v).toNat)
  case atStart => exact ⟨m, b, rfl, rfl, Nat.le_refl _, by omega, Nat.le_refl _, Or.inl rfl, Or.inl rfl, S0.out⟩
  case round =>
    clear S0
    obtain ⟨i, j, rfl, rfl, hai, hij, hjb, H1, H2, S1⟩ := hrel
    by_cases hlt : i < j
    · obtain ⟨h, hh⟩ : ∃ h, (i + j) / 2 = h := ⟨_, rfl⟩
      have ehz : ((i : Int) + (j : Int)) / 2 = (h : Int) := by omega
      obtain ⟨xh, hxh⟩ : ∃ x, d[h]! = x := ⟨_, rfl⟩
      have XH := hide hxh
      obtain ⟨c0, c1⟩ := swk_cells S1.out R (by omega) h (by omega) xh hxh
      obtain ⟨a0, a1⟩ := swk_cells S1.out R (by omega) a (by omega) xa XA.out
      have hc := fun n os => swk_cmp S1.out HC.out (by omega) xh xa n os
      have hih : i ≤ h ∧ h < j := by omega
      have bh : (h : Int) < (d.size : Int) := by omega
      have ba : (a : Int) < (d.size : Int) := by omega
      clear hxh hh
      by_cases hlv : cf xh xa < 0
      · go_wp2_with fail
        go_quiet_grown (first | (go_at_call 22; refine Calls.grown_of (hc _ _)))
        go_wp2_with fail
        refine ⟨⟨h + 1, j, by go_num, rfl, by omega, by omega, by omega, ?_, H2, S1.out.grown nq osq⟩, by simp [intOf]; omega⟩
        refine Or.inr ?_
        rw [Nat.add_sub_cancel, XH.out, XA.out]
        exact decide_eq_true hlv
      · go_wp2_with fail
        go_quiet_grown (first | (go_at_call 22; refine Calls.grown_of (hc _ _)))
        go_wp2_with fail
        refine ⟨⟨i, h, rfl, rfl, by omega, by omega, by omega, H1, ?_, S1.out.grown nq osq⟩, by simp [intOf]; omega⟩
        refine Or.inr ?_
        rw [XH.out, XA.out]
        exact decide_eq_false (by omega)
    · obtain rfl : i = j := by omega
      have HM : Hid (∀ d', Rotd a (a + 1) i d d' → PermIn a b d d' ∧ SortedIn (ltOf cf) a b d') := fun d' h => by
        have e := HM0.out
        have hb2 := HB.out
        have h3 := H1.out
        rw [e] at hb2 h3
        exact merge_one_left HO.out hb2 (by omega) hjb hb h3 H2.out h
      clear HB HO HC H1 H2
      go_wp2_with fail
      go_loopw [13] (fun v wr2 => ∃ k : Nat, ∃ dk : Array α, v = .int .i64 k ∧ a ≤ k ∧ k + 1 ≤ i ∧ dk.size = d.size ∧ Hid (Rotd a (a + 1) (k + 1) d dk) ∧ Hid (SWK (enc2 T) 2 w0 blk 0 dk wr2)) (fun v _ => i - (intOf v).toNat)
      case atStart => exact ⟨a, d, rfl, Nat.le_refl _, by omega, rfl, Rotd.right a (a + 1) d, S1.out⟩
      case round =>
        clear S1
        obtain ⟨k, dk, rfl, hak, hki, hds, H3, S1⟩ := hrel
        by_cases hlt2 : k + 1 < i
        · obtain ⟨x0, x1, xf0, xf1⟩ := swk_two S1.out R (by omega) k (by omega)
          obtain ⟨y0, y1, yf0, yf1⟩ := swk_two S1.out R (by omega) (k + 1) (by omega)
          have S2 : Hid (SWK (enc2 T) 2 w0 blk 0 (swp dk k (k + 1)) ((wr.drew.setCells blk (0 + k * 2) (enc2 T dk[k + 1]!)).setCells blk (0 + (k + 1) * 2) (enc2 T dk[k]!))) := S1.out.swapped R k (k + 1) (by omega) (by omega)
          clear S1
          go_wp2_with fail
          go_big_region
          clear x0 x1 xf0 xf1 y0 y1 yf0 yf1
          go_wp2_with fail
          refine ⟨⟨k + 1, swp dk k (k + 1), by go_num, by omega, by omega, by rw [size_swp]; exact hds, H3.out.up hak (by omega), ?_⟩, by simp [intOf]; omega⟩
          have h := S2.out
          simp only [World.setCells, enc2, Nat.zero_add] at h
          exact h
        · obtain rfl : i = k + 1 := by omega
          go_wp2_with fail
          refine bodyPost_ret (v := .tuple #[]) (by simp [results, go_sem]) rfl ?_
          exact ⟨rfl, dk, HM.out _ H3.out, S1.out⟩
end Go.Proofs.YtfiipfcdddaceaaGreatDoor
