import Derived.Test.YtfiipfcdddaceaaGreatDoorSv
namespace Go.Proofs.YtfiipfcdddaceaaGreatDoor
open Go.RowKit Go.Sort Go.Shelf
variable {α : Type} [Inhabited α] {T : Two α}

set_option maxHeartbeats 8000000 in
set_option maxRecDepth 1000000 in
theorem sym_mid (cf : α → α → Int) (hO : SWO (ltOf cf)) (blk cap a m b : Nat) (d0 d : Array α) (w0 w : World) (hC : CmpLays Tryz.prog 22 #[] (enc2 T) 2 cf blk 0 d0.size w0) (R : RowK (enc2 T) 2 w0 blk 0 d0) (hs : d0.size = d.size)
    (S : SWK (enc2 T) 2 w0 blk 0 d w) (ham : a + 1 < m) (hmb : m + 1 < b) (hb : b ≤ d.size) (hsz : d.size < 1099511627776) (hA : SortedIn (ltOf cf) a m d) (hB : SortedIn (ltOf cf) m b d)
    (IH : ∀ (a' m' b' : Nat) (d' : Array α) (w' : World), b' - a' < b - a → d0.size = d'.size → SWK (enc2 T) 2 w0 blk 0 d' w' → a' < m' → m' < b' → b' ≤ d'.size → SortedIn (ltOf cf) a' m' d' → SortedIn (ltOf cf) m' b' d' →
      Calls Tryz.prog 156 #[.slice (some ⟨blk, 0, none⟩) d'.size cap, .int .i64 a', .int .i64 m', .int .i64 b', .func (.func 22) #[] #[]] w' fun e w'' => e = .returned (.tuple #[]) ∧ ∃ d'', (PermIn a' b' d' d'' ∧ SortedIn (ltOf cf) a' b' d'') ∧ SWK (enc2 T) 2 w0 blk 0 d'' w'') :
    Calls Tryz.prog 156 #[.slice (some ⟨blk, 0, none⟩) d.size cap, .int .i64 a, .int .i64 m, .int .i64 b, .func (.func 22) #[] #[]] w fun e w' => e = .returned (.tuple #[]) ∧ ∃ d', (PermIn a b d d' ∧ SortedIn (ltOf cf) a b d') ∧ SWK (enc2 T) 2 w0 blk 0 d' w' := by
  have mixed := mixed_z
  have hbz : ((b : Int) - (m : Int) == 1) = false := by simp; omega
  have hmz : ((m : Int) - (a : Int) == 1) = false := by simp; omega
  obtain ⟨mid, hmid⟩ : ∃ x, (a + b) / 2 = x := ⟨_, rfl⟩
  have emid : ((a : Int) + (b : Int)) / 2 = (mid : Int) := by omega
  have S0 := hide S
  have HA := hide hA
  have HB := hide hB
  have HO := hide hO
  have HC := hide hC
  have HI := hide IH
  have hm1 : a < mid ∧ mid < b := by omega
  have HMID := hide hmid
  clear S hA hB hO hC IH hmid
  go_enter Tryz.func156, Tryz.ntmps156
  go_upto_if 140 with fail
  go_cut [20, 21] from 25 (fun v u wx => ∃ s0 r0 : Nat, v = .int .i64 s0 ∧ u = .int .i64 r0 ∧ wx = w ∧ a ≤ s0 ∧ s0 ≤ r0 ∧ r0 ≤ m ∧ r0 ≤ mid ∧ mid + m ≤ s0 + b ∧ (s0 = a ∨ mid + m - s0 = b) ∧ (r0 = m ∨ mid + m - r0 = m))
  case first =>
    by_cases hgt : mid < m
    · go_wp2_with fail
      go_meet
      case rel => exact ⟨mid + m - b, mid, by go_num, rfl, rfl, by have := HMID.out; omega, by omega, by omega, Nat.le_refl _, by omega, Or.inr (by have := HMID.out; omega), Or.inr (by omega)⟩
    · go_wp2_with fail
      go_meet
      case rel => exact ⟨a, m, rfl, rfl, rfl, Nat.le_refl _, by omega, Nat.le_refl _, by omega, by have := HMID.out; omega, Or.inl rfl, Or.inl rfl⟩
  case rest =>
    obtain ⟨s0, r0, rfl, rfl, rfl, k1, k2, k3, k4, k5, k6, k7⟩ := hcut
    go_wp2_with fail
    go_loopw [20, 21] (fun v u wr => ∃ s r : Nat, v = .int .i64 s ∧ u = .int .i64 r ∧ s0 ≤ s ∧ s ≤ r ∧ r ≤ r0 ∧ Hid (s = s0 ∨ ltOf cf d[mid + m - s]! d[s - 1]! = false) ∧ Hid (r = r0 ∨ ltOf cf d[mid + m - 1 - r]! d[r]! = true) ∧ Hid (SWK (enc2 T) 2 w0 blk 0 d wr)) (fun v u _ => (intOf u).toNat - (intOf v).toNat)
    case atStart => exact ⟨s0, r0, rfl, rfl, Nat.le_refl _, k2, Nat.le_refl _, Or.inl rfl, Or.inl rfl, S0.out⟩
    case round =>
      clear S0
      obtain ⟨s, r, rfl, rfl, hsl, hsr, hrr, H1, H2, S1⟩ := hrel
      by_cases hlt : s < r
      · obtain ⟨c, hc0⟩ : ∃ c, (s + r) / 2 = c := ⟨_, rfl⟩
        have ecz : ((s : Int) + (r : Int)) / 2 = (c : Int) := by omega
        have hsc : s ≤ c ∧ c < r := by omega
        obtain ⟨q, hq⟩ : ∃ q, mid + m - 1 - c = q := ⟨_, rfl⟩
        have eqz : (mid : Int) + (m : Int) - 1 - (c : Int) = (q : Int) := by omega
        have hqb : q < d.size := by omega
        have rq : IntKind.i64.wrap ((mid : Int) + (m : Int) - 1 - (c : Int)) = (q : Int) := by rw [IntKind.wrap_i64]; omega
        have rq2 : IntKind.i64.wrap (q : Int) = (q : Int) := by rw [IntKind.wrap_i64]; omega
        obtain ⟨xq, hxq⟩ : ∃ x, d[q]! = x := ⟨_, rfl⟩
        obtain ⟨xc, hxc⟩ : ∃ x, d[c]! = x := ⟨_, rfl⟩
        obtain ⟨c0, c1⟩ := swk_cells S1.out R (by omega) q (by omega) xq hxq
        obtain ⟨a0, a1⟩ := swk_cells S1.out R (by omega) c (by omega) xc hxc
        have hc := fun n os => swk_cmp S1.out HC.out (by omega) xq xc n os
        have bh : (q : Int) < (d.size : Int) := by omega
        have ba : (c : Int) < (d.size : Int) := by omega
        have XX := hide (And.intro hxq (And.intro hxc hq))
        clear hxq hxc hq hc0
        by_cases hlv : cf xq xc < 0
        · go_wp2_with fail
          go_quiet_grown (first | (go_at_call 22; refine Calls.grown_of (hc _ _)))
          go_wp2_with fail
          refine ⟨⟨s, c, rfl, rfl, by omega, by omega, by omega, H1, ?_, S1.out.grown nq osq⟩, by simp [intOf]; omega⟩
          refine Or.inr ?_
          rw [XX.out.2.2, XX.out.1, XX.out.2.1]
          exact decide_eq_true hlv
        · have hnl : decide (cf xq xc < 0) = false := decide_eq_false (by omega)
          go_wp2_with fail
          go_quiet_grown (first | (go_at_call 22; refine Calls.grown_of (hc _ _)))
          go_wp2_with fail
          refine ⟨⟨c + 1, r, by go_num, rfl, by omega, by omega, by omega, ?_, H2, S1.out.grown nq osq⟩, by simp [intOf]; omega⟩
          refine Or.inr ?_
          have e := XX.out.2.2
          rw [Nat.add_sub_cancel, show mid + m - (c + 1) = q by omega, XX.out.1, XX.out.2.1]
          exact decide_eq_false (by omega)
      · obtain rfl : s = r := by omega
        obtain ⟨e, he⟩ : ∃ e, mid + m - s = e := ⟨_, rfl⟩
        have eez : (mid : Int) + (m : Int) - (s : Int) = (e : Int) := by omega
        have hL : Hid (s = a ∨ e = b ∨ ltOf cf d[e]! d[s - 1]! = false) := by
          rcases H1.out with h | h
          · subst h
            rcases k6 with h | h
            · exact Or.inl h
            · exact Or.inr (Or.inl (by omega))
          · rw [he] at h; exact Or.inr (Or.inr h)
        have hR : Hid (s = m ∨ e = m ∨ ltOf cf d[e - 1]! d[s]! = true) := by
          rcases H2.out with h | h
          · subst h
            rcases k7 with h | h
            · exact Or.inl h
            · exact Or.inr (Or.inl (by omega))
          · rw [show mid + m - 1 - s = e - 1 by omega] at h; exact Or.inr (Or.inr h)
        have j1 : a ≤ s ∧ s ≤ m ∧ m ≤ e ∧ e ≤ b ∧ s ≤ mid ∧ mid ≤ e := by omega
        have j2 : s + (e - m) = mid := by omega
        have J2 := hide j2
        clear H1 H2 k1 k2 k3 k4 k5 k6 k7 hsl hsr hrr hlt he j2
        go_upto_region 38 with fail
        go_cut [20, 24] from 25 (fun v t wx => v = .int .i64 s ∧ t = .int .i64 e ∧ wx = wr)
        case first =>
          go_wp2_with fail
          go_meet
          case rel => exact ⟨rfl, rfl, rfl⟩
        case rest =>
          obtain ⟨rfl, rfl, rfl⟩ := hcut
          apply_assumption
          exact sym_tail cf HO.out blk cap a m b mid s e d0 d w0 _ R hs S1.out hm1 hb hsz HA.out HB.out hL hR j1 J2.out HI.out _ rfl _ _ _ _ _ _ _ _ _ _ _ _ _ _ _ _ _ _ _ _ _ _ _ _ _ _ _ _ _ _ _ _ _ _ _ _ _ _ _ _ _ _ _ _ _ _ _ _ _ _ _ _ _ _ _ _ _ _ _ _ _ _ _ _ _ _ _ _ _ _ _ _ _ _ _ _ _ _ _ _ _ _ _ _ _ _ _ _ _ _ _ _ _ _ _ _ _ _ _ _ _ _ _ _ _ _ _ _ _ _ _ _ _ _ _ _ _ _ _ _ _ _ _ _ _ _ _ _ _ _ _ _ _ _ _ _ _ _ _ _ _ _ _ _ _ _ _ _ _ _ _ _ _ _ _ _ _ _ _ _ _ _ _ _ _ _ _ _ _ _ _ _ _ _ _ _ _ _ _ _ _ _ _ _ _ _ _ _ _ _ _ _ _ _ _ _ _ _ _ _ _ _ _ _ _ _ _ _ _ _ _ _

theorem sym_any (cf : α → α → Int) (hO : SWO (ltOf cf)) (blk cap : Nat) (d0 : Array α) (w0 : World) (hC : CmpLays Tryz.prog 22 #[] (enc2 T) 2 cf blk 0 d0.size w0) (R : RowK (enc2 T) 2 w0 blk 0 d0) (hsz : d0.size < 1099511627776) :
    ∀ (N a m b : Nat) (d : Array α) (w : World), b - a ≤ N → d0.size = d.size → SWK (enc2 T) 2 w0 blk 0 d w → a < m → m < b → b ≤ d.size → SortedIn (ltOf cf) a m d → SortedIn (ltOf cf) m b d →
    Calls Tryz.prog 156 #[.slice (some ⟨blk, 0, none⟩) d.size cap, .int .i64 a, .int .i64 m, .int .i64 b, .func (.func 22) #[] #[]] w fun e w' => e = .returned (.tuple #[]) ∧ ∃ d', (PermIn a b d d' ∧ SortedIn (ltOf cf) a b d') ∧ SWK (enc2 T) 2 w0 blk 0 d' w'
  | 0, a, m, b, d, w, hN, _, _, h1, h2, _, _, _ => by omega
  | N + 1, a, m, b, d, w, hN, hs, S, h1, h2, hb, hA, hB => by
    by_cases e1 : m = a + 1
    · exact sym_left cf hO blk cap a m b e1 d0 d w0 w hC R hs S h2 hb (by omega) hB
    · by_cases e2 : b = m + 1
      · exact sym_right cf hO blk cap a m b e2 d0 d w0 w hC R hs S (by omega) hb (by omega) hA
      · exact sym_mid cf hO blk cap a m b d0 d w0 w hC R hs S (by omega) (by omega) hb (by omega) hA hB
          fun a' m' b' d' w' hlt => sym_any cf hO blk cap d0 w0 hC R hsz N a' m' b' d' w' (by omega)
end Go.Proofs.YtfiipfcdddaceaaGreatDoor
