import Derived.Test.YtfiipfcdddaceaaGreatDoorTa
import Derived.Test.YtfiipfcdddaceaaGreatDoorTb
namespace Go.Proofs.YtfiipfcdddaceaaGreatDoor
open Go.RowKit Go.Sort Go.Shelf
variable {α : Type} [Inhabited α]

theorem mult_cases (t c k : Nat) : c * t + t ≤ k * t ∨ c * t = k * t ∨ k * t + t ≤ c * t := by
  rcases Nat.lt_trichotomy c k with h | h | h
  · exact Or.inl (by rw [← Nat.succ_mul]; exact Nat.mul_le_mul_right t h)
  · exact Or.inr (Or.inl (by rw [h]))
  · exact Or.inr (Or.inr (by rw [← Nat.succ_mul]; exact Nat.mul_le_mul_right t h))
theorem two_mult (c s : Nat) : c * (2 * s) = (2 * c) * s := by rw [Nat.mul_comm 2 c, Nat.mul_assoc]
theorem two_mult' (c s : Nat) : c * (2 * s) + s = (2 * c + 1) * s := by rw [two_mult, Nat.add_mul, Nat.one_mul]

/-- All blocks of t that end at x or ahead of it are in order. -/
def Done (lt : α → α → Bool) (t x : Nat) (d : Array α) : Prop := (∃ c, x = c * t) ∧ ∀ c, c * t + t ≤ x → SortedIn lt (c * t) (c * t + t) d
/-- All blocks of s from x on are. -/
def Rest (lt : α → α → Bool) (s x n : Nat) (d : Array α) : Prop := ∀ c, x ≤ c * s → SortedIn lt (c * s) (min (c * s + s) n) d

variable {lt : α → α → Bool}
theorem Done.start (t : Nat) (ht : 0 < t) (d : Array α) : Done lt t 0 d := ⟨⟨0, by omega⟩, fun c h => by omega⟩
theorem Done.step {t x : Nat} {d d' : Array α} (h : Done lt t x d) (hp : PermIn x (x + t) d d') (hs : SortedIn lt x (x + t) d') : Done lt t (x + t) d' := by
  obtain ⟨⟨k, rfl⟩, h⟩ := h
  refine ⟨⟨k + 1, by rw [Nat.succ_mul]⟩, fun c hc => ?_⟩
  rcases mult_cases t c k with h1 | h1 | h1
  · exact sortedIn_same (h c h1) fun p _ hp2 => hp.2.1 p (Or.inl (by omega))
  · rw [h1]; exact hs
  · by_cases ht : t = 0
    · subst ht; intro p q a b c; omega
    · omega
theorem Rest.step {s x y n : Nat} {d d' : Array α} (h : Rest lt s x n d) (hxy : x ≤ y) (hp : PermIn x y d d') : Rest lt s y n d' := fun c hc =>
  sortedIn_same (h c (by omega)) fun p hp1 _ => hp.2.1 p (Or.inr (by omega))
/-- The last ones. -/
theorem Done.blocks {t x n : Nat} {d d' : Array α} (h : Done lt t x d) (hx : x ≤ n) (hn : n ≤ x + t) (hp : PermIn x n d d') (hs : SortedIn lt x n d') : Blocks lt t n d' := by
  obtain ⟨⟨k, rfl⟩, h⟩ := h
  intro c
  rcases mult_cases t c k with h1 | h1 | h1
  · rw [Nat.min_eq_left (by omega)]
    exact sortedIn_same (h c h1) fun p _ hp2 => hp.2.1 p (Or.inl (by omega))
  · rw [h1, Nat.min_eq_right hn]; exact hs
  · intro p q a b c2; omega
theorem Rest.of_blocks {s n : Nat} {d : Array α} (h : Blocks lt s n d) : Rest lt s 0 n d := fun c _ => h c
theorem Rest.two {s x n : Nat} {d : Array α} (h : Rest lt s x n d) (hx : ∃ c, x = c * (2 * s)) : SortedIn lt x (min (x + s) n) d ∧ SortedIn lt (x + s) (min (x + 2 * s) n) d := by
  obtain ⟨c, rfl⟩ := hx
  have a := h (2 * c) (by rw [two_mult]; exact Nat.le_refl _)
  have b := h (2 * c + 1) (by rw [← two_mult']; omega)
  rw [← two_mult] at a
  rw [← two_mult', Nat.add_assoc] at b
  rw [show s + s = 2 * s by omega] at b
  exact ⟨a, b⟩

variable {T : Two α}
set_option maxHeartbeats 4000000 in
set_option maxRecDepth 1000000 in
theorem stable_any (cf : α → α → Int) (hO : SWO (ltOf cf)) (blk cap : Nat) (d : Array α) (w : World) (hC : CmpLays Tryz.prog 22 #[] (enc2 T) 2 cf blk 0 d.size w) (R : RowK (enc2 T) 2 w blk 0 d) (hsz : d.size < 1099511627776) :
    Calls Tryz.prog 142 #[.slice (some ⟨blk, 0, none⟩) d.size cap, .int .i64 d.size, .func (.func 22) #[] #[]] w fun e w' => e = .returned (.tuple #[]) ∧ ∃ d', (PermIn 0 d.size d d' ∧ SortedIn (ltOf cf) 0 d.size d') ∧ SWK (enc2 T) 2 w blk 0 d' w' := by
  have HINS : Hid (∀ a b dk wr, dk.size = d.size → SWK (enc2 T) 2 w blk 0 dk wr → a ≤ b → b ≤ d.size → Calls Tryz.prog 155 #[.slice (some ⟨blk, 0, none⟩) d.size cap, .int .i64 a, .int .i64 b, .func (.func 22) #[] #[]] wr fun e w' => e = .returned (.tuple #[]) ∧ ∃ d', (PermIn a b dk d' ∧ SortedIn (ltOf cf) a b d') ∧ SWK (enc2 T) 2 w blk 0 d' w') := fun a b dk wr hs S hab hb => by
    have h := ins_any cf blk cap a b d dk w wr hC R hs.symm S hab (by omega) (by omega)
    rw [hs] at h
    exact h.mono fun _ _ q => ⟨q.1, _, insertionSort_holds hO dk a b hab (by omega), q.2⟩
  have HSYM : Hid (∀ a m b dk wr, dk.size = d.size → SWK (enc2 T) 2 w blk 0 dk wr → a < m → m < b → b ≤ d.size → SortedIn (ltOf cf) a m dk → SortedIn (ltOf cf) m b dk → Calls Tryz.prog 156 #[.slice (some ⟨blk, 0, none⟩) d.size cap, .int .i64 a, .int .i64 m, .int .i64 b, .func (.func 22) #[] #[]] wr fun e w' => e = .returned (.tuple #[]) ∧ ∃ d', (PermIn a b dk d' ∧ SortedIn (ltOf cf) a b d') ∧ SWK (enc2 T) 2 w blk 0 d' w') := fun a m b dk wr hs S ham hmb hb hA hB => by
    have h := sym_any cf hO blk cap d w hC R hsz (b - a) a m b dk wr (Nat.le_refl _) hs.symm S ham hmb (by omega) hA hB
    rw [hs] at h
    exact h
  have S0 := hide (SWK.start (enc := enc2 T) (k := 2) R.hH)
  clear hC hO R
  go_enter Tryz.func142, Tryz.ntmps142
  go_wp2_with fail
  go_loopw [7, 8] (fun v u wr => ∃ x y : Nat, ∃ dk : Array α, v = .int .i64 x ∧ u = .int .i64 y ∧ Hid (y = x + 20) ∧ x < y ∧ x ≤ d.size ∧ y ≤ d.size + 20 ∧ dk.size = d.size ∧ Hid (PermIn 0 d.size d dk) ∧ Hid (Done (ltOf cf) 20 x dk) ∧ Hid (SWK (enc2 T) 2 w blk 0 dk wr)) (fun v _ _ => d.size + 1 - (intOf v).toNat)
  case atStart => exact ⟨0, 20, d, rfl, rfl, rfl, by omega, by omega, by omega, rfl, permIn_refl _ _ _, Done.start _ (by omega) _, S0.out⟩
  case round =>
    clear S0
    obtain ⟨x, y, dk, rfl, rfl, HY, hxy, hxd, hyd, hds, H1, H2, S1⟩ := hrel
    by_cases hlt : y ≤ d.size
    · have HC1 := hide (HINS.out x y dk wr hds S1.out (by omega) hlt)
      clear S1
      go_wp2_with (go_at_call 155; refine HC1.out.mono ?_; rintro e w1 ⟨rfl, d1, H3, S3⟩)
      refine ⟨⟨y, y + 20, d1, rfl, by go_num, rfl, by omega, hlt, by omega, by rw [H3.1.1]; exact hds, ?_, ?_, S3⟩, by simp [intOf]; omega⟩
      · exact permIn_trans _ _ _ _ _ H1.out (permIn_mono _ _ _ _ _ _ (by omega) hlt (by omega) H3.1)
      · have e := HY.out
        have h3 := H3
        rw [e] at h3 ⊢
        exact H2.out.step h3.1 h3.2
    · have HC1 := hide (HINS.out x d.size dk wr hds S1.out (by omega) (Nat.le_refl _))
      clear S1
      go_wp2_with (go_at_call 155; refine HC1.out.mono ?_; rintro e w1 ⟨rfl, d1, H3, S3⟩)
      have hd1 : d1.size = d.size := by rw [H3.1.1]; exact hds
      have HP : Hid (PermIn 0 d.size d d1) := permIn_trans _ _ _ _ _ H1.out (permIn_mono _ _ _ _ _ _ (by omega) (Nat.le_refl _) (by omega) H3.1)
      have HB : Hid (Blocks (ltOf cf) 20 d.size d1) := H2.out.blocks hxd (by have := HY.out; omega) H3.1 H3.2
      clear H1 H2 H3 HC1 HY
      go_loopw [6] (fun v wr2 => ∃ s : Nat, ∃ dk : Array α, v = .int .i64 s ∧ 0 < s ∧ s ≤ 2 * d.size + 20 ∧ dk.size = d.size ∧ Hid (PermIn 0 d.size d dk) ∧ Hid (Blocks (ltOf cf) s d.size dk) ∧ Hid (SWK (enc2 T) 2 w blk 0 dk wr2)) (fun v _ => d.size - (intOf v).toNat)
      case atStart => exact ⟨20, d1, rfl, by omega, by omega, hd1, HP, HB, S3⟩
      case round =>
        clear S3 HP HB hd1
        obtain ⟨s, dk2, rfl, hs0, hs1, hd2, HP, HB, S1⟩ := hrel
        by_cases hlt2 : s < d.size
        · go_wp2_with fail
          go_loopw [7, 8] (fun v u wr3 => ∃ x y : Nat, ∃ dk : Array α, v = .int .i64 x ∧ u = .int .i64 y ∧ Hid (y = x + 2 * s) ∧ x + s < y ∧ x ≤ d.size ∧ y ≤ d.size + 2 * s ∧ dk.size = d.size ∧ Hid (PermIn 0 d.size d dk) ∧ Hid (Done (ltOf cf) (2 * s) x dk) ∧ Hid (Rest (ltOf cf) s x d.size dk) ∧ Hid (SWK (enc2 T) 2 w blk 0 dk wr3)) (fun v _ _ => d.size + 1 - (intOf v).toNat)
          case atStart => exact ⟨0, 2 * s, dk2, rfl, by first | rfl | go_num, by show _ = _; omega, by omega, by omega, by omega, hd2, HP, Done.start _ (by omega) _, Rest.of_blocks HB.out, S1⟩
          case round =>
            clear S1 HP HB hd2
            obtain ⟨x2, y2, dk3, rfl, rfl, HY, hxy2, hxd2, hyd2, hd3, HP, HD, HR, S1⟩ := hrel
            have hst := HR.out.two HD.out.1
            by_cases hlt3 : y2 ≤ d.size
            · have hcall := HSYM.out x2 (x2 + s) y2 dk3 wr hd3 S1.out (by omega) (by omega) hlt3 (by have e := HY.out; have h := hst.1; rw [Nat.min_eq_left (by omega)] at h; exact h) (by have e := HY.out; have h := hst.2; rw [Nat.min_eq_left (by omega), ← e] at h; exact h)
              rw [show ((x2 + s : Nat) : Int) = (x2 : Int) + (s : Int) by omega] at hcall
              have HC1 := hide hcall
              clear hcall S1 hst
              go_wp2_with (go_at_call 156; refine HC1.out.mono ?_; rintro e w1 ⟨rfl, d4, H3, S3⟩)
              refine ⟨⟨y2, y2 + 2 * s, d4, rfl, by go_num, rfl, by omega, hlt3, by omega, by rw [H3.1.1]; exact hd3, ?_, ?_, ?_, S3⟩, by simp [intOf]; omega⟩
              · exact permIn_trans _ _ _ _ _ HP.out (permIn_mono _ _ _ _ _ _ (by omega) hlt3 (by omega) H3.1)
              · have e := HY.out
                have h3 := H3
                rw [e] at h3 ⊢
                exact HD.out.step h3.1 h3.2
              · exact HR.out.step (by omega) H3.1
            · by_cases hm : x2 + s < d.size
              · have hcall := HSYM.out x2 (x2 + s) d.size dk3 wr hd3 S1.out (by omega) hm (Nat.le_refl _) (by have h := hst.1; rw [Nat.min_eq_left (by omega)] at h; exact h) (by have e := HY.out; have h := hst.2; rw [Nat.min_eq_right (by omega)] at h; exact h)
                rw [show ((x2 + s : Nat) : Int) = (x2 : Int) + (s : Int) by omega] at hcall
                have HC1 := hide hcall
                clear hcall S1 hst
                go_wp2_with (go_at_call 156; refine HC1.out.mono ?_; rintro e w1 ⟨rfl, d4, H3, S3⟩)
                refine ⟨⟨2 * s, d4, by go_num, by omega, by omega, by rw [H3.1.1]; exact hd3, ?_, ?_, S3⟩, by simp [intOf]; omega⟩
                · exact permIn_trans _ _ _ _ _ HP.out (permIn_mono _ _ _ _ _ _ (by omega) (Nat.le_refl _) (by omega) H3.1)
                · exact HD.out.blocks hxd2 (by have := HY.out; omega) H3.1 H3.2
              · have HF : Hid (Blocks (ltOf cf) (2 * s) d.size dk3) := HD.out.blocks hxd2 (by have := HY.out; omega) (permIn_refl _ _ _) (by have h := hst.1; rw [Nat.min_eq_right (by omega)] at h; exact h)
                clear hst
                go_wp2_with fail
                refine ⟨⟨2 * s, dk3, by go_num, by omega, by omega, hd3, HP, HF, S1⟩, by simp [intOf]; omega⟩
        · go_wp2_with fail
          go_end0
          exact ⟨rfl, dk2, ⟨HP.out, HB.out.whole (by omega)⟩, S1.out⟩
end Go.Proofs.YtfiipfcdddaceaaGreatDoor
