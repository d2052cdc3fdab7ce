import Derived.Test.YtfiipfcdddaceaaGreatDoorQ9R
import Derived.Deep.DeepCutAuto
namespace Go.Proofs.YtfiipfcdddaceaaGreatDoor
open Go.RowKit

/-- The block b holds a term. -/
def Has3 (b : Nat) (k n : Int) (tx : ByteArray) (w : World) : Prop :=
  w.cell? ⟨b, 0, none⟩ = some (.int .i64 k) ∧ w.cell? ⟨b, 1, none⟩ = some (.int .i64 n) ∧ w.cell? ⟨b, 2, none⟩ = some (.string tx)

theorem cell_other (w : World) (b o : Nat) (p : Addr) (u : Value) (h : p.block ≠ b) : (w.setCell p u).cell? ⟨b, o, none⟩ = w.cell? ⟨b, o, none⟩ :=
  World.cell?_of_block (w := w) (Below.heap_setCell w p u b (Ne.symm h))
theorem frozen_other (w : World) (b o : Nat) (p : Addr) (u : Value) (h : p.block ≠ b) : (w.setCell p u).frozen? ⟨b, o, none⟩ = w.frozen? ⟨b, o, none⟩ :=
  World.frozen?_of_block (w := w) (Below.heap_setCell w p u b (Ne.symm h))
theorem Ok.set {r : Nat} {s : ByteArray} {i : Nat} {w : World} (h : Ok r s i w) {p : Addr} (hp : p.block ≠ r) (h0 : p.block ≠ 1) (u : Value) : Ok r s i (w.setCell p u) :=
  ⟨h.size, h.le, h.plain, h.pos, ⟨by simpa using h.rd.lt, (cell_other w _ _ p u hp).trans h.rd.c0, (cell_other w _ _ p u hp).trans h.rd.c1, (frozen_other w _ _ p u hp).trans h.rd.f1⟩,
    ⟨by simpa using h.mks.1, fun k hk => (cell_other w _ _ p u h0).trans (h.mks.2 k hk)⟩⟩
theorem Keep.start {r : Nat} {w w' : World} (h : Below w.heap.size w w') (hr : r ≤ w.heap.size) : Keep r w w' := (Keep.refl r w).of_below hr h

set_option maxHeartbeats 2000000 in
theorem rterm_ok (r : Nat) (s : ByteArray) (i a : Nat) (t : Tm) (e : Nat) (w : World) (h : Ok r s i w) (ht : tmAt s i = some (t, e)) (ha : a < 8) :
    Calls Tryz.prog 147 #[.pointer (some ⟨r, 0, none⟩), .int .i64 a] w fun x w' => x = .returned t.val ∧ Ok r s (ps s e) w' ∧ Keep r w w' := by
  have hle := tmAt_le ht
  have HC := hide (fun w => term_ok s i a t e w h.size ht ha)
  clear ht
  have HO := hide h
  obtain ⟨hs, hi, _, hp, ⟨hlt, c0, c1, f1⟩, _⟩ := h
  obtain ⟨k, n, tx⟩ := t
  simp only [Tm.val] at *
  go_enter Tryz.func147, Tryz.ntmps147
  go_upto_region 1 with fail
  go_cut [5, 6, 7] (fun p5 p6 p7 wx => ∃ b2, p5 = .pointer (some ⟨b2, 0, none⟩) ∧ p6 = .int .i64 e ∧ p7 = .int .i64 0 ∧ w.heap.size < b2 ∧ b2 < wx.heap.size ∧ Has3 b2 k n tx wx ∧ Below (w.heap.size + 1) (w.alloc (.cells #[.int .i64 0, .int .i64 0, .string ⟨#[]⟩] 60)) wx)
  case first =>
    go_region_with (go_at_call 154; refine (HC.out _).mono ?_; rintro x w2 ⟨rfl, hb⟩; obtain ⟨hc, hf⟩ := bcell hb)
    all_goals
      go_wp2_with fail
      go_meet
      case rel =>
        have hz := hb.size
        simp at hz
        refine ⟨_, rfl, rfl, rfl, ?_, ?_, ⟨?_, ?_, ?_⟩, ?_⟩
        · omega
        · simp; try omega
        · simp [go_sem, hc]
        · simp [go_sem, hc]
        · simp [go_sem, hc]
        · first
            | exact ((Below.refl _ _).drew.trans (hb.mono (by simp))).alloc (by omega) _
            | exact (((((Below.refl _ _).alloc (by simp) _).drew.trans (hb.mono (by simp))).setCell (by simp) _).setCell (by simp) _).setCell (by simp) _
  case rest =>
    obtain ⟨b2, rfl, rfl, rfl, hb1, hb2, ⟨e0, e1, e2⟩, hbw⟩ := hcut
    have hzz : w.heap.size < wc.heap.size := by omega
    have g0 : ∀ o, wc.cell? ⟨w.heap.size, o, none⟩ = (w.alloc (.cells #[.int .i64 0, .int .i64 0, .string ⟨#[]⟩] 60)).cell? ⟨w.heap.size, o, none⟩ := fun o => hbw.cell (p := ⟨w.heap.size, o, none⟩) (by simp)
    have g1 : ∀ o, wc.frozen? ⟨w.heap.size, o, none⟩ = (w.alloc (.cells #[.int .i64 0, .int .i64 0, .string ⟨#[]⟩] 60)).frozen? ⟨w.heap.size, o, none⟩ := fun o => hbw.frozen (p := ⟨w.heap.size, o, none⟩) (by simp)
    have HBW : Hid (Below w.heap.size w wc) := ((Below.refl _ _).alloc (Nat.le_refl _) _).trans (hbw.mono (by simp))
    have HO2 := hide (HO.out.below HBW.out)
    clear hbw
    go_wp2_with fail
    refine (pass_at r s i e _ _ hle rfl HO2.out).mono ?_
    rintro x w3 ⟨rfl, h1, h2⟩
    have hne1 : w.heap.size ≠ r := by omega
    have hne2 : b2 ≠ r := by omega
    have k0 : ∀ o, w3.cell? ⟨w.heap.size, o, none⟩ = wc.cell? ⟨w.heap.size, o, none⟩ := fun o => h2.cell hne1 hzz
    have k1 : ∀ o, w3.frozen? ⟨w.heap.size, o, none⟩ = wc.frozen? ⟨w.heap.size, o, none⟩ := fun o => h2.frozen hne1 hzz
    have k2 : ∀ o, w3.cell? ⟨b2, o, none⟩ = wc.cell? ⟨b2, o, none⟩ := fun o => h2.cell hne2 hb2
    have H1 := hide h1
    have H2 := hide h2
    clear h1 h2
    go_wp2_with fail
    refine bodyPost_ret (v := .agg #[.int .i64 k, .int .i64 n, .string tx]) (by simp [results, Tryz.results147, go_sem, k0, g0]) rfl ⟨rfl, ?_, ?_⟩
    · have hn0 : w.heap.size ≠ 1 := by omega
      exact ((H1.out.set hne1 hn0 _).set hne1 hn0 _).set hne1 hn0 _
    · have hk := (Keep.start HBW.out (by omega)).trans H2.out
      exact ((hk.setNew (by simp) (by omega) _).setNew (by simp) (by omega) _).setNew (by simp) (by omega) _
end Go.Proofs.YtfiipfcdddaceaaGreatDoor
