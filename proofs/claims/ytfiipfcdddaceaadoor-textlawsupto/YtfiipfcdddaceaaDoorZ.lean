import Derived.Test.YtfiipfcdddaceaaDoorY
namespace Go.Proofs.YtfiipfcdddaceaaDoor
open Go.RowKit

set_option maxHeartbeats 4000000 in
theorem lit_op (s : ByteArray) (i e m e2 : Nat) (t1 t2 : Tm) (hm : mk (s.data.toList.drop i) ≠ 8) (hte : tmAt s i = some (t1, e))
    (ho : mk (s.data.toList.drop (ps s e)) = m) (h2 : 2 ≤ m) (h7 : m ≤ 7) (ht2 : tmAt s (ps s (ps s e + mlen m)) = some (t2, e2)) :
    LitAt s i (ps s e2) (fun _ => True) := by
  intro r w h
  have hrw := h.rd.lt
  have hp := h.pos
  have HC := hide (fun w h => takes_not r s i 8 w h hm)
  have HT := hide (fun w h => rterm_ok r s i 0 _ e w h hte (by omega))
  have HOP := hide (fun w h => op_yes r s (ps s e) m w h ho h2 h7)
  have HA := hide (fun w h => rterm_ok r s (ps s (ps s e + mlen m)) 0 _ e2 w h ht2 (by omega))
  clear ht2 hm hte ho
  obtain ⟨k1, y1, x1⟩ := t1
  obtain ⟨k2, y2, x2⟩ := t2
  generalize markB m = om at *
  go_enter Tryd.func46, Tryd.ntmps46
  go_wp2_with fail
  refine (HC.out _ (h.below ((Below.refl _ _).alloc (Nat.le_refl _) _))).mono ?_
  rintro x w1 ⟨rfl, h1, h2⟩
  have hne : w.heap.size ≠ r := by omega
  have hn0 : w.heap.size ≠ 0 := by omega
  have hz1 := h2.size
  simp at hz1
  have K1 := hide h2
  clear h2
  go_wp2_with fail
  refine (HT.out _ h1).mono ?_
  rintro x w2 ⟨rfl, h3, h4⟩
  have K2 := hide (K1.out.trans h4)
  have hz2 := h4.size
  clear h4 h1
  simp only [Tm.val]
  go_wp2_with fail
  refine (HOP.out _ (h3.below ((Below.refl _ _).alloc (Nat.le_refl _) _))).mono ?_
  rintro x w3 ⟨rfl, h5, h6⟩
  have hne2 : w2.heap.size ≠ r := by omega
  have m2 := fun o => h6.cell (b := w2.heap.size) (o := o) hne2 (by simp)
  have K3 := hide ((K2.out.alloc (by omega) _).trans h6)
  have hz3 := h6.size
  simp at hz3
  clear h6 h3
  have hzz : w.heap.size < w3.heap.size := by omega
  go_wp2_with fail
  go_region_with (go_at_call 55; refine (HA.out _ ?_).mono ?_; (exact h5.drew); rintro x w4 ⟨rfl, h7, h8⟩; simp only [Tm.val]; have n0 := (fun o => (K3.out.drew.trans h8).cell (b := w.heap.size) (o := o) hne (by simp)); have n1 := (fun o => (K3.out.drew.trans h8).frozen (b := w.heap.size) (o := o) hne (by simp)); have n2 := (fun o => h8.cell (b := w2.heap.size) (o := o) hne2 (by simp; omega)); have H7 := hide h7; have H8 := hide h8; clear h7 h8)
  all_goals
    go_wp2_with fail
    refine bodyPost_ret (v := .agg #[.bool false, .string om, .string ⟨#[]⟩, .slice none 0 0, .int .i64 k1, .int .i64 y1, .string x1, .int .i64 k2, .int .i64 y2, .string x2]) (by simp [results, Tryd.results46, go_sem, n0]) rfl ⟨[.bool false, .string om, .string ⟨#[]⟩, .slice none 0 0, .int .i64 k1, .int .i64 y1, .string x1, .int .i64 k2, .int .i64 y2, .string x2], rfl, rfl, ?_, trivial, ?_, ?_⟩
    · intro u hu
      simp at hu
      rcases hu with rfl | rfl | rfl | rfl | rfl | rfl | rfl | rfl | rfl | rfl <;> rfl
    · repeat (refine Ok.set ?_ hne hn0 _)
      exact H7.out
    · repeat (refine Keep.setNew ?_ (Nat.le_refl _) (by omega) _)
      exact ((Keep.refl r w).alloc (by omega) _).trans (K3.out.drew.trans H8.out)
end Go.Proofs.YtfiipfcdddaceaaDoor
