import Derived.Test.YtfiipfcdddaceaaDoorPa
namespace Go.Proofs.YtfiipfcdddaceaaDoor
open Go.RowKit

theorem own_cell {w : World} {base : Nat} {e : TypeId} {size g n cap : Nat} {xs : List Value} (h : w.ownsRow base e size (.slice (some ⟨g, 0, none⟩) n cap) n xs) (k : Nat) {u : Value} (hu : xs[k]? = some u) : w.cell? ⟨g, k, none⟩ = some u := by
  obtain ⟨hl, ⟨hv, _⟩ | ⟨g', cap', cur, hv, _, hc, _, _, _, hx⟩⟩ := h
  · cases hv
  · cases hv
    rw [Lib.cell_of_heap hc]
    rw [← hx, List.getElem?_take] at hu
    split at hu
    · simpa using hu
    · cases hu

theorem Ok.new {s : ByteArray} {w : World} (h4 : s.size ≤ 4000) (hp : ∀ j (h : j < s.size), ((s[j].toNat : Int) == 37) = false) (hm : Mk w) : Ok w.heap.size s 0 (w.alloc (.cells #[.string s, .int .i64 0] 82)) := by
  refine ⟨by unfold maxLen; omega, by omega, hp, hm.1, ⟨by simp, by simp, by simp, by simp [go_sem]⟩, hm.below ((Below.refl _ _).alloc (Nat.le_refl _) _)⟩

set_option maxHeartbeats 2000000 in
theorem read_parse (s : ByteArray) (pb n m : Nat) (nm : ByteArray) (t : Nat → Tm) (P : List Value → Prop) (qv : Value) (w : World) (h4 : s.size ≤ 4000) (hpl : ∀ j (h : j < s.size), ((s[j].toNat : Int) == 37) = false) (hmk : Mk w)
    (hlt : pb < w.heap.size) (hp0 : 0 < pb) (hc : w.cell? ⟨pb, 0, none⟩ = some (.slice none 0 0)) (hf : w.frozen? ⟨pb, 0, none⟩ = false)
    (hj : ps s 0 < s.size) (hq : mk (s.data.toList.drop (ps s 0)) ≠ 1) (hcl : ClauseAt s (ps s 0) s.size n m nm t P) :
    Calls Tryd.prog 24 #[.string s, .func (.func 25) #[] #[.pointer (some ⟨pb, 0, none⟩)], qv] w fun e w' => e = .returned (.tuple #[]) ∧ Keep pb w w' ∧ Side pb w w' ∧
      ∃ g cap ab cb, w.heap.size ≤ g ∧ w'.cell? ⟨pb, 0, none⟩ = some (.slice (some ⟨g, 0, none⟩) 1 cap) ∧ w'.cell? ⟨g, 2, none⟩ = some (.slice ab (m + 1) cb) := by
  have HO := hide (Ok.new h4 hpl hmk)
  have HQ := hide hq
  have HC := hide hcl
  clear hpl hmk hq hcl
  have hd : decide ((4000 : Int) < (s.size : Int)) = false := by simp; omega
  go_enter Tryd.func24, Tryd.ntmps24
  go_wp2_with fail
  refine (pass_at w.heap.size s 0 0 _ _ (by omega) rfl HO.out).mono ?_
  rintro x w1 ⟨rfl, h1, h2⟩
  have H1 := hide h1
  have H2 := hide h2
  clear h1 h2
  have hjI : ((ps s 0 : Nat) : Int) < (s.size : Int) := by omega
  generalize ps s 0 = j0 at *
  go_wp2_with fail
  go_loopw [] (fun wr => (Ok w.heap.size s j0 wr ∧ Keep w.heap.size (w.alloc (.cells #[.string s, .int .i64 0] 82)) wr) ∨ (Ok w.heap.size s s.size wr ∧ Keep pb w wr ∧ Side pb w wr ∧ ∃ g cap ab cb, w.heap.size ≤ g ∧ wr.cell? ⟨pb, 0, none⟩ = some (.slice (some ⟨g, 0, none⟩) 1 cap) ∧ wr.cell? ⟨g, 2, none⟩ = some (.slice ab (m + 1) cb))) (fun wr => s.size - posOf w.heap.size wr)
  case atStart => exact .inl ⟨H1.out, H2.out⟩
  case round =>
    rcases hrel with ⟨h1, h2⟩ | ⟨h1, h2, h3⟩
    · have hpos := h1.rd.pos
      have c1 := h1.rd.c1
      have G1 := hide h1
      have G2 := hide h2
      have HPOS := hide hpos
      clear h1 h2 hpos
      go_wp2_with fail
      refine (takes_not w.heap.size s j0 1 _ G1.out HQ.out).mono ?_
      rintro x w2 ⟨rfl, h3, h4⟩
      go_wp2_with fail
      refine (HC.out w.heap.size _ h3).mono ?_
      rintro x w3 ⟨v, vb, cs, xs, rfl, hown, hP, hcs, hownb, h5, h6⟩
      obtain ⟨a, c, hv⟩ := own_slice hown
      subst hv
      obtain ⟨ab, cb, hvb⟩ := own_slice hownb
      subst hvb
      have hk3 := G2.out.trans (h4.trans h6)
      have hz3 := hk3.size
      simp at hz3
      have hne : pb ≠ w.heap.size := by omega
      have hc3 : w3.cell? ⟨pb, 0, none⟩ = some (.slice none 0 0) := (hk3.cell hne (by simp; omega)).trans ((World.cell?_of_block (w := w) (Below.heap_alloc w _ pb hlt)).trans hc)
      have hf3 : w3.frozen? ⟨pb, 0, none⟩ = false := (hk3.frozen hne (by simp; omega)).trans ((World.frozen?_of_block (w := w) (Below.heap_alloc w _ pb hlt)).trans hf)
      have HK3 := hide hk3
      have H5 := hide h5
      clear hk3 h3 h4 h5 h6 hown hownb hP hcs
      go_wp2_with fail
      refine (parse2 pb n (m + 1) c cb nm a ab _ (by omega) hc3 hf3).mono ?_
      rintro x w4 ⟨rfl, h7, hsd, g, cap, hg, hcell, hrow⟩
      have HSD := hide hsd
      have H7 := hide h7
      have HC4 := hide hcell
      have HR4 := hide hrow
      clear h7 hcell hrow hsd
      go_wp2_with fail
      have hok4 := H5.out.other H7.out hne (by omega)
      refine ⟨.inr ⟨hok4, ?_, ?_, g, cap, ab, cb, by omega, HC4.out, own_cell HR4.out 2 rfl⟩, ?_⟩
      · exact (Keep.start (((Below.refl _ _).alloc (Nat.le_refl _) _).trans HK3.out.below) (by omega)).trans H7.out
      · exact (Side.of_block ((HK3.out.block hne (by simp; omega)).trans (Below.heap_alloc w _ pb hlt))).trans HSD.out
      · rw [hok4.rd.pos, HPOS.out]; omega
    · have c1 := h1.rd.c1
      have H2 := hide h2
      have H3 := hide h3
      clear h1 h2 h3
      go_wp2_with fail
      go_end0
      exact ⟨rfl, H2.out, H3.out⟩
end Go.Proofs.YtfiipfcdddaceaaDoor
