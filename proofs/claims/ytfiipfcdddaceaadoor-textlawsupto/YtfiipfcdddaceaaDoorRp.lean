import Derived.Test.YtfiipfcdddaceaaDoorPr
namespace Go.Proofs.YtfiipfcdddaceaaDoor
open Go.RowKit

/-- What a clause of one term and one plain name in its body is shown as. -/
def clauseS (nm n2 : ByteArray) (t : Nat → Tm) : ByteArray := showA nm t 1 ++ ⟨#[32, 58, 45, 32]⟩ ++ n2 ++ ⟨#[46, 10]⟩

theorem show_clause (nm n2 : ByteArray) (t : Nat → Tm) (a ab : Option Addr) (c cb B B' : Nat) (xs : List Value) (w : World) (hnm : nm.size ≤ 100) (hn2 : n2.size ≤ 100) (hA : (showA nm t 1).size ≤ 1000) (ht : TmOk (t 0)) (hp : (pstr (t 0)).size ≤ 100)
    (hw : Lib.TabIs Tryd.prog w "internal/strconv.uint64pow10" .u64 Lib.pow10Tab)
    (hown : w.ownsRow B 36 3 (.slice a 1 c) 1 (tcells t 1)) (hownb : w.ownsRow B' 86 10 (.slice ab 1 cb) 1 (litCells n2 (.slice none 0 0) ++ xs)) :
    ∀ W, Below w.heap.size w W → Calls Tryd.prog 29 #[.agg #[.string nm, .slice a 1 c, .slice ab 1 cb]] W fun e w' => e = .returned (.string (clauseS nm n2 t)) ∧ Below W.heap.size W w' := by
  intro W hW
  obtain ⟨g, cap, he⟩ := own_shape (n := 0) hown
  obtain ⟨gb, capb, heb⟩ := own_shape (n := 0) hownb
  cases he
  cases heb
  have lt_of : ∀ {e : TypeId} {size n cp gg BB : Nat} {ys : List Value}, w.ownsRow BB e size (.slice (some ⟨gg, 0, none⟩) (n + 1) cp) (n + 1) ys → gg < w.heap.size := by
    intro e size n cp gg BB ys h
    obtain ⟨_, ⟨hv, _⟩ | ⟨g', cap', cur, hv, _, hc, _⟩⟩ := h
    · cases hv
    · cases hv
      rcases Nat.lt_or_ge gg w.heap.size with h' | h'
      · exact h'
      · simp [Array.getElem?_eq_none h'] at hc
  have hg := lt_of hown
  have hgb := lt_of hownb
  have hzW := hW.size
  refine showClause_one nm n2 (showA nm t 1) g c gb cb W hA (by omega) (fun V hV => ?_) (fun V hV => ?_)
  · have hV' : Below w.heap.size w V := hW.trans (hV.mono hzW)
    have hzV := hV'.size
    have hs : sumL (pstrs t 1) = (pstr (t 0)).size := by simp [sumL, pstrs]
    refine show_some nm t 1 g c V (by omega) (by omega) (by omega) (by omega) (fun j hj => ?_) (fun j hj => ?_) (tab_below hw hV') (by omega)
    · obtain rfl : j = 0 := by omega
      have h3 := tcells_at t 1 0 (by omega)
      exact ⟨(hV'.cell (p := ⟨g, 3 * 0, none⟩) hg).trans (own_cell hown _ h3.1), (hV'.cell (p := ⟨g, 3 * 0 + 1, none⟩) hg).trans (own_cell hown _ h3.2.1), (hV'.cell (p := ⟨g, 3 * 0 + 2, none⟩) hg).trans (own_cell hown _ h3.2.2)⟩
    · obtain rfl : j = 0 := by omega
      exact ht
  · have hV' : Below w.heap.size w V := hW.trans (hV.mono hzW)
    have hzV := hV'.size
    have hc : ∀ k u, (litCells n2 (.slice none 0 0) ++ xs)[k]? = some u → V.cell? ⟨gb, k, none⟩ = some u := fun k u hu => (hV'.cell (p := ⟨gb, k, none⟩) hgb).trans (own_cell hownb k hu)
    exact showBody_one n2 gb cb V (by omega) (hc 0 _ rfl) (hc 1 _ rfl) (hc 2 _ rfl) (hc 3 _ rfl) (hc 4 _ rfl) (hc 5 _ rfl) (hc 6 _ rfl) (hc 7 _ rfl) (hc 8 _ rfl) (hc 9 _ rfl)

set_option maxHeartbeats 2000000 in
theorem read_print (s : ByteArray) (pb : Nat) (nm n2 : ByteArray) (t : Nat → Tm) (qv : Value) (w : World) (h4 : s.size ≤ 4000) (hpl : ∀ j (h : j < s.size), ((s[j].toNat : Int) == 37) = false) (hmk : Mk w)
    (hp0 : 0 < pb) (hbd : Bd pb pb [] (.slice none 0 0) w) (hnm : nm.size ≤ 100) (hn2 : n2.size ≤ 100) (hA : (showA nm t 1).size ≤ 1000) (ht : TmOk (t 0)) (hps : (pstr (t 0)).size ≤ 100) (hw : Lib.TabIs Tryd.prog w "internal/strconv.uint64pow10" .u64 Lib.pow10Tab)
    (hj : ps s 0 < s.size) (hq : mk (s.data.toList.drop (ps s 0)) ≠ 1) (hcl : ClauseAt s (ps s 0) s.size 1 0 nm t (fun cs => 0 = 0 → cs = litCells n2 (.slice none 0 0))) :
    Calls Tryd.prog 24 #[.string s, .func (.func 28) #[] #[.pointer (some ⟨pb, 0, none⟩)], qv] w fun e w' => e = .returned (.tuple #[]) ∧ Keep pb w w' ∧ ∃ v, Bd pb pb (clauseS nm n2 t).data.toList v w' := by
  have hlt := hbd.lt
  have HBD := hide hbd
  have HTW := hide hw
  clear hbd hw
  have HO := hide (Ok.new h4 hpl hmk)
  have HQ := hide hq
  have HC := hide hcl
  clear hpl hmk hq hcl
  have hd : decide ((4000 : Int) < (s.size : Int)) = false := by simp; omega
  go_enter Tryd.func24, Tryd.ntmps24
  go_wp2_with fail
  refine (pass_at w.heap.size s 0 0 _ _ (by omega) rfl HO.out).mono ?_
  rintro x w1 ⟨rfl, h1, h2⟩
  have H1 := hide h1
  have H2 := hide h2
  clear h1 h2
  have hjI : ((ps s 0 : Nat) : Int) < (s.size : Int) := by omega
  generalize ps s 0 = j0 at *
  go_wp2_with fail
  go_loopw [] (fun wr => (Ok w.heap.size s j0 wr ∧ Keep w.heap.size (w.alloc (.cells #[.string s, .int .i64 0] 82)) wr) ∨ (Ok w.heap.size s s.size wr ∧ Keep pb w wr ∧ ∃ v, Bd pb pb (clauseS nm n2 t).data.toList v wr)) (fun wr => s.size - posOf w.heap.size wr)
  case atStart => exact .inl ⟨H1.out, H2.out⟩
  case round =>
    rcases hrel with ⟨h1, h2⟩ | ⟨h1, h2, h3⟩
    · have hpos := h1.rd.pos
      have c1 := h1.rd.c1
      have G1 := hide h1
      have G2 := hide h2
      have HPOS := hide hpos
      clear h1 h2 hpos
      go_wp2_with fail
      refine (takes_not w.heap.size s j0 1 _ G1.out HQ.out).mono ?_
      rintro x w2 ⟨rfl, h3, h4⟩
      go_wp2_with fail
      refine (HC.out w.heap.size _ h3).mono ?_
      rintro x w3 ⟨v, vb, cs, xs, rfl, hown, hP, hcs, hownb, h5, h6⟩
      obtain ⟨a, c, hv⟩ := own_slice hown
      subst hv
      obtain ⟨ab, cb, hvb⟩ := own_slice hownb
      subst hvb
      have hk3 := G2.out.trans (h4.trans h6)
      have hz3 := hk3.size
      simp at hz3
      have hne : pb ≠ w.heap.size := by omega
      have hbw3 : Below w.heap.size w w3 := ((Below.refl _ _).alloc (Nat.le_refl _) _).trans hk3.below
      have hbd3 : Bd pb pb [] (.slice none 0 0) w3 := by
        obtain ⟨q1, ⟨q, hq, q2⟩, q3⟩ := HBD.out
        exact ⟨q1, ⟨q, hq, (hbw3.block pb hlt).trans q2⟩, ⟨rfl, .inl ⟨rfl, rfl⟩⟩⟩
      have hsc := show_clause nm n2 t a ab c cb _ _ xs w3 hnm hn2 hA ht hps (tab_below HTW.out hbw3) hown (by rw [hP trivial] at hownb; exact hownb)
      have hcs4 : (clauseS nm n2 t).size ≤ 10000 := by
        have e : (clauseS nm n2 t).size = (showA nm t 1).size + 4 + n2.size + 2 := by simp [clauseS, ByteArray.size_append]; rfl
        omega
      have HSC := hide hsc
      have HD3 := hide hbd3
      clear hsc hbd3 hbw3
      have HK3 := hide hk3
      have H5 := hide h5
      clear hk3 h3 h4 h5 h6 hown hownb hP hcs
      go_wp2_with fail
      refine (print2 pb 1 1 c cb nm (clauseS nm n2 t) a ab _ HD3.out hcs4 HSC.out).mono ?_
      rintro x w4 ⟨rfl, h7, v4, hb4⟩
      have H7 := hide h7
      have HC4 := hide hb4
      clear h7 hb4
      go_wp2_with fail
      have hok4 := H5.out.other H7.out hne (by omega)
      refine ⟨.inr ⟨hok4, ?_, v4, HC4.out⟩, ?_⟩
      · exact (Keep.start (((Below.refl _ _).alloc (Nat.le_refl _) _).trans HK3.out.below) (by omega)).trans H7.out
      · rw [hok4.rd.pos, HPOS.out]; omega
    · have c1 := h1.rd.c1
      have H2 := hide h2
      have H3 := hide h3
      clear h1 h2 h3
      go_wp2_with fail
      go_end0
      exact ⟨rfl, H2.out, H3.out⟩
end Go.Proofs.YtfiipfcdddaceaaDoor
