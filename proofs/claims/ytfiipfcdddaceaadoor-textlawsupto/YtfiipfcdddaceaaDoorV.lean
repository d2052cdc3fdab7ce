import Derived.Test.YtfiipfcdddaceaaDoorU
namespace Go.Proofs.YtfiipfcdddaceaaDoor
open Go.RowKit

theorem own_of_blocks {w w' : World} {base : Nat} {e : TypeId} {size : Nat} {v : Value} {n : Nat} {xs : List Value} (h : w.ownsRow base e size v n xs)
    (hb : ∀ g, base ≤ g → g < w.heap.size → w'.heap[g]? = w.heap[g]?) : w'.ownsRow base e size v n xs := by
  obtain ⟨hl, h | ⟨g, cap, cur, hv, hg, hc, hr⟩⟩ := h
  · exact ⟨hl, .inl h⟩
  · have hlt : g < w.heap.size := by
      rcases Nat.lt_or_ge g w.heap.size with h' | h'
      · exact h'
      · simp [Array.getElem?_eq_none h'] at hc
    exact ⟨hl, .inr ⟨g, cap, cur, hv, hg, (hb g hg hlt).trans hc, hr⟩⟩
theorem own_keep {w w' : World} {base r : Nat} {e : TypeId} {size : Nat} {v : Value} {n : Nat} {xs : List Value} (h : w.ownsRow base e size v n xs) (k : Keep r w w') (hr : r < base) : w'.ownsRow base e size v n xs :=
  own_of_blocks h fun _ h1 h2 => k.block (by omega) h2
theorem own_below {w w' : World} {base : Nat} {e : TypeId} {size : Nat} {v : Value} {n : Nat} {xs : List Value} (h : w.ownsRow base e size v n xs) (k : Below w.heap.size w w') : w'.ownsRow base e size v n xs :=
  own_of_blocks h fun g _ h2 => k.block g h2

theorem Keep.grown {r : Nat} {a w w' : World} {row : Option Nat} (h : Keep r a w) (hg : w.grownBy w' row) (hr : ∀ k, row = some k → a.heap.size ≤ k) (hra : r < a.heap.size) : Keep r a w' :=
  ⟨h.below.grown hg (Nat.le_trans (Nat.le_of_lt hra) h.size) (fun k hk => Nat.le_trans (Nat.le_of_lt hra) (hr k hk)),
   fun j h1 h2 => (hg.block j (Nat.lt_of_lt_of_le h2 h.size) (fun e => by have := hr j e.symm; omega)).trans (h.above j h1 h2)⟩

theorem Ok.grown {r : Nat} {s : ByteArray} {i : Nat} {w w' : World} {row : Option Nat} (h : Ok r s i w) (hg : w.grownBy w' row) (hr : ∀ k, row = some k → r < k) : Ok r s i w' := by
  have hb : ∀ b, b ≤ r → w'.heap[b]? = w.heap[b]? := fun b hb => hg.block b (Nat.lt_of_le_of_lt hb h.rd.lt) (fun e => by have := hr b e.symm; omega)
  have hz : w.heap.size ≤ w'.heap.size := hg.size
  exact ⟨h.size, h.le, h.plain, h.pos,
    ⟨Nat.lt_of_lt_of_le h.rd.lt hz, (World.cell?_of_block (w := w) (hb r (Nat.le_refl _))).trans h.rd.c0, (World.cell?_of_block (w := w) (hb r (Nat.le_refl _))).trans h.rd.c1, (World.frozen?_of_block (w := w) (hb r (Nat.le_refl _))).trans h.rd.f1⟩,
    ⟨Nat.lt_of_lt_of_le h.mks.1 hz, fun k hk => (World.cell?_of_block (w := w) (hb 0 (Nat.zero_le _))).trans (h.mks.2 k hk)⟩⟩

theorem rterm_at (r : Nat) (s : ByteArray) (i a : Nat) (ai : Int) (t : Tm) (e : Nat) (w : World) (h : Ok r s i w) (ht : tmAt s i = some (t, e)) (ha : a < 8) (ea : ai = (a : Int)) :
    Calls Tryd.prog 55 #[.pointer (some ⟨r, 0, none⟩), .int .i64 ai] w fun x w' => x = .returned t.val ∧ Ok r s (ps s e) w' ∧ Keep r w w' := by
  subst ea
  exact rterm_ok r s i a t e w h ht ha

def Tm.cells (t : Tm) : List Value := [.int .i64 t.kind, .int .i64 t.num, .string t.text]
def tcells (t : Nat → Tm) (n : Nat) : List Value := (List.range n).flatMap fun j => (t j).cells
theorem tcells_succ (t : Nat → Tm) (n : Nat) : tcells t (n + 1) = tcells t n ++ (t n).cells := by
  simp [tcells, List.range_succ, List.flatMap_append]
theorem tcells_len (t : Nat → Tm) (n : Nat) : (tcells t n).length = n * 3 := by
  induction n with
  | zero => rfl
  | succ n ih => rw [tcells_succ, List.length_append, ih]; simp [Tm.cells]; omega

set_option maxHeartbeats 1000000 in
theorem terms_none (r : Nat) (s : ByteArray) (i : Nat) (w : World) (h : Ok r s i w) (hm : mk (s.data.toList.drop i) ≠ 9) :
    Calls Tryd.prog 57 #[.pointer (some ⟨r, 0, none⟩)] w fun e w' => e = .returned (.slice none 0 0) ∧ ∃ n, w' = w.drewN n := by
  have HC := hide (takes_no r s i 9 w h hm)
  clear hm
  go_enter Tryd.func57, Tryd.ntmps57
  go_wp2_with fail
  refine HC.out.mono ?_
  rintro e w1 ⟨rfl, n, hw⟩
  go_wp2_with fail
  go_ret
  exact ⟨rfl, n, rfl⟩

def lenOf (v : Value) : Nat := match v with
  | .slice _ n _ => n
  | _ => 0
theorem own_shape {w : World} {base : Nat} {e : TypeId} {size : Nat} {v : Value} {n : Nat} {xs : List Value} (h : w.ownsRow base e size v (n + 1) xs) : ∃ g cap, v = .slice (some ⟨g, 0, none⟩) (n + 1) cap := by
  obtain ⟨_, h | ⟨g, cap, cur, hv, _⟩⟩ := h
  · omega
  · exact ⟨g, cap, hv⟩
theorem own_lt {w : World} {base : Nat} {e : TypeId} {size : Nat} {v : Value} {n : Nat} {xs : List Value} (h : w.ownsRow base e size v n xs) : ∀ k, v.ownBlock = some k → base ≤ k := by
  intro k hk
  obtain ⟨_, ⟨h, _⟩ | ⟨g, cap, cur, hv, hg, _⟩⟩ := h
  · subst h; cases hk
  · subst hv; simp [Value.ownBlock] at hk; omega
theorem alloc_new (w : World) (o : Obj) : (w.alloc o).heap[w.heap.size]? = some o := by
  show (w.heap.push o)[w.heap.size]? = some o
  simp
theorem own_new {w : World} {base : Nat} {e : TypeId} {cs : List Value} (size : Nat) (hb : base ≤ w.heap.size) (hl : cs.length = size) : (w.alloc (.cells cs.toArray e)).ownsRow base e size (.slice (some ⟨w.heap.size, 0, none⟩) 1 1) 1 cs :=
  ⟨by omega, .inr ⟨w.heap.size, 1, cs.toArray, rfl, hb, alloc_new w _, by omega, by unfold maxLen; omega, by simp [hl], by simp [← hl]⟩⟩

set_option maxHeartbeats 2000000 in
theorem terms_some (r : Nat) (s : ByteArray) (i n : Nat) (t : Nat → Tm) (p : Nat → Nat) (w : World) (h : Ok r s i w) (hn : n < 8) (hm : mk (s.data.toList.drop i) = 9)
    (h0 : ∃ e, tmAt s (ps s (i + 1)) = some (t 0, e) ∧ ps s e = p 0)
    (hstep : ∀ k, k < n → mk (s.data.toList.drop (p k)) = 11 ∧ ∃ e, tmAt s (ps s (p k + 1)) = some (t (k + 1), e) ∧ ps s e = p (k + 1))
    (hend : mk (s.data.toList.drop (p n)) = 10) :
    Calls Tryd.prog 57 #[.pointer (some ⟨r, 0, none⟩)] w fun e w' => ∃ v, e = .returned v ∧ w'.ownsRow w.heap.size 36 3 v (n + 1) (tcells t (n + 1)) ∧ Ok r s (ps s (p n + 1)) w' ∧ Keep r w w' := by
  obtain ⟨i0, hi, hz0, hz1, hz2⟩ := info_parts (P := Tryd.prog) (e := 36) (z := .agg #[.int .i64 0, .int .i64 0, .string ⟨#[]⟩]) (size := 3) (bytes := 32) (by kernel_rfl)
  have hrw : r < w.heap.size := h.rd.lt
  have HC := hide (takes_yes r s i 9 w h hm (by omega))
  have HS := hide hstep
  have HE := hide hend
  obtain ⟨e0, ht0, hp0⟩ := h0
  have HT := hide ht0
  have HP := hide hp0
  clear hm hstep hend ht0 hp0
  go_enter Tryd.func57, Tryd.ntmps57
  go_wp2_with fail
  refine HC.out.mono ?_
  rintro e w1 ⟨rfl, h1, h2⟩
  go_wp2_with fail
  refine (rterm_ok r s (ps s (i + mlen 9)) 0 (t 0) e0 _ h1 HT.out (by omega)).mono ?_
  rintro e w2 ⟨rfl, h3, h4⟩
  rw [HP.out] at h3
  have H3 := hide h3
  have H4 := hide (h2.trans h4)
  clear h1 h2 h3 h4
  generalize htt : t 0 = t0
  obtain ⟨tk, tn, tx⟩ := t0
  simp only [Tm.val]
  have HTT := hide htt
  clear htt
  go_wp2_with fail
  go_loopw [3] (fun v wr => ∃ k, k ≤ n ∧ wr.ownsRow w.heap.size 36 3 v (k + 1) (tcells t (k + 1)) ∧ Ok r s (p k) wr ∧ Keep r w wr) (fun v _ => n + 1 - lenOf v)
  case atStart =>
    have hz := H4.out.size
    refine ⟨0, by omega, ?_, ?_, ?_⟩
    · have e : tcells t (0 + 1) = [.int .i64 tk, .int .i64 tn, .string tx] := by
        rw [tcells_succ, HTT.out]; rfl
      rw [e]
      exact own_new 3 hz rfl
    · exact H3.out.below ((Below.refl _ _).alloc (Nat.le_refl _) _)
    · exact H4.out.alloc (by omega) _
  case round =>
    obtain ⟨k, hk, hown, hok, hkp⟩ := hrel
    obtain ⟨g, cap, rfl⟩ := own_shape hown
    have HW := hide hown
    have HK := hide hkp
    have HO := hide hok
    clear hown hkp hok
    by_cases hlt : k < n
    · obtain ⟨hm, e1, ht1, hp1⟩ := HS.out k hlt
      have HT1 := hide ht1
      have HP1 := hide hp1
      have HM := hide hm
      clear hm ht1 hp1
      go_wp2_with fail
      refine (takes_yes r s (p k) 11 _ HO.out HM.out (by omega)).mono ?_
      rintro e w3 ⟨rfl, h1, h2⟩
      go_wp2_with fail
      refine (rterm_at r s (ps s (p k + mlen 11)) (k + 1) _ (t (k + 1)) e1 _ h1 HT1.out (by omega) (by omega)).mono ?_
      rintro e w4 ⟨rfl, h3, h4⟩
      rw [HP1.out] at h3
      have hown4 := own_keep HW.out (h2.trans h4) hrw
      have hz4 := HK.out.size
      have hz5 := (h2.trans h4).size
      have H3 := hide h3
      have H4 := hide (HK.out.trans (h2.trans h4))
      clear h1 h2 h3 h4
      generalize htk : t (k + 1) = t1
      obtain ⟨uk, un, ux⟩ := t1
      simp only [Tm.val]
      have HTK := hide htk
      clear htk
      go_wp2_with (at_builtin; refine wpList_append_own _ rfl _ _ 25 rfl w.heap.size 36 i0 (.agg #[.int .i64 0, .int .i64 0, .string ⟨#[]⟩]) 3 32 Tryd.underlying25 hi hz0 hz1 hz2 rfl (by decide) _ _ _ rfl (hown4.alloc _) ⟨w4.heap.size, 0, none⟩ 1 1 [.int .i64 uk, .int .i64 un, .string ux] rfl rfl ?c1 ?c2 ?c3 ?c4 ?c5 ?_)
      case c1 =>
        intro j u hj
        match j, hj with
        | 0, hj => simp at hj; subst hj; simp [Addr.add]
        | 1, hj => simp at hj; subst hj; simp [Addr.add]
        | 2, hj => simp at hj; subst hj; simp [Addr.add]
      case c2 => intro u hu; simp at hu; rcases hu with rfl | rfl | rfl <;> rfl
      case c3 => unfold maxLen; omega
      case c4 => omega
      case c5 => simp; omega
      intro v' w5 hown' hgrow _
      go_wp2_with fail
      have e : tcells t (k + 1 + 1) = tcells t (k + 1) ++ [.int .i64 uk, .int .i64 un, .string ux] := by
        rw [tcells_succ, HTK.out]; rfl
      obtain ⟨g', cap', rfl⟩ := own_shape hown'
      refine ⟨⟨k + 1, by omega, by rw [e]; exact hown', ?_, ?_⟩, by simp only [lenOf]; omega⟩
      · exact (H3.out.below ((Below.refl _ _).alloc (Nat.le_refl _) _)).grown hgrow (fun j hj => by have := own_lt hown4 j hj; omega)
      · exact (H4.out.alloc (by omega) _).grown hgrow (fun j hj => own_lt hown4 j hj) hrw
    · obtain rfl : k = n := by omega
      have hm : mk (s.data.toList.drop (p k)) ≠ 11 := by rw [HE.out]; omega
      go_wp2_with fail
      refine (takes_no r s (p k) 11 _ HO.out hm).mono ?_
      rintro e w3 ⟨rfl, q, hw3⟩
      have h3 : Ok r s (p k) w3 := by rw [hw3]; exact HO.out.drewN _
      have h4 : Keep r w w3 := by rw [hw3]; exact HK.out.drewN _
      have h5 : w3.ownsRow w.heap.size 36 3 (.slice (some ⟨g, 0, none⟩) (k + 1) cap) (k + 1) (tcells t (k + 1)) := by rw [hw3]; exact HW.out
      have H5 := hide h5
      have H4 := hide h4
      clear hw3 h4 h5
      go_wp2_with fail
      refine (needs_yes r s (p k) 10 _ h3 HE.out (by omega)).mono ?_
      rintro e w4 ⟨rfl, h6, h7⟩
      have H6 := hide h6
      have H7 := hide h7
      clear h6 h7 h3
      go_wp2_with fail
      go_ret
      exact ⟨_, rfl, own_keep H5.out H7.out hrw, H6.out, H4.out.trans H7.out⟩
end Go.Proofs.YtfiipfcdddaceaaDoor
