import Derived.Test.YtfiipfcdddaceaaGreatDoorQ9Y
namespace Go.Proofs.YtfiipfcdddaceaaGreatDoor
open Go.RowKit

theorem list10 (l : List Value) (h : l.length = 10) : ∃ a0 a1 a2 a3 a4 a5 a6 a7 a8 a9, l = [a0, a1, a2, a3, a4, a5, a6, a7, a8, a9] := by
  match l, h with
  | [a0, a1, a2, a3, a4, a5, a6, a7, a8, a9], _ => exact ⟨a0, a1, a2, a3, a4, a5, a6, a7, a8, a9, rfl⟩

/-- Literals and a dot stand at i, n + 1 of them; the text goes on at j; the first one's cells are as P says. -/
def BodyAt (s : ByteArray) (i j n : Nat) (P : List Value → Prop) : Prop :=
  ∀ r w, Ok r s i w → Calls Tryz.prog 95 #[.pointer (some ⟨r, 0, none⟩)] w fun e w' => ∃ v cs xs, e = .returned v ∧ P cs ∧ cs.length = 10 ∧ w'.ownsRow w.heap.size 62 10 v (n + 1) (cs ++ xs) ∧ Ok r s j w' ∧ Keep r w w'

set_option maxHeartbeats 4000000 in
theorem body_ok (s : ByteArray) (i n : Nat) (p : Nat → Nat) (P : List Value → Prop) (hn : n < 100) (h0 : LitAt s i (p 0) P)
    (hstep : ∀ k, k < n → mk (s.data.toList.drop (p k)) = 11 ∧ LitAt s (ps s (p k + 1)) (p (k + 1)) (fun _ => True))
    (hend : mk (s.data.toList.drop (p n)) = 12) : BodyAt s i (ps s (p n + 1)) n P := by
  intro r w h
  obtain ⟨i0, hi, hz0, hz1, hz2⟩ := info_parts (P := Tryz.prog) (e := 62) (z := .agg #[.bool false, .string ⟨#[]⟩, .string ⟨#[]⟩, .slice none 0 0, .int .i64 0, .int .i64 0, .string ⟨#[]⟩, .int .i64 0, .int .i64 0, .string ⟨#[]⟩]) (size := 10) (bytes := 128) (by kernel_rfl)
  have hrw : r < w.heap.size := h.rd.lt
  have HS := hide hstep
  have HE := hide hend
  have H0 := hide h0
  clear hstep hend h0
  go_enter Tryz.func95, Tryz.ntmps95
  go_wp2_with fail
  refine (H0.out r _ h).mono ?_
  rintro e w2 ⟨cs, rfl, hl, hone, hP, h3, h4⟩
  have H3 := hide h3
  have H4 := hide h4
  have HP := hide hP
  obtain ⟨a0, a1, a2, a3, a4, a5, a6, a7, a8, a9, rfl⟩ := list10 cs hl
  clear h3 h4 hP hone hl
  go_wp2_with fail
  go_loopw [3] (fun v wr => ∃ k xs, k ≤ n ∧ wr.ownsRow w.heap.size 62 10 v (k + 1) ([a0, a1, a2, a3, a4, a5, a6, a7, a8, a9] ++ xs) ∧ Ok r s (p k) wr ∧ Keep r w wr) (fun v _ => n + 1 - lenOf v)
  case atStart =>
    have hz := H4.out.size
    refine ⟨0, [], by omega, ?_, ?_, ?_⟩
    · rw [List.append_nil]
      exact own_new 10 hz rfl
    · exact H3.out.below ((Below.refl _ _).alloc (Nat.le_refl _) _)
    · exact H4.out.alloc (by omega) _
  case round =>
    obtain ⟨k, xs, hk, hown, hok, hkp⟩ := hrel
    obtain ⟨g, cap, rfl⟩ := own_shape hown
    have HW := hide hown
    have HK := hide hkp
    have HO := hide hok
    clear hown hkp hok
    by_cases hlt : k < n
    · obtain ⟨hm, hlit⟩ := HS.out k hlt
      have HM := hide hm
      have HL := hide hlit
      clear hm hlit
      go_wp2_with fail
      refine (takes_yes r s (p k) 11 _ HO.out HM.out (by omega)).mono ?_
      rintro e w3 ⟨rfl, h1, h2⟩
      go_wp2_with fail
      refine (HL.out r _ h1).mono ?_
      rintro e w4 ⟨cs, rfl, hl, hone, _, h3, h4⟩
      obtain ⟨b0, b1, b2, b3, b4, b5, b6, b7, b8, b9, rfl⟩ := list10 cs hl
      have hown4 := own_keep HW.out (h2.trans h4) hrw
      have hz4 := HK.out.size
      have hz5 := (h2.trans h4).size
      have H3 := hide h3
      have H4 := hide (HK.out.trans (h2.trans h4))
      have HONE := hide hone
      clear h1 h2 h3 h4 hl hone
      go_wp2_with (at_builtin; refine wpList_append_own _ rfl _ _ 55 rfl w.heap.size 62 i0 (.agg #[.bool false, .string ⟨#[]⟩, .string ⟨#[]⟩, .slice none 0 0, .int .i64 0, .int .i64 0, .string ⟨#[]⟩, .int .i64 0, .int .i64 0, .string ⟨#[]⟩]) 10 128 Tryz.underlying55 hi hz0 hz1 hz2 rfl (by decide) _ _ _ rfl (hown4.alloc _) ⟨w4.heap.size, 0, none⟩ 1 1 [b0, b1, b2, b3, b4, b5, b6, b7, b8, b9] rfl rfl ?c1 ?c2 ?c3 ?c4 ?c5 ?_)
      case c1 =>
        intro j u hj
        match j, hj with
        | 0, hj => simp at hj; subst hj; simp [Addr.add]
        | 1, hj => simp at hj; subst hj; simp [Addr.add]
        | 2, hj => simp at hj; subst hj; simp [Addr.add]
        | 3, hj => simp at hj; subst hj; simp [Addr.add]
        | 4, hj => simp at hj; subst hj; simp [Addr.add]
        | 5, hj => simp at hj; subst hj; simp [Addr.add]
        | 6, hj => simp at hj; subst hj; simp [Addr.add]
        | 7, hj => simp at hj; subst hj; simp [Addr.add]
        | 8, hj => simp at hj; subst hj; simp [Addr.add]
        | 9, hj => simp at hj; subst hj; simp [Addr.add]
      case c2 => exact HONE.out
      case c3 => unfold maxLen; omega
      case c4 => omega
      case c5 => simp; omega
      intro v' w5 hown' hgrow _
      go_wp2_with fail
      obtain ⟨g', cap', rfl⟩ := own_shape hown'
      refine ⟨⟨k + 1, xs ++ [b0, b1, b2, b3, b4, b5, b6, b7, b8, b9], by omega, hown', ?_, ?_⟩, by simp only [lenOf]; omega⟩
      · exact (H3.out.below ((Below.refl _ _).alloc (Nat.le_refl _) _)).grown hgrow (fun j hj => by have := own_lt hown4 j hj; omega)
      · exact (H4.out.alloc (by omega) _).grown hgrow (fun j hj => own_lt hown4 j hj) hrw
    · obtain rfl : k = n := by omega
      have hm : mk (s.data.toList.drop (p k)) ≠ 11 := by rw [HE.out]; omega
      go_wp2_with fail
      refine (takes_not r s (p k) 11 _ HO.out hm).mono ?_
      rintro e w3 ⟨rfl, h3, h4⟩
      have H5 := hide (own_keep HW.out h4 hrw)
      have H4 := hide (HK.out.trans h4)
      clear h4
      go_wp2_with fail
      refine (needs_yes r s (p k) 12 _ h3 HE.out (by omega)).mono ?_
      rintro e w4 ⟨rfl, h6, h7⟩
      have H6 := hide h6
      have H7 := hide h7
      clear h6 h7 h3
      go_wp2_with fail
      go_ret
      exact ⟨_, _, xs, rfl, HP.out, rfl, own_keep H5.out H7.out hrw, H6.out, H4.out.trans H7.out⟩
end Go.Proofs.YtfiipfcdddaceaaGreatDoor
