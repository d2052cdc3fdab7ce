import Derived.Test.YtfiipfcdddaceaaGreatDoorQ9Jo
namespace Go.Proofs.YtfiipfcdddaceaaGreatDoor
open Go.RowKit

def pstr (t : Tm) : ByteArray := ⟨(plainL t).toArray⟩
def pstrs (t : Nat → Tm) (n : Nat) : List ByteArray := (List.range n).map fun j => pstr (t j)
theorem pstrs_len (t : Nat → Tm) (n : Nat) : (pstrs t n).length = n := by simp [pstrs]
theorem pstrs_succ (t : Nat → Tm) (n : Nat) : pstrs t (n + 1) = pstrs t n ++ [pstr (t n)] := by simp [pstrs, List.range_succ]

/-- An atom in the plain form. -/
def showA (nm : ByteArray) (t : Nat → Tm) (n : Nat) : ByteArray := if n = 0 then nm else nm ++ ⟨#[40]⟩ ++ ⟨(joinL [44] (pstrs t n)).toArray⟩ ++ ⟨#[41]⟩

theorem tcells_at (t : Nat → Tm) (n j : Nat) (hj : j < n) : (tcells t n)[3 * j]? = some (.int .i64 (t j).kind) ∧ (tcells t n)[3 * j + 1]? = some (.int .i64 (t j).num) ∧ (tcells t n)[3 * j + 2]? = some (.string (t j).text) := by
  induction n with
  | zero => omega
  | succ n ih =>
    have hl := tcells_len t n
    rw [tcells_succ]
    by_cases h : j < n
    · rw [List.getElem?_append_left (by omega), List.getElem?_append_left (by omega), List.getElem?_append_left (by omega)]
      exact ih h
    · obtain rfl : j = n := by omega
      rw [List.getElem?_append_right (by omega), List.getElem?_append_right (by omega), List.getElem?_append_right (by omega), hl, show 3 * j - j * 3 = 0 from by omega, show 3 * j + 1 - j * 3 = 1 from by omega, show 3 * j + 2 - j * 3 = 2 from by omega]
      exact ⟨rfl, rfl, rfl⟩

set_option maxHeartbeats 1000000 in
theorem show_none (nm : ByteArray) (a : Option Addr) (c : Nat) (w : World) :
    Calls Tryz.prog 24 #[.agg #[.string nm, .slice a 0 c]] w fun e w' => e = .returned (.string nm) ∧ Below w.heap.size w w' := by
  go_enter Tryz.func24, Tryz.ntmps24
  go_wp2_with fail
  go_ret
  exact ⟨rfl, (Below.refl _ _).alloc (Nat.le_refl _) _⟩

theorem tab_below {P : Program} {n : String} {k : IntKind} {zs : List Int} {w w' : World} (h : Lib.TabIs P w n k zs) (hb : Below w.heap.size w w') : Lib.TabIs P w' n k zs := by
  unfold Lib.TabIs World.var? at h ⊢
  cases hg : P.globalNamed n with
  | none => rw [hg] at h; simp at h
  | some g =>
    rw [hg] at h
    simp only [Option.bind_some] at h ⊢
    have hlt : g < w.heap.size := by
      rcases Nat.lt_or_ge g w.heap.size with h' | h'
      · exact h'
      · rw [Array.getElem?_eq_none h'] at h; cases h
    rw [hb.block g hlt]
    exact h

theorem join_strs (t : Nat → Tm) (n : Nat) (a : Option Addr) (c : Nat) (w : World) (B : Nat) (hn : 1 ≤ n) (hsum : sumL (pstrs t n) + n ≤ 1099511627776) (h : w.ownsRow B 9 1 (.slice a n c) n ((pstrs t n).map Value.string)) :
    Calls Tryz.prog 74 #[.slice a n c, .string ⟨#[44]⟩] w fun e w' => e = .returned (.string ⟨(joinL [44] (pstrs t n)).toArray⟩) ∧ Below w.heap.size w w' := by
  have hl := pstrs_len t n
  obtain ⟨hx, ⟨_, h0⟩ | ⟨g, cap, cur, hv, hg, hc, hnc, _⟩⟩ := h
  · omega
  · have h' : w.ownsRow B 9 1 (.slice (some ⟨g, 0, none⟩) n cap) n ((pstrs t n).map Value.string) := by rw [← hv]; exact ⟨hx, .inr ⟨g, cap, cur, hv, hg, hc, hnc, by assumption⟩⟩
    have hgl : g < w.heap.size := by
      rcases Nat.lt_or_ge g w.heap.size with h' | h'
      · exact h'
      · simp [Array.getElem?_eq_none h'] at hc
    rw [hv]
    have hcell : ∀ j (hj : j < (pstrs t n).length), w.cell? ⟨g, j, none⟩ = some (.string (pstrs t n)[j]) := fun j hj => own_cell h' j (by rw [List.getElem?_map, List.getElem?_eq_getElem hj]; rfl)
    by_cases h2 : 2 ≤ n
    · have := join_many ⟨#[44]⟩ (pstrs t n) g cap w hgl rfl (by omega) (by omega) hcell (by omega)
      rw [hl] at this
      exact this
    · obtain rfl : n = 1 := by omega
      have h1 := hcell 0 (by omega)
      refine (join_one ⟨#[44]⟩ _ ⟨g, 0, none⟩ cap w h1).mono ?_
      rintro e w' ⟨rfl, rfl⟩
      refine ⟨?_, Below.refl _ _⟩
      simp [pstrs, joinL]

set_option maxRecDepth 100000 in
set_option maxHeartbeats 2000000 in
theorem show_some (nm : ByteArray) (t : Nat → Tm) (n g cap : Nat) (w : World) (hg : g < w.heap.size) (hn : 1 ≤ n) (hn2 : n ≤ 1099511627776) (hnm : nm.size ≤ 1099511627776)
    (hc : ∀ j, j < n → w.cell? ⟨g, 3 * j, none⟩ = some (.int .i64 (t j).kind) ∧ w.cell? ⟨g, 3 * j + 1, none⟩ = some (.int .i64 (t j).num) ∧ w.cell? ⟨g, 3 * j + 2, none⟩ = some (.string (t j).text))
    (hok : ∀ j, j < n → TmOk (t j)) (hw : Lib.TabIs Tryz.prog w "internal/strconv.uint64pow10" .u64 Lib.pow10Tab) (hsum : sumL (pstrs t n) + n ≤ 1099511627776) :
    Calls Tryz.prog 24 #[.agg #[.string nm, .slice (some ⟨g, 0, none⟩) n cap]] w fun e w' => e = .returned (.string (showA nm t n)) ∧ Below w.heap.size w w' := by
  obtain ⟨i0, hi, hz0, hz1, hz2⟩ := info_parts (P := Tryz.prog) (e := 9) (z := .string ⟨#[]⟩) (size := 1) (bytes := 16) (by kernel_rfl)
  have hne : ((n : Int) == 0) = false := by rw [beq_eq_false_iff_ne]; omega
  have HC := hide hc
  have HOK := hide hok
  have HT := hide hw
  clear hc hok hw
  go_enter Tryz.func24, Tryz.ntmps24
  go_wp2_with fail
  go_loopw [3, 15] (fun v i wr => ∃ k : Nat, k ≤ n ∧ i = .int .i64 k ∧ wr.ownsRow (w.heap.size + 1) 9 1 v k ((pstrs t k).map Value.string) ∧ Below (w.heap.size + 1) (w.alloc (.cells #[.string nm, .slice (some ⟨g, 0, none⟩) n cap] 47)) wr) (fun _ i _ => n - (intOf i).toNat)
  case atStart => exact ⟨0, by omega, rfl, ⟨rfl, .inl ⟨rfl, rfl⟩⟩, Below.refl _ _⟩
  case round =>
    obtain ⟨k, hk, rfl, hown, hbw⟩ := hrel
    obtain ⟨va, vc, hv⟩ := own_slice hown
    subst hv
    have HN := hide hown
    have HW := hide hbw
    have hz := hbw.size
    simp at hz
    have hbw0 : Below w.heap.size w wr := ((Below.refl _ _).alloc (Nat.le_refl _) _).trans (hbw.mono (by omega))
    have HW0 := hide hbw0
    clear hown hbw hbw0
    by_cases hlt : k < n
    · obtain ⟨c0, c1, c2⟩ := HC.out k hlt
      have d0 : wr.cell? ⟨g, k * 3, none⟩ = some (.int .i64 (t k).kind) := by rw [Nat.mul_comm]; exact (HW0.out.cell (p := ⟨g, 3 * k, none⟩) hg).trans c0
      have d1 : wr.cell? ⟨g, k * 3 + 1, none⟩ = some (.int .i64 (t k).num) := by rw [Nat.mul_comm]; exact (HW0.out.cell (p := ⟨g, 3 * k + 1, none⟩) hg).trans c1
      have d2 : wr.cell? ⟨g, k * 3 + 2, none⟩ = some (.string (t k).text) := by rw [Nat.mul_comm]; exact (HW0.out.cell (p := ⟨g, 3 * k + 2, none⟩) hg).trans c2
      clear c0 c1 c2
      go_wp2_with fail
      refine (plain_any (t k) _ (HOK.out k hlt) (tab_below HT.out (HW0.out.alloc (by omega) _))).mono ?_
      rintro x w2 ⟨rfl, hb2⟩
      have hzz2 := hb2.size
      simp at hzz2
      have hown2 := own_below HN.out (((Below.refl _ _).alloc (Nat.le_refl _) _).trans (hb2.mono (by simp)))
      have HW2 := hide ((HW.out.alloc (by omega) _).trans (hb2.mono (by simp; omega)))
      have HP := hide (show (pstrs t (k + 1)).map Value.string = (pstrs t k).map Value.string ++ [.string (pstr (t k))] by rw [pstrs_succ]; simp)
      clear hb2 d0 d1 d2
      go_wp2_with (at_builtin; refine wpList_append_own _ rfl _ _ 120 rfl (w.heap.size + 1) 9 i0 (.string ⟨#[]⟩) 1 16 Tryz.underlying120 hi hz0 hz1 hz2 rfl (by decide) _ _ _ rfl (hown2.alloc _) ⟨w2.heap.size, 0, none⟩ 1 1 [.string (pstr (t k))] rfl rfl ?c1 ?c2 ?c3 ?c4 ?c5 ?_)
      case c1 =>
        intro j u hj
        match j, hj with
        | 0, hj => simp at hj; subst hj; simp [Addr.add, pstr]
      case c2 => intro u hu; simp at hu; subst hu; rfl
      case c3 => unfold maxLen; omega
      case c4 => omega
      case c5 => simp; omega
      intro v' w5 hown' hgrow _
      go_wp2_with fail
      refine ⟨⟨k + 1, by omega, by go_num, by rw [HP.out]; exact hown', ?_⟩, by simp [intOf]; omega⟩
      exact (HW2.out.alloc (by omega) _).grown hgrow (by simp; omega) (fun j hj => own_lt hown2 j hj)
    · obtain rfl : k = n := by omega
      obtain ⟨J, hJ⟩ : ∃ J : ByteArray, J = ⟨(joinL [44] (pstrs t k)).toArray⟩ := ⟨_, rfl⟩
      have hJs : J.size ≤ 2199023255552 := by
        have h1 := join_len [44] (pstrs t k)
        have h2 := pstrs_len t k
        have h3 : J.size = (joinL [44] (pstrs t k)).length := by rw [hJ]; rfl
        simp at h1
        omega
      have HJ : Hid (Calls Tryz.prog 74 #[.slice va k vc, .string ⟨#[44]⟩] wr.drew fun e w' => e = .returned (.string J) ∧ Below wr.heap.size wr.drew w') := by
        rw [hJ]
        exact join_strs t k va vc wr.drew (w.heap.size + 1) hn hsum (by exact HN.out)
      have HJE := hide hJ
      clear hJ
      have b0 : wr.cell? ⟨w.heap.size, 0, none⟩ = some (.string nm) := (HW.out.cell (p := ⟨w.heap.size, 0, none⟩) (by simp)).trans (by simp)
      have hsa : showA nm t k = nm ++ ⟨#[40]⟩ ++ J ++ ⟨#[41]⟩ := by unfold showA; rw [if_neg (by omega), HJE.out]
      have HSA := hide hsa
      clear hsa
      go_wp2_with fail
      go_region_with (go_at_call 74; refine HJ.out.mono ?_; rintro x w3 ⟨rfl, hb3⟩; have b1 := (hb3.cell (p := ⟨w.heap.size, 0, none⟩) (by show w.heap.size < _; omega)).trans b0)
      all_goals
        go_wp2_with fail
        go_ret
        rw [HSA.out]
        exact ⟨rfl, HW0.out.drew.trans (hb3.mono (by omega))⟩
end Go.Proofs.YtfiipfcdddaceaaGreatDoor
