import Derived.Test.YtfiipfcdddaceaaGreatDoorLe
namespace Go.Proofs.YtfiipfcdddaceaaGreatDoor
open Go.RowKit Go.Sort Go.Shelf

/-- A list of the document's atoms, as it comes in. -/
def RAtoms (w : World) (v : Value) (l : List Atm) : Prop :=
  l.length ≤ 1073741824 ∧ ((∃ a c, v = .slice a 0 c ∧ l = []) ∨ ∃ g off c, v = .slice (some ⟨g, off, none⟩) l.length c ∧ g < w.heap.size ∧ l.length ≤ c ∧
    ∀ i (h : i < l.length), ∃ vt at_, w.cell? ⟨g, off + i * 3, none⟩ = some (.string l[i].na) ∧ w.cell? ⟨g, off + i * 3 + 1, none⟩ = some vt ∧ w.cell? ⟨g, off + i * 3 + 2, none⟩ = some (.int .i64 at_) ∧ IsRTerms w vt l[i].n l[i].t)
theorem RAtoms.below {w w' : World} {v : Value} {l : List Atm} (h : RAtoms w v l) (hb : Below w.heap.size w w') : RAtoms w' v l := by
  obtain ⟨hl, h | ⟨g, off, c, hv, hg, hc, ht⟩⟩ := h
  · exact ⟨hl, .inl h⟩
  · refine ⟨hl, .inr ⟨g, off, c, hv, Nat.lt_of_lt_of_le hg hb.size, hc, fun i hi => ?_⟩⟩
    obtain ⟨vt, at_, h1, h2, h3, h4⟩ := ht i hi
    exact ⟨vt, at_, (hb.cell (p := ⟨g, _, none⟩) hg).trans h1, (hb.cell (p := ⟨g, _, none⟩) hg).trans h2, (hb.cell (p := ⟨g, _, none⟩) hg).trans h3, h4.below hb⟩

theorem given_own (nm : ByteArray) (va : Value) (n : Nat) (at_ : Int) (t : Nat → Tm) (w : World) (h : IsRTerms w va n t) :
    Calls Tryz.prog 43 #[.agg #[.string nm, va, .int .i64 at_]] w fun e w' => ∃ p c, e = .returned (.agg #[.string nm, .slice p n c]) ∧ IsTerms w' (.slice p n c) n t ∧ (∀ a, p = some a → w.heap.size ≤ a.block ∧ a.block < w'.heap.size) ∧ Below w.heap.size w w' := by
  obtain ⟨hn, ⟨a, c, rfl, rfl⟩ | ⟨g, off, c, rfl, hg, hc, ht⟩⟩ := h
  · exact (given_none nm a c at_ w).mono fun _ _ ⟨h1, h2⟩ => ⟨none, 0, h1, ⟨hn, .inl ⟨_, _, rfl, rfl⟩⟩, (fun a ha => by cases ha), h2⟩
  · refine (given_some nm g off c n at_ t w hn hg hc ht).mono fun _ w' ⟨v, h1, h2, h3⟩ => ?_
    obtain ⟨p, c', rfl⟩ := own_slice h2
    refine ⟨p, c', h1, own_terms h2 hn, fun a ha => ?_, h3⟩
    exact h2.lt a.block (by rw [ha]; rfl)

theorem IsRTerms.shape {w : World} {v : Value} {n : Nat} {t : Nat → Tm} (h : IsRTerms w v n t) : ∃ a c, v = .slice a n c := by
  obtain ⟨_, ⟨a, c, hv, h0⟩ | ⟨g, off, c, hv, _⟩⟩ := h
  · subst h0; exact ⟨a, c, hv⟩
  · exact ⟨_, _, hv⟩

set_option maxRecDepth 100000 in
set_option maxHeartbeats 4000000 in
theorem all_none (a : Option Addr) (c : Nat) (w : World) : Calls Tryz.prog 34 #[.slice a 0 c] w fun e w' => e = .returned (.slice none 0 0) ∧ w' = w := by
  go_enter Tryz.func34, Tryz.ntmps34
  go_wp2_with fail
  go_loop [3, 4] (fun x y => x = .slice none 0 0 ∧ y = .int .i64 0) (fun _ _ => 0)
  case atStart => exact ⟨rfl, rfl⟩
  case round =>
    obtain ⟨rfl, rfl⟩ := hrel
    go_wp2_with fail
    exact bodyPost_ret (v := .slice none 0 0) (by simp [results, go_sem]) rfl ⟨rfl, rfl⟩

set_option maxRecDepth 100000 in
set_option maxHeartbeats 4000000 in
theorem all_some (g off c : Nat) (l : List Atm) (w : World) (hl : l.length ≤ 1073741824) (hg : g < w.heap.size)
    (ht : ∀ i (h : i < l.length), ∃ vt at_, w.cell? ⟨g, off + i * 3, none⟩ = some (.string l[i].na) ∧ w.cell? ⟨g, off + i * 3 + 1, none⟩ = some vt ∧ w.cell? ⟨g, off + i * 3 + 2, none⟩ = some (.int .i64 at_) ∧ IsRTerms w vt l[i].n l[i].t) :
    Calls Tryz.prog 34 #[.slice (some ⟨g, off, none⟩) l.length c] w fun e w' => ∃ v', e = .returned v' ∧ Atoms w.heap.size w' v' l ∧ Below w.heap.size w w' := by
  obtain ⟨i4, hi4, hza4, hzb4, hzc4⟩ := info_parts (P := Tryz.prog) (e := 47) (z := .agg #[.string ⟨#[]⟩, .slice none 0 0]) (size := 2) (bytes := 40) (by kernel_rfl)
  have HT := hide ht
  clear ht
  go_enter Tryz.func34, Tryz.ntmps34
  go_wp2_with fail
  go_loopw [3, 4] (fun ov iv wr => ∃ (k : Nat) (ps : List Ea) (oa : Option Addr) (oc : Nat), ov = .slice oa ps.length oc ∧ iv = .int .i64 k ∧ k ≤ l.length ∧ ps.length = k ∧ Hid (ps.map Ea.atm = l.take k) ∧ Hid (Out w.heap.size wr ov ps) ∧ Hid (Below w.heap.size w wr)) (fun _ iv _ => l.length - (intOf iv).toNat)
  case atStart => exact ⟨0, [], none, 0, rfl, rfl, by omega, rfl, by show _ = _; simp, Out.nil _ _, Below.refl _ _⟩
  case round =>
    obtain ⟨k, ps, oa, oc, rfl, rfl, hk, hpk, HM, HO, HB⟩ := hrel
    have hzr := HB.out.size
    by_cases hlt : k < l.length
    · obtain ⟨vt, at_, x0, x1, x2, hit⟩ := HT.out k hlt
      obtain ⟨tp, tc, rfl⟩ := hit.shape
      have y0 := (HB.out.cell (p := ⟨g, off + k * 3, none⟩) hg).trans x0
      have y1 := (HB.out.cell (p := ⟨g, off + k * 3 + 1, none⟩) hg).trans x1
      have y2 := (HB.out.cell (p := ⟨g, off + k * 3 + 2, none⟩) hg).trans x2
      have HC := hide (given_own l[k].na (.slice tp l[k].n tc) l[k].n at_ l[k].t wr (hit.below HB.out))
      clear x0 x1 x2 hit
      have hkz : (k : Int) < (l.length : Int) := by omega
      have HOB := hide HO.out.1.lt
      obtain ⟨na, hna⟩ : ∃ x, l[k].na = x := ⟨_, rfl⟩
      obtain ⟨nn, hnn⟩ : ∃ x, l[k].n = x := ⟨_, rfl⟩
      have HAT : Hid (l[k] = ⟨na, nn, l[k].t⟩) := by show _ = _; rw [← hna, ← hnn]
      rw [hna, hnn] at HC
      rw [hna] at y0
      rw [hnn] at y1
      clear hna hnn
      generalize l[k].t = tt at HC HAT
      have HPK := hide hpk
      clear hpk
      go_wp2_with fail
      refine HC.out.mono ?_
      rintro e w3 ⟨p3, c3, rfl, hit3, hbl3, hb3⟩
      have hz3 := hb3.size
      have HIT := hide hit3
      have HBL := hide hbl3
      have HB3 := hide hb3
      have HO3 := hide (HO.out.below (hb3.alloc hz3 (.cells #[.string na, .slice p3 nn c3] 47)))
      clear hit3 hbl3 hb3
      have hown3 := HO3.out.1
      have hplen : ps.length ≤ 1073741824 := by have := HPK.out; omega
      go_wp2_with (at_builtin; refine wpList_append_lies _ rfl _ _ 63 rfl w.heap.size 47 i4 (.agg #[.string ⟨#[]⟩, .slice none 0 0]) 2 40 Tryz.underlying63 hi4 hza4 hzb4 hzc4 rfl (by omega) _ _ _ rfl hown3 ⟨w3.heap.size, 0, none⟩ 1 1 [.string na, .slice p3 nn c3] rfl rfl (World.news_of_block (cs := #[.string na, .slice p3 nn c3]) (t := 47) (fr := (0, 0)) (heap_alloc_new w3 _)) (by simp [Value.oneCell']) (by omega) (by unfold maxLen; omega) (by omega) (by simp; omega) (w3.heap.size + 1) (by simp) ?_)
      intro g5 cap5 w5 hown5 hg5 hat5 hlt5
      have hpush : Out w.heap.size w5 (.slice (some ⟨g5, 0, none⟩) (ps.length + 1) cap5) (ps ++ [(⟨na, p3, nn, c3, tt⟩ : Ea)]) := HO3.out.push (p := ⟨na, p3, nn, c3, tt⟩) hown5 hg5 (by simpa using hat5) (HIT.out.below ((Below.refl _ _).alloc (Nat.le_refl _) _)) (fun a ha => by
        have h1 := HBL.out a ha
        refine ⟨by omega, by simp; omega, fun e => ?_⟩
        have := (HOB.out _ e).2
        omega)
      have HPU := hide hpush
      have HG5 : Hid (Below w.heap.size w w5) := ((HB.out.trans (HB3.out.mono hzr)).alloc (by omega) _).grown hg5 (by simp; omega) (fun b hb => (HOB.out b hb).1)
      clear hpush hown5 hg5 hown3
      go_wp2_with fail
      refine ⟨⟨k + 1, ps ++ [(⟨na, p3, nn, c3, tt⟩ : Ea)], some ⟨g5, 0, none⟩, cap5, by rw [List.length_append]; rfl, by go_num, by omega, by rw [List.length_append, HPK.out]; rfl, ?_, HPU, HG5⟩, by simp [intOf]; omega⟩
      show _ = _
      rw [List.map_append, HM.out, List.take_succ_eq_append_getElem hlt, HAT.out]
      rfl
    · obtain rfl : k = l.length := by omega
      go_wp2_with fail
      have hm := HM.out
      rw [List.take_length] at hm
      refine bodyPost_ret (v := .slice oa ps.length oc) (by simp [results, go_sem]) rfl ⟨_, rfl, ?_, HB.out⟩
      have h := HO.out.atoms (by omega)
      rw [hm] at h
      exact h

theorem all_any (v : Value) (l : List Atm) (w : World) (h : RAtoms w v l) : Calls Tryz.prog 34 #[v] w fun e w' => ∃ v', e = .returned v' ∧ Atoms w.heap.size w' v' l ∧ Below w.heap.size w w' := by
  obtain ⟨hl, ⟨a, c, rfl, rfl⟩ | ⟨g, off, c, rfl, hg, hc, ht⟩⟩ := h
  · exact (all_none a c w).mono fun _ _ q => ⟨_, q.1, ⟨by simp, .inl ⟨rfl, rfl⟩⟩, by rw [q.2]; exact Below.refl _ _⟩
  · exact all_some g off c l w hl hg ht
end Go.Proofs.YtfiipfcdddaceaaGreatDoor
