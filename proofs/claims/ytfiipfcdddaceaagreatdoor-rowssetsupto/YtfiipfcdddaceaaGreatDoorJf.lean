import Derived.Test.YtfiipfcdddaceaaGreatDoorJe
namespace Go.Proofs.YtfiipfcdddaceaaGreatDoor
open Go.RowKit Go.Sort Go.Shelf

set_option maxRecDepth 100000 in
set_option maxHeartbeats 4000000 in
theorem rowsPrints_both (p : Option Addr) (c : Nat) (l : List Rx) (w : World) (s : ByteArray) (e : Int) (i : Nat) (h : RL w (.slice p l.length c) l) (he0 : 0 ≤ e) (he8 : e ≤ 8) (hB : Both w (.slice p l.length c) l s e i)
    (hal : ∀ w', Below w.heap.size w w' → Calls Tryz.prog 33 #[] w' fun e w'' => e = .returned (.bool true) ∧ Below w'.heap.size w' w'') :
    Calls Tryz.prog 10 #[.slice p l.length c] w fun e w' => e = .returned (.bool true) ∧ Below w.heap.size w w' := by
  have hl : l.length ≤ 1073741824 := h.1
  have hml : (l.map Rx.x).length = l.length := by simp
  have HL := hide h
  have HALL := hide (all_any (.slice p l.length c) (l.map Rx.x) w h.ra)
  have HP := hide hB.p
  have HQ := hide hB.q
  have HFA := hide (factsOf h.2.1)
  have HAL := hide hal
  rw [hml] at HP
  clear h hB hal
  go_enter Tryz.func10, Tryz.ntmps10
  go_wp2_with fail
  refine HALL.out.mono ?_
  rintro x w1 ⟨v1, rfl, hat1, hb1⟩
  obtain ⟨p1, c1, hv1⟩ := hat1.shape
  rw [hml] at hv1
  subst hv1
  have HP1 := hide (HP.out w1 p1 c1 hb1 hat1)
  have HA1 := hide hat1
  have HB1 := hide hb1
  clear hat1 hb1 HALL HP
  go_wp2_with fail
  refine HP1.out.mono ?_
  rintro x w2 ⟨rfl, hb2⟩
  have HB2 : Hid (Below w.heap.size w w2) := HB1.out.trans (hb2.mono HB1.out.size)
  have HA2 := hide (HA1.out.below hb2)
  have HQ2 := hide (HQ.out w2 HB2.out)
  clear hb2 HP1 HQ HA1 HB1
  go_wp2_with fail
  refine HQ2.out.mono ?_
  rintro x w3 ⟨rfl, hb3⟩
  have HB3 : Hid (Below w.heap.size w w3) := HB2.out.trans (hb3.mono HB2.out.size)
  have HA3 := hide (HA2.out.below hb3)
  clear hb3 HQ2 HA2 HB2
  have HK := hide (kept_any _ p1 c1 _ l w3 HA3.out (HL.out.below HB3.out))
  go_wp2_with fail
  refine HK.out.mono ?_
  rintro x w4 ⟨rfl, hb4⟩
  have HB4 : Hid (Below w.heap.size w w4) := HB3.out.trans (hb4.mono HB3.out.size)
  have HA4 := hide (HA3.out.below hb4)
  clear hb4 HK HA3 HB3
  go_wp2_with fail
  go_loopw [11] (fun iv wr => ∃ k : Nat, iv = .int .i64 k ∧ k ≤ l.length ∧ Hid (Below w4.heap.size w4 wr)) (fun iv _ => l.length - (intOf iv).toNat)
  case atStart => exact ⟨0, rfl, by omega, Below.refl _ _⟩
  case round =>
    obtain ⟨k, rfl, hk, HB5⟩ := hrel
    by_cases hlt : k < l.length
    · have HW5 : Hid (Below w.heap.size w wr) := HB4.out.trans (HB5.out.mono HB4.out.size)
      obtain ⟨g, off, hp, hg, x0, x1, x2⟩ := HL.out.at k hlt
      subst hp
      obtain ⟨ga, hpa, hga, hca⟩ := HA4.out.got (by simpa using (show 0 < l.length by omega))
      subst hpa
      obtain ⟨ta, tac, a0, a1, hita⟩ := hca k (by simpa using hlt)
      have HF := hide (fun wx (hb : Below w4.heap.size w4 wx) => HFA.out k (by simpa using hlt) ta tac wx (hita.below hb))
      simp only [List.getElem_map] at a0 a1 HF
      have HG := hide (fun wx (hb : Below w.heap.size w wx) => rfact_any l[k] wx ((HL.out.2.1 _ (List.getElem_mem hlt)).below hb))
      simp only [Rx.val] at HG
      have z0 := (HW5.out.cell (p := ⟨g, off + k * 3, none⟩) hg).trans x0
      have z1 := (HW5.out.cell (p := ⟨g, off + k * 3 + 1, none⟩) hg).trans x1
      have z2 := (HW5.out.cell (p := ⟨g, off + k * 3 + 2, none⟩) hg).trans x2
      have y0 := (HB5.out.cell (p := ⟨ga, k * 2, none⟩) hga).trans a0
      have y1 := (HB5.out.cell (p := ⟨ga, k * 2 + 1, none⟩) hga).trans a1
      have hzr5 := HB5.out.size
      have hzw5 := HW5.out.size
      have hgr : g < wr.heap.size := by omega
      have hgar : ga < wr.heap.size := by omega
      have hkz : (k : Int) < (l.length : Int) := by omega
      clear x0 x1 x2 a0 a1 hita hca
      generalize factB l[k].x = fb at *
      generalize l[k].x.na = nb at *
      generalize l[k].x.n = m at *
      generalize l[k].tp = tpb at *
      generalize l[k].tc = tcb at *
      generalize l[k].at_ = bp at *
      go_wp2_with fail
      refine wp_region_held_drew (S := (fun w' => w'.cell? ⟨ga, k * 2, none⟩ = some (.string nb) ∧ w'.cell? ⟨ga, k * 2 + 1, none⟩ = some (.slice ta m tac) ∧ w'.cell? ⟨g, off + k * 3, none⟩ = some (.string nb) ∧ w'.cell? ⟨g, off + k * 3 + 1, none⟩ = some (.slice tpb m tcb) ∧ w'.cell? ⟨g, off + k * 3 + 2, none⟩ = some (.int .i64 bp))) (by kernel_rfl) ⟨y0, y1, z0, z1, z2⟩ (fun hHeld => ?_)
      refine wpAnyH_take (i := 0) (v := ?_) rfl (by kernel_rfl) (by kernel_rfl) (by kernel_rfl) (fun _ _ _ h => h) (Or.inl ⟨by rfl, ?_⟩) hHeld ?_
      rotate_left
      · intro w hSw
        obtain ⟨s0, s1, s2, s3, s4⟩ := hSw
        go_simp
        try with_reducible rfl
      try simp only [Act.put, List.setIfInBounds_toArray]
      refine wpAnyH_take (i := 1) (v := ?_) rfl (by kernel_rfl) (by kernel_rfl) (by kernel_rfl) (fun _ _ _ h => h) (Or.inl ⟨by rfl, ?_⟩) hHeld ?_
      rotate_left
      · intro w hSw
        obtain ⟨s0, s1, s2, s3, s4⟩ := hSw
        go_simp
        try with_reducible rfl
      try simp only [Act.put]
      refine wpAnyH_take (i := 2) (v := ?_) rfl (by kernel_rfl) (by kernel_rfl) (by kernel_rfl) (fun _ _ _ h => h) (Or.inl ⟨by rfl, ?_⟩) hHeld ?_
      rotate_left
      · intro w hSw
        obtain ⟨s0, s1, s2, s3, s4⟩ := hSw
        go_simp
        try with_reducible rfl
      try simp only [Act.put]
      refine wpAnyH_take (i := 3) (v := ?_) rfl (by kernel_rfl) (by kernel_rfl) (by kernel_rfl) (fun _ _ _ h => h) (Or.inl ⟨by rfl, ?_⟩) hHeld ?_
      rotate_left
      · intro w hSw
        obtain ⟨s0, s1, s2, s3, s4⟩ := hSw
        go_simp
        try with_reducible rfl
      try simp only [Act.put]
      refine wpAnyH_take (i := 5) (v := ?_) rfl (by kernel_rfl) (by kernel_rfl) (by kernel_rfl) (fun _ _ _ h => h) (Or.inl ⟨by rfl, ?_⟩) hHeld ?_
      rotate_left
      · intro w hSw
        obtain ⟨s0, s1, s2, s3, s4⟩ := hSw
        go_simp
        try with_reducible rfl
      try simp only [Act.put]
      refine wpAnyH_take (i := 6) (v := ?_) rfl (by kernel_rfl) (by kernel_rfl) (by kernel_rfl) (fun _ _ _ h => h) (Or.inl ⟨by rfl, ?_⟩) hHeld ?_
      rotate_left
      · intro w hSw
        obtain ⟨s0, s1, s2, s3, s4⟩ := hSw
        go_simp
        try with_reducible rfl
      try simp only [Act.put]
      refine wpAnyH_take (i := 7) (v := ?_) rfl (by kernel_rfl) (by kernel_rfl) (by kernel_rfl) (fun _ _ _ h => h) (Or.inl ⟨by rfl, ?_⟩) hHeld ?_
      rotate_left
      · intro w hSw
        obtain ⟨s0, s1, s2, s3, s4⟩ := hSw
        go_simp
        try with_reducible rfl
      try simp only [Act.put]
      refine wpAnyH_take (i := 8) (v := ?_) rfl (by kernel_rfl) (by kernel_rfl) (by kernel_rfl) (fun _ _ _ h => h) (Or.inl ⟨by rfl, ?_⟩) hHeld ?_
      rotate_left
      · intro w hSw
        obtain ⟨s0, s1, s2, s3, s4⟩ := hSw
        go_simp
        try with_reducible rfl
      try simp only [Act.put]
      refine wpAnyH_ready (rs := [4]) (by kernel_rfl) (by simp) ?_
      refine AllReadyH.cons rfl (fun K hK => ?_) ?_
      · go_simp
        refine (HF.out _ HB5.out.drew).mono ?_
        rintro x w6 ⟨rfl, hb6⟩
        have hb6' : Below wr.heap.size wr w6 := (Below.refl _ _).drew.trans hb6
        have HB6 : Hid (Below w4.heap.size w4 w6) := HB5.out.trans (hb6'.mono hzr5)
        have HW6 : Hid (Below w.heap.size w w6) := HW5.out.trans (hb6'.mono hzw5)
        refine hK.out _ _ ⟨(hb6'.cell (p := ⟨ga, _, none⟩) hgar).trans y0, (hb6'.cell (p := ⟨ga, _, none⟩) hgar).trans y1, (hb6'.cell (p := ⟨g, _, none⟩) hgr).trans z0, (hb6'.cell (p := ⟨g, _, none⟩) hgr).trans z1, (hb6'.cell (p := ⟨g, _, none⟩) hgr).trans z2⟩ (fun hHeld => ?_)
        clear hK K hb6
        try simp only [Act.put, List.setIfInBounds_toArray]
        refine wpAnyH_ready (rs := [9]) (by kernel_rfl) (by simp) ?_
        refine AllReadyH.cons rfl (fun K hK => ?_) ?_
        · go_simp
          refine (HG.out _ HW6.out).mono ?_
          rintro x w7 ⟨rfl, hb7⟩
          have hb7' : Below wr.heap.size wr w7 := hb6'.trans (hb7.mono hb6'.size)
          have HB7 : Hid (Below w4.heap.size w4 w7) := HB5.out.trans (hb7'.mono hzr5)
          refine hK.out _ _ ⟨(hb7'.cell (p := ⟨ga, _, none⟩) hgar).trans y0, (hb7'.cell (p := ⟨ga, _, none⟩) hgar).trans y1, (hb7'.cell (p := ⟨g, _, none⟩) hgr).trans z0, (hb7'.cell (p := ⟨g, _, none⟩) hgr).trans z1, (hb7'.cell (p := ⟨g, _, none⟩) hgr).trans z2⟩ (fun hHeld => ?_)
          clear hK K hb7 hb7' hb6'
          try simp only [Act.put, List.setIfInBounds_toArray]
          refine wpAnyH_take (i := 10) (v := ?_) rfl (by kernel_rfl) (by kernel_rfl) (by kernel_rfl) (fun _ _ _ h => h) (Or.inl ⟨by rfl, ?_⟩) hHeld ?_
          rotate_left
          · intro w hSw
            obtain ⟨s0, s1, s2, s3, s4⟩ := hSw
            go_simp
            try with_reducible rfl
          try simp only [Act.put, List.setIfInBounds_toArray]
          refine wpAnyH_done (by kernel_rfl) ?_ _
          go_wp2_with fail
          exact ⟨⟨k + 1, by go_num, by omega, HB7⟩, by simp [intOf]; omega⟩
        exact AllReadyH.nil
      exact AllReadyH.nil
    · have HW5 : Hid (Below w.heap.size w wr) := HB4.out.trans (HB5.out.mono HB4.out.size)
      have HF := hide (HAL.out wr HW5.out)
      go_wp2_with (go_at_call 32; refine (num_any _ _ (by omega) (by omega)).mono ?_; rintro e w' ⟨rfl, rfl⟩)
      refine HF.out.mono ?_
      rintro x w20 ⟨rfl, hb20⟩
      go_wp2_with fail
      exact bodyPost_ret (v := .bool true) (by simp [results, go_sem]) rfl ⟨rfl, HW5.out.trans (hb20.mono HW5.out.size)⟩
end Go.Proofs.YtfiipfcdddaceaaGreatDoor

namespace Go.Proofs.YtfiipfcdddaceaaGreatDoor
open Go.ChangeShapes Go.WideShapes Go.ChangeAt Go.RowKit

section
variable {H : Type} {enc : TypeId × Value → H} {w : World} {base : Nat} {spare : Nat → Bool} {held : Bool}

set_option maxRecDepth 100000 in
theorem open_terms4 {fu : Nat} {v1 : Value} {y1 : DataW H × List MemPlace} (h1 : DataW.trod enc Tryz.prog w base spare held fu 42 [v1] = some y1) (hb : Rows.uptoBulk y1.1 ≤ 2 ^ 20) :
    ∃ (a : Option Addr) (n c : Nat) (t : Nat → Tm) (q : Nat → Int), v1 = .slice a n c ∧ Some4 w a n c t q ∧ n ≤ 2 ^ 20 ∧ (∀ j, j < n → -9223372036854775808 ≤ (t j).num ∧ (t j).num ≤ 9223372036854775807) ∧ termW t n ≤ 2 ^ 20 := by
  rcases Deep.open_slice Tryz.underlying42 h1 with ⟨hcs, _⟩ | ⟨ad, len, cap, m, nn, D, Pl, hcs, hbb, hl, hm, hmm, hx, hall⟩
  · simp at hcs
    exact ⟨none, 0, 0, fun _ => ⟨0, 0, ⟨#[]⟩⟩, fun _ => 0, hcs, fun h => absurd h (Nat.lt_irrefl 0), Nat.zero_le _, fun j hj => absurd hj (Nat.not_lt_zero j), Nat.zero_le _⟩
  · simp at hcs
    have hlm : len ≤ m := by rw [hmm]; split <;> omega
    have hbulk : Rows.uptoBulkAll ((List.range len).map D) ≤ 2 ^ 20 := by
      rw [hx] at hb
      simp only [Rows.uptoBulk] at hb
      omega
    have hP : ∀ i, i < len → ∃ q : Tm × Int, w.cells? base (ad.add (i * 4)) 4 = some [.int .i64 q.1.kind, .int .i64 q.1.num, .string q.1.text, .int .i64 q.2] ∧ D i = tmD q.1 q.2 ∧ -9223372036854775808 ≤ q.1.num ∧ q.1.num ≤ 9223372036854775807 := by
      intro i hi
      obtain ⟨cs', c1, c2⟩ := hall i (by omega)
      rw [cells37] at c1
      obtain ⟨t, aa, rfl, e, k1, k2⟩ := open_term c2
      exact ⟨(t, aa), c1, e, k1, k2⟩
    have : Inhabited (Tm × Int) := ⟨(⟨0, 0, ⟨#[]⟩⟩, 0)⟩
    obtain ⟨f, hf⟩ := Deep.choose_lt hP
    have hsum : ((List.range len).map fun j => (f j).1.text.size + 5).sum ≤ 2 ^ 20 := by
      refine Nat.le_trans (bulk_range D len _ fun j hj => ?_) hbulk
      rw [(hf j hj).2.1, bulk_tm]
      exact Nat.le_refl _
    have hlen : len ≤ 2 ^ 20 := Nat.le_trans (bulk_all_len D len) hbulk
    refine ⟨some ad, len, cap, fun j => (f j).1, fun j => (f j).2, hcs, fun hz => ?_, hlen, fun j hj => (hf j hj).2.2, hsum⟩
    obtain ⟨g, off, spot⟩ := ad
    have hcell : ∀ j, j < len → ∀ k u, ([.int .i64 (f j).1.kind, .int .i64 (f j).1.num, .string (f j).1.text, .int .i64 (f j).2] : List Value)[k]? = some u → w.cell? (((⟨g, off, spot⟩ : Addr).add (j * 4)).add k) = some u := fun j hj k u hu => cells_at (hf j hj).1 k u hu
    have hspot : spot = none := by
      have := World.cell?_spot (hcell 0 (by omega) 0 _ rfl)
      simpa [Addr.add] using this
    subst hspot
    refine ⟨g, off, rfl, ?_, hl, fun j hj => ?_⟩
    · have h00 := hcell 0 (by omega) 0 _ rfl
      rcases Nat.lt_or_ge g w.heap.size with h' | h'
      · exact h'
      · simp [Addr.add, World.cell?, Array.getElem?_eq_none h'] at h00
    · have ea : ∀ k, ((⟨g, off, none⟩ : Addr).add (j * 4)).add k = ⟨g, off + j * 4 + k, none⟩ := fun k => by
        rw [Deep.add_add]
        unfold Addr.add
        split
        · rename_i h0; simp at h0 ⊢
        · simp; omega
      refine ⟨?_, ?_, ?_, ?_⟩
      · have := hcell j hj 0 _ rfl; rw [ea] at this; exact this
      · have := hcell j hj 1 _ rfl; rw [ea] at this; exact this
      · have := hcell j hj 2 _ rfl; rw [ea] at this; exact this
      · have := hcell j hj 3 _ rfl; rw [ea] at this; exact this

theorem termW_at (t : Nat → Tm) : ∀ (n j : Nat), j < n → (t j).text.size ≤ termW t n
  | 0, j, hj => by omega
  | n + 1, j, hj => by
    have e : termW t (n + 1) = termW t n + ((t n).text.size + 5) := by
      unfold termW
      rw [List.range_succ, List.map_append, List.sum_append]
      simp
    by_cases h : j < n
    · have := termW_at t n j h; omega
    · obtain rfl : j = n := by omega
      omega

set_option maxRecDepth 100000 in
theorem ok_of {s : ByteArray} {a : Option Addr} {n c : Nat} {t : Nat → Tm} {q : Nat → Int} {ap : Int} (hs : s.size ≤ 2 ^ 20) (h4 : Some4 w a n c t q) (hn : n ≤ 2 ^ 20) (hnum : ∀ j, j < n → -9223372036854775808 ≤ (t j).num ∧ (t j).num ≤ 9223372036854775807) (hw : termW t n ≤ 2 ^ 20) :
    Rx.Ok w ⟨⟨s, n, t⟩, a, c, ap, q⟩ ∧ Tame ⟨s, n, t⟩ :=
  ⟨⟨h4, by show n ≤ _; omega, by show s.size ≤ _; omega, fun j hj => by have := termW_at t n j hj; show (t j).text.size ≤ _; omega⟩, ⟨hs, hnum, hw⟩⟩

set_option maxRecDepth 100000 in
/-- An atom that came in, with its places. -/
theorem open_atomR {b0 : Nat} {r : Reach} {v : Value} {d : DataW H} {p : List MemPlace} (hv : Value.okWide Tryz.prog w r b0 44 v) (h : DataW.Trod enc Tryz.prog w base spare held 44 v d p) (hb : Rows.uptoBulk d ≤ 2 ^ 20) :
    ∃ x : Rx, v = x.val ∧ x.Ok w ∧ Tame x.x := by
  obtain ⟨v0, v1, v2, y0, y1, y2, fu, rfl, rfl, rfl, h0, h1, h2⟩ := Joins.open_agg3 Tryz.underlying44 (by kernel_rfl) cells24 hv h
  obtain ⟨s, e0, r0, _⟩ := DataW.trod_string Tryz.underlying9 h0
  obtain ⟨ap, e2, r2, _⟩ := DataW.trod_int Tryz.underlying3 h2
  simp at e0 e2
  subst e0 e2 r0 r2
  have hs : s.data.toList.length = s.size := by simp
  simp only [Rows.uptoBulk, Rows.uptoBulkAll, hs] at hb
  obtain ⟨a, n, c, t, q, rfl, h4, hn, hnum, hw⟩ := open_terms4 h1 (by omega)
  have hk := ok_of (ap := ap) (s := s) (by omega) h4 hn hnum hw
  exact ⟨⟨⟨s, n, t⟩, a, c, ap, q⟩, rfl, hk.1, hk.2⟩

set_option maxRecDepth 100000 in
theorem open_atom3R {fuel : Nat} {cs : List Value} {x : DataW H × List MemPlace} (h : DataW.trod enc Tryz.prog w base spare held fuel 44 cs = some x) (hb : Rows.uptoBulk x.1 ≤ 2 ^ 20) :
    ∃ y : Rx, cs = y.cells ∧ y.Ok w ∧ Tame y.x := by
  obtain ⟨y0, y1, y2, n0, rfl, hl, h0, h1, h2⟩ := Deep.trod_struct3 Tryz.underlying44 h
  rw [cells24] at hl
  obtain ⟨c0, c1, c2, rfl⟩ := list3 cs hl
  simp only [cells3', cells9, cells22] at h0 h1 h2
  obtain ⟨s, e0, r0, _⟩ := DataW.trod_string Tryz.underlying9 h0
  obtain ⟨ap, e2, r2, _⟩ := DataW.trod_int Tryz.underlying3 h2
  simp at e0 e2
  subst e0 e2 r0 r2
  have hs : s.data.toList.length = s.size := by simp
  simp only [Rows.uptoBulk, Rows.uptoBulkAll, hs] at hb
  have h1' : DataW.trod enc Tryz.prog w base spare held n0 42 [c1] = some y1 := h1
  obtain ⟨a, n, c, t, q, rfl, h4, hn, hnum, hw⟩ := open_terms4 h1' (by omega)
  have hk := ok_of (ap := ap) (s := s) (by omega) h4 hn hnum hw
  exact ⟨⟨⟨s, n, t⟩, a, c, ap, q⟩, rfl, hk.1, hk.2⟩

set_option maxRecDepth 100000 in
/-- A list of atoms that came in, with their places. -/
theorem open_listR {b0 : Nat} {r : Reach} {v : Value} {d : DataW H} {p : List MemPlace} (hv : Value.okWide Tryz.prog w r b0 66 v) (h : DataW.Trod enc Tryz.prog w base spare held 66 v d p) (hb : Rows.uptoBulk d ≤ 2 ^ 20) :
    ∃ l : List Rx, RL w v l ∧ l.length ≤ 2 ^ 20 ∧ ∀ x ∈ l, Tame x.x := by
  obtain ⟨sa, sl, sc, rfl⟩ := okWide_slice Tryz.underlying66 hv
  obtain ⟨fuel, h⟩ := h
  have h' : DataW.trod enc Tryz.prog w base spare held fuel 66 [.slice sa sl sc] = some (d, p) := h
  rcases Deep.open_slice Tryz.underlying66 h' with ⟨hcs, _⟩ | ⟨ad, len, cap, m, nn, D, Pl, hcs, hbb, hl, hm, hmm, hx, hall⟩
  · simp at hcs
    obtain ⟨rfl, rfl, rfl⟩ := hcs
    exact ⟨[], RL.nil w, by simp, fun x hx => by simp at hx⟩
  · simp at hcs
    obtain ⟨rfl, rfl, rfl⟩ := hcs
    have hlm : sl ≤ m := by rw [hmm]; split <;> omega
    have hbulk : Rows.uptoBulkAll ((List.range sl).map D) ≤ 2 ^ 20 := by
      have e : d = _ := (Prod.mk.inj hx).1
      rw [e] at hb
      simp only [Rows.uptoBulk] at hb
      omega
    have hlen : sl ≤ 2 ^ 20 := Nat.le_trans (bulk_all_len D sl) hbulk
    have hP : ∀ i, i < sl → ∃ q : Rx, w.cells? base (ad.add (i * 3)) 3 = some q.cells ∧ q.Ok w ∧ Tame q.x := by
      intro i hi
      obtain ⟨cs', c1, c2⟩ := hall i (by omega)
      rw [cells24] at c1
      obtain ⟨y, rfl, hit, hk⟩ := open_atom3R c2 (Nat.le_trans (bulk_all_at D sl i hi) hbulk)
      exact ⟨y, c1, hit, hk⟩
    have : Inhabited Rx := ⟨⟨⟨⟨#[]⟩, 0, fun _ => ⟨0, 0, ⟨#[]⟩⟩⟩, none, 0, 0, fun _ => 0⟩⟩
    obtain ⟨f, hf⟩ := Deep.choose_lt hP
    refine ⟨(List.range sl).map f, ⟨by simp; omega, fun r hr => ?_, ?_⟩, by simpa using hlen, fun x hx => ?_⟩
    · obtain ⟨i, hi, rfl⟩ := List.mem_map.1 hr
      exact (hf i (List.mem_range.1 hi)).2.1
    · by_cases hz : sl = 0
      · exact .inl ⟨some ad, sc, by rw [hz], by simp [hz]⟩
      · obtain ⟨g, off, spot⟩ := ad
        have hcell : ∀ j, j < sl → ∀ k u, ((f j).cells)[k]? = some u → w.cell? (((⟨g, off, spot⟩ : Addr).add (j * 3)).add k) = some u := fun j hj k u hu => cells_at (hf j hj).1 k u hu
        have hspot : spot = none := by
          have := World.cell?_spot (hcell 0 (by omega) 0 _ rfl)
          simpa [Addr.add] using this
        subst hspot
        refine .inr ⟨g, off, sc, by simp, ?_, by simpa using hl, fun j hj => ?_⟩
        · have h00 := hcell 0 (by omega) 0 _ rfl
          rcases Nat.lt_or_ge g w.heap.size with h' | h'
          · exact h'
          · simp [Addr.add, World.cell?, Array.getElem?_eq_none h'] at h00
        · have hj' : j < sl := by simpa using hj
          have ea : ∀ k, ((⟨g, off, none⟩ : Addr).add (j * 3)).add k = ⟨g, off + j * 3 + k, none⟩ := fun k => by
            rw [Deep.add_add]
            unfold Addr.add
            split
            · rename_i h0; simp at h0 ⊢
            · simp; omega
          have eg : ((List.range sl).map f)[j] = f j := by simp
          rw [eg]
          refine ⟨?_, ?_, ?_⟩
          · have := hcell j hj' 0 _ rfl; rw [ea] at this; exact this
          · have := hcell j hj' 1 _ rfl; rw [ea] at this; exact this
          · have := hcell j hj' 2 _ rfl; rw [ea] at this; exact this
    · obtain ⟨i, hi, rfl⟩ := List.mem_map.1 hx
      exact (hf i (List.mem_range.1 hi)).2.2
end

/-- What a term is shown as is not much longer than it. -/
theorem plainL_le (t : Tm) (h0 : -9223372036854775808 ≤ t.num) (h1 : t.num ≤ 9223372036854775807) : (plainL t).length ≤ 2 * t.text.size + 21 := by
  have hs : t.text.data.toList.length = t.text.size := by simp
  unfold plainL
  split
  · have := Lib.itoa_length_le t.num h0 h1
    omega
  · split
    · have := flat_le t.text.data.toList
      unfold quoteL
      simp only [List.length_cons, List.length_append, List.length_nil]
      omega
    · omega
theorem lineT_short (t : Nat → Tm) : ∀ (n : Nat), (∀ j, j < n → -9223372036854775808 ≤ (t j).num ∧ (t j).num ≤ 9223372036854775807) → (lineT t n).length ≤ 5 * termW t n
  | 0, _ => by simp [lineT]
  | n + 1, h => by
    have e : termW t (n + 1) = termW t n + ((t n).text.size + 5) := by
      unfold termW
      rw [List.range_succ, List.map_append, List.sum_append]
      simp
    have h1 := lineT_short t n fun j hj => h j (by omega)
    have h2 := plainL_le (t n) (h n (by omega)).1 (h n (by omega)).2
    rw [lineT_succ, List.length_append, List.length_cons, e]
    omega
theorem Tame.line {x : Atm} (h : Tame x) : (lineL x).length ≤ 8388608 := by
  have h1 := lineT_short x.t x.n h.nums
  have h2 := h.sum
  have h3 := h.name
  have h4 : x.na.data.size = x.na.size := rfl
  unfold lineL
  simp only [List.length_append, List.length_cons, List.length_nil, Array.length_toList]
  omega
theorem Tame.ok {x : Atm} (h : Tame x) (j : Nat) (hj : j < x.n) : TmOk (x.t j) := by
  have h1 := termW_at x.t x.n j hj
  have h2 := h.sum
  exact ⟨(h.nums j hj).1, (h.nums j hj).2, by omega⟩
theorem flat_short : ∀ (l : List Atm), (∀ x ∈ l, Tame x) → (l.flatMap lineL).length ≤ l.length * 8388608
  | [], _ => by simp
  | x :: r, h => by
    have h1 := flat_short r fun y hy => h y (by simp [hy])
    have h2 := (h x (by simp)).line
    rw [List.flatMap_cons, List.length_append, List.length_cons]
    omega
end Go.Proofs.YtfiipfcdddaceaaGreatDoor
