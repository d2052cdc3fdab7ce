import Derived.Test.YtfiipfcdddaceaaGreatDoorIb
namespace Go.Proofs.YtfiipfcdddaceaaGreatDoor
open Go.RowKit Go.Sort Go.Shelf

/-- What putting in order gives. -/
structure Ord (l out : List Atm) : Prop where
  str : Str cmpX out
  sub : ∀ y ∈ out, y ∈ l
  cov : ∀ x ∈ l, Mem cmpX out x
theorem Ord.mem {l out : List Atm} (h : Ord l out) (x : Atm) : Mem cmpX out x ↔ Mem cmpX l x := by
  constructor
  · rintro ⟨y, hy, h0⟩; exact ⟨y, h.sub y hy, h0⟩
  · rintro ⟨y, hy, h0⟩
    obtain ⟨z, hz, hz0⟩ := h.cov y hy
    exact ⟨z, hz, by rw [cmpX_cmp.zero _ _ _ hz0]; exact h0⟩
theorem permIn_symm {α : Type} [Inhabited α] {a b : Nat} {d d' : Array α} (h : PermIn a b d d') : PermIn a b d' d := ⟨h.1.symm, fun i hi => (h.2.1 i hi).symm, h.2.2.symm⟩
theorem ord_of {w : World} [Inhabited (El w)] {l out : List Atm} {d d2 : Array (El w)} (hd : d.size = l.length) (hat : ∀ i (h : i < l.length), d[i]!.atm = l[i]) (hp : PermIn 0 l.length d d2) (h : Dd cmpX (fun i => d2[i]!.atm) l.length out) : Ord l out := by
  have f1 : ∀ i, 0 ≤ i → i < l.length → ∃ j, j < l.length ∧ d2[i]! = d[j]! := permIn_all d d2 0 l.length (fun v => ∃ j, j < l.length ∧ v = d[j]!) (by omega) hp (fun i _ hi => ⟨i, hi, rfl⟩)
  have f2 : ∀ i, 0 ≤ i → i < l.length → ∃ j, j < l.length ∧ d[i]! = d2[j]! := permIn_all d2 d 0 l.length (fun v => ∃ j, j < l.length ∧ v = d2[j]!) (by rw [hp.1]; omega) (permIn_symm hp) (fun i _ hi => ⟨i, hi, rfl⟩)
  refine ⟨h.str, fun y hy => ?_, fun x hx => ?_⟩
  · obtain ⟨i, hi, rfl⟩ := h.src y hy
    obtain ⟨j, hj, e⟩ := f1 i (Nat.zero_le _) hi
    simp only [e, hat j hj]
    exact List.getElem_mem hj
  · obtain ⟨i, hi, rfl⟩ := List.getElem_of_mem hx
    obtain ⟨j, hj, e⟩ := f2 i (Nat.zero_le _) hi
    rw [← hat i hi, e]
    exact h.cov j hj

set_option maxRecDepth 100000 in
set_option maxHeartbeats 4000000 in
theorem io_some (B g c : Nat) (l : List Atm) (w : World) (h0 : 0 < l.length) (hn : l.length ≤ 1073741824) (hg : g < w.heap.size)
    (ht : ∀ i (h : i < l.length), ∃ tp tc, w.cell? ⟨g, i * 2, none⟩ = some (.string l[i].na) ∧ w.cell? ⟨g, i * 2 + 1, none⟩ = some (.slice tp l[i].n tc) ∧ IsTerms w (.slice tp l[i].n tc) l[i].n l[i].t ∧ ∀ a, tp = some a → B ≤ a.block ∧ a.block < w.heap.size) :
    Calls Tryz.prog 78 #[.slice (some ⟨g, 0, none⟩) l.length c] w fun e w' => ∃ v' ps, e = .returned v' ∧ Out w.heap.size w' v' ps ∧ ps.length ≤ l.length ∧ Below w.heap.size w w' ∧ Ord l (ps.map Ea.atm) := by
  have hin : Inhabited (El w) := elOf w
  obtain ⟨d, hd, hat, hflat⟩ := els_of ht
  have HC := hide (clone_some g c l.length (flatK (enc2 (twoE w)) 2 d).toList w (by simp [hd]) hflat (fun u hu => by
    obtain ⟨j, hj, rfl⟩ := List.getElem_of_mem hu
    have hj2 : j < d.size * 2 := by simpa using hj
    have e := flat_get d j hj2
    rw [getElem!_pos _ j (by simpa using hj2)] at e
    rw [Array.getElem_toList, e]
    split <;> rfl) (by omega) hg)
  clear ht hflat
  go_enter Tryz.func78, Tryz.ntmps78
  go_wp2_with (go_at_call 119; refine HC.out.mono ?_; rintro e w1 ⟨v1, rfl, hown, hbw⟩)
  obtain ⟨g1, cap, rfl⟩ : ∃ g1 cap, v1 = .slice (some ⟨g1, 0, none⟩) l.length cap := by
    obtain ⟨m, hm⟩ : ∃ m, l.length = m + 1 := ⟨l.length - 1, by omega⟩
    rw [hm] at hown ⊢
    exact own_shape hown
  have hg1 : w.heap.size ≤ g1 := own_lt hown g1 rfl
  have hg2 : g1 < w1.heap.size := by
    obtain ⟨_, ⟨hv, _⟩ | ⟨g', cap', cur, hv, _, hc, _⟩⟩ := hown
    · cases hv
    · cases hv
      rcases Nat.lt_or_ge g1 w1.heap.size with h' | h'
      · exact h'
      · simp [Array.getElem?_eq_none h'] at hc
  have hcap : l.length ≤ cap := by
    obtain ⟨_, ⟨hv, _⟩ | ⟨g', cap', cur, hv, _, hc, hle, _⟩⟩ := hown
    · cases hv
    · cases hv; exact hle
  have HH := holds_own hown
  have hsort := sort_any w w1 hbw g1 cap d hg1 hg2 HH (by omega)
  rw [hd] at hsort
  have HSORT := hide hsort
  have HR : Hid (RowK (enc2 (twoE w)) 2 w1 g1 0 d) := ⟨fun _ => rfl, fun x v hv => by simp [enc2] at hv; rcases hv with rfl | rfl <;> rfl, HH, hg2⟩
  clear hsort HH hown HC
  go_wp2_with (go_at_call 120; refine HSORT.out.mono ?_; rintro e w2 ⟨rfl, d2, ⟨HP, HS⟩, S2⟩)
  have hb2 : Below w.heap.size w w2 := by
    obtain ⟨m, os, rfl⟩ := S2
    exact hbw.trans (below_sorted hg1 hbw.size)
  have hz2 : w.heap.size ≤ w2.heap.size := hb2.size
  have HP0 := hide HP
  have HS0 := hide HS
  have S0 := hide S2
  have hd2 : d2.size = l.length := by rw [HP.1]; exact hd
  have HB2 := hide hb2
  have HRR := hide (fun i (hi : i < l.length) => swk_two S2 HR.out (by omega) i (by omega))
  have hg3 : g1 < w2.heap.size := S2.lt hg2
  clear HP HS S2 hb2 HR HSORT
  go_loopw [4, 13] (fun ov iv wr => ∃ (k : Nat) (ps : List Ea) (oa : Option Addr) (oc : Nat), ov = .slice oa ps.length oc ∧ iv = .int .i64 k ∧ k ≤ l.length ∧ ps.length ≤ k ∧ Out w2.heap.size wr ov ps ∧ Below w2.heap.size w2 wr ∧ Hid (Dd cmpX (fun i => d2[i]!.atm) k (ps.map Ea.atm))) (fun _ iv _ => l.length - (intOf iv).toNat)
  case atStart => exact ⟨0, [], none, 0, rfl, rfl, by omega, by simp, Out.nil _ _, Below.refl _ _, Dd.zero _⟩
  case round =>
    obtain ⟨k, ps, oa, oc, rfl, rfl, hk, hpk, hout, hbr, HDd⟩ := hrel
    have HOUT := hide hout
    have HBR := hide hbr
    have hzr := hbr.size
    have hg4 : g1 < wr.heap.size := by omega
    by_cases hlt : k < l.length
    · obtain ⟨x0, x1, xf0, xf1⟩ := HRR.out k hlt
      have y0 := (hbr.cell (p := ⟨g1, k * 2, none⟩) hg3).trans x0
      have y1 := (hbr.cell (p := ⟨g1, k * 2 + 1, none⟩) hg3).trans x1
      clear x0 x1 xf0 xf1 hout hbr
      have hkz : (k : Int) < (l.length : Int) := by omega
      obtain ⟨e, he⟩ : ∃ e : El w, d2[k]! = e := ⟨_, rfl⟩
      rw [he] at y0 y1
      have HE := hide he
      clear he
      obtain ⟨na, tp, n, tc, t, hok⟩ := e
      simp only at y0 y1
      have HOK := hide hok
      have HWR : Hid (Below w.heap.size w wr) := HB2.out.trans (HBR.out.mono hz2)
      go_upto_region 7 with fail
      go_cut [29] (fun tv wx => ∃ q : Bool, tv = .bool q ∧ Hid (q = true ↔ (k = 0 ∨ cmpX d2[k - 1]!.atm d2[k]!.atm ≠ 0)) ∧ Gr (wr.alloc (.cells #[.string na, .slice tp n tc] 47)) wx)
      case first =>
        by_cases hk0 : k = 0
        · subst hk0
          go_big_region
          go_wp2_with fail
          go_meet
          case rel => exact ⟨true, rfl, by show _ ↔ _; simp, (Gr.refl _).drew⟩
        · obtain ⟨kp, rfl⟩ : ∃ kp, k = kp + 1 := ⟨k - 1, by omega⟩
          obtain ⟨x0, x1, _, _⟩ := HRR.out kp (by omega)
          obtain ⟨e2, he2⟩ : ∃ e : El w, d2[kp]! = e := ⟨_, rfl⟩
          rw [he2] at x0 x1
          have HE2 := hide he2
          clear he2
          obtain ⟨na2, tp2, n2, tc2, t2, hok2⟩ := e2
          simp only at x0 x1
          have mixed := mixed_z
          have hz1 : g1 < (wr.alloc (.cells #[.string na, .slice tp n tc] 47)).heap.size := by simp; omega
          have c0 : ∀ q os, (grow ((wr.alloc (.cells #[.string na, .slice tp n tc] 47)).drewN q) os).cell? ⟨g1, kp * 2, none⟩ = some (.string na2) := fun q os => cell_grown hz1 ((cell_alloc_old _ _ _ _ hg4).trans ((HBR.out.cell (p := ⟨g1, kp * 2, none⟩) hg3).trans x0)) q os
          have c1 : ∀ q os, (grow ((wr.alloc (.cells #[.string na, .slice tp n tc] 47)).drewN q) os).cell? ⟨g1, kp * 2 + 1, none⟩ = some (.slice tp2 n2 tc2) := fun q os => cell_grown hz1 ((cell_alloc_old _ _ _ _ hg4).trans ((HBR.out.cell (p := ⟨g1, kp * 2 + 1, none⟩) hg3).trans x1)) q os
          have c2 : ∀ q os, (grow ((wr.alloc (.cells #[.string na, .slice tp n tc] 47)).drewN q) os).cell? ⟨wr.heap.size, 0, none⟩ = some (.string na) := fun q os => cell_grown (by simp) (by simp) q os
          have c3 : ∀ q os, (grow ((wr.alloc (.cells #[.string na, .slice tp n tc] 47)).drewN q) os).cell? ⟨wr.heap.size, 1, none⟩ = some (.slice tp n tc) := fun q os => cell_grown (by simp) (by simp) q os
          have hc : ∀ q os, Calls Tryz.prog 22 #[.agg #[.string na2, .slice tp2 n2 tc2], .agg #[.string na, .slice tp n tc]] (grow ((wr.alloc (.cells #[.string na, .slice tp n tc] 47)).drewN q) os) fun e w' => e = .returned (.int .i64 (cmpA na2 na n2 n t2 t)) ∧ ∃ q' os', w' = grow ((grow ((wr.alloc (.cells #[.string na, .slice tp n tc] 47)).drewN q) os).drewN q') os' := fun q os => by
            have hB : Below w.heap.size w (grow ((wr.alloc (.cells #[.string na, .slice tp n tc] 47)).drewN q) os) := (HWR.out.alloc (by have := HWR.out.size; omega) _).trans ((Gr.below ⟨q, os, rfl⟩).mono (by simp; have := HWR.out.size; omega))
            exact order_gr na2 na _ _ n2 n t2 t _ (hok2.below hB) (HOK.out.below hB)
          have HCM : Hid (cmpX d2[kp + 1 - 1]!.atm d2[kp + 1]!.atm = cmpA na2 na n2 n t2 t) := by
            show _ = _
            rw [Nat.add_sub_cancel, HE2.out, HE.out]
            rfl
          generalize cmpA na2 na n2 n t2 t = r at hc HCM
          have e0 : ((kp : Int) + 1).toNat = kp + 1 := by omega
          have jz1 : (kp : Int) < (l.length : Int) := by omega
          have wj : IntKind.i64.wrap (kp : Int) = (kp : Int) := by rw [IntKind.wrap_i64]; omega
          have kne : ((kp : Int) + 1 == 0) = false := by simp; omega
          clear x0 x1 y0 y1
          go_quiet_grown (first | (go_at_call 22; refine Calls.grown_of (hc _ _)))
          go_wp2_with fail
          go_meet
          case rel => exact ⟨r != 0, rfl, by rw [HCM.out]; show _ ↔ _; simp, ⟨nq, osq, rfl⟩⟩
      case rest =>
        obtain ⟨q, rfl, HQ, hgr⟩ := hcut
        have hzc : wr.heap.size + 1 ≤ wc.heap.size := by have := hgr.below.size; simpa using this
        have HWC : Hid (Below wr.heap.size wr wc) := ((Below.refl _ _).alloc (Nat.le_refl _) _).trans (hgr.below.mono (by simp))
        have b0 : wc.cell? ⟨wr.heap.size, 0, none⟩ = some (.string na) := (hgr.below.cell (p := ⟨wr.heap.size, 0, none⟩) (by simp)).trans (by simp)
        have b1 : wc.cell? ⟨wr.heap.size, 1, none⟩ = some (.slice tp n tc) := (hgr.below.cell (p := ⟨wr.heap.size, 1, none⟩) (by simp)).trans (by simp)
        clear hgr y0 y1
        cases q
        · have hq : ¬ (k = 0 ∨ cmpX d2[k - 1]!.atm d2[k]!.atm ≠ 0) := fun h => by have := HQ.out.2 h; cases this
          have HQ2 := hide hq
          clear hq b0 b1
          go_wp2_with fail
          refine ⟨⟨k + 1, ps, oa, oc, rfl, by go_num, by omega, by omega, HOUT.out.below HWC.out, HBR.out.trans (HWC.out.mono (by omega)), ?_⟩, by simp [intOf]; omega⟩
          have h := HQ2.out
          obtain ⟨kp, rfl⟩ : ∃ kp, k = kp + 1 := ⟨k - 1, by omega⟩
          refine HDd.out.drop cmpX_cmp ?_
          have h2 : ¬ cmpX d2[kp + 1 - 1]!.atm d2[kp + 1]!.atm ≠ 0 := fun x => h (Or.inr x)
          rw [Nat.add_sub_cancel] at h2
          exact Classical.not_not.1 h2
        · have hdd : Dd cmpX (fun i => d2[i]!.atm) (k + 1) (ps.map Ea.atm ++ [(⟨na, n, t⟩ : Atm)]) := by
            have hk2 := HQ.out.1 rfl
            have e1 : (⟨na, n, t⟩ : Atm) = d2[k]!.atm := by rw [HE.out]; rfl
            rw [e1]
            refine HDd.out.keep cmpX_cmp (fun i j hij hj => ?_) (fun h0 => ?_)
            · have := sortedIn_le (cfE_cmp w).swo HS0.out i j (Nat.zero_le _) hij (by omega)
              have h1 : ¬ cmpX d2[j]!.atm d2[i]!.atm < 0 := of_decide_eq_false this
              have h2 := cmpX_cmp.turn d2[i]!.atm d2[j]!.atm
              show cmpX d2[i]!.atm d2[j]!.atm ≤ 0
              omega
            · rcases hk2 with h | h
              · omega
              · exact h
          have HDD := hide hdd
          clear hdd
          have hwc : IsTerms wc (.slice tp n tc) n t := HOK.out.below (HWR.out.trans (HWC.out.mono (by have := HWR.out.size; omega)))
          have HT := hide hwc
          have HO2 := hide (HOUT.out.below HWC.out)
          have HB3 : Hid (Below w2.heap.size w2 wc) := HBR.out.trans (HWC.out.mono (by omega))
          clear hwc
          have hzw : w2.heap.size ≤ wc.heap.size := HB3.out.size
          have hob : ∀ b, Value.ownBlock (.slice oa ps.length oc) = some b → w2.heap.size ≤ b ∧ b < wr.heap.size := HOUT.out.1.lt
          have HOB := hide hob
          clear hob
          go_upto_region 8 with fail
          by_cases hn0 : n = 0
          · subst hn0
            cases tp
            all_goals
              obtain ⟨i4, hi4, hza4, hzb4, hzc4⟩ := info_parts (P := Tryz.prog) (e := 47) (z := .agg #[.string ⟨#[]⟩, .slice none 0 0]) (size := 2) (bytes := 40) (by kernel_rfl)
              refine wp_region_held_drew (S := (fun w' => w'.cell? ⟨wr.heap.size, 0, none⟩ = some (.string na) ∧ w'.cell? ⟨wr.heap.size, 1, none⟩ = some (.slice _ 0 tc))) (by kernel_rfl) ⟨b0, b1⟩ (fun hHeld => ?_)
              refine wpAnyH_take (i := 0) (v := ?_) rfl (by kernel_rfl) (by kernel_rfl) (by kernel_rfl) (fun _ _ _ h => h) (Or.inl ⟨by rfl, ?_⟩) hHeld ?_
              rotate_left
              · intro w hSw
                obtain ⟨s1, s2⟩ := hSw
                go_simp
                try with_reducible rfl
              try simp only [Act.put, List.setIfInBounds_toArray]
              refine wpAnyH_take (i := 1) (v := ?_) rfl (by kernel_rfl) (by kernel_rfl) (by kernel_rfl) (fun _ _ _ h => h) (Or.inl ⟨by rfl, ?_⟩) hHeld ?_
              rotate_left
              · intro w hSw
                obtain ⟨s1, s2⟩ := hSw
                go_simp
                try with_reducible rfl
              try simp only [Act.put]
              refine wpAnyH_take (i := 2) (v := ?_) rfl (by kernel_rfl) (by kernel_rfl) (by kernel_rfl) (fun _ _ _ h => h) (Or.inl ⟨by rfl, ?_⟩) hHeld ?_
              rotate_left
              · intro w hSw
                obtain ⟨s1, s2⟩ := hSw
                go_simp
                try with_reducible rfl
              try simp only [Act.put]
              refine wpAnyH_take (i := 3) (v := ?_) rfl (by kernel_rfl) (by kernel_rfl) (by kernel_rfl) (fun _ _ _ h => h) (Or.inl ⟨by rfl, ?_⟩) hHeld ?_
              rotate_left
              · intro w hSw
                obtain ⟨s1, s2⟩ := hSw
                go_simp
                try with_reducible rfl
              try simp only [Act.put]
              refine wpAnyH_take (i := 4) (v := ?_) rfl (by kernel_rfl) (by kernel_rfl) (by kernel_rfl) (fun _ _ _ h => h) (Or.inl ⟨by rfl, ?_⟩) hHeld ?_
              rotate_left
              · intro w hSw
                obtain ⟨s1, s2⟩ := hSw
                go_simp
                try with_reducible rfl
              try simp only [Act.put]
              refine wpAnyH_ready (rs := [5]) (by kernel_rfl) (by simp) ?_
              refine AllReadyH.cons rfl (fun K hK => ?_) ?_
              · go_simp
                refine hK.out _ _ hHeld (fun hHeld => ?_)
                clear hK K
                try simp only [Act.put, List.setIfInBounds_toArray, List.set_cons_zero, List.set_cons_succ]
                refine wpAnyH_take (i := 6) (v := ?_) rfl (by kernel_rfl) (by kernel_rfl) (by kernel_rfl) (fun _ _ _ h => h) (Or.inl ⟨by rfl, ?_⟩) hHeld ?_
                rotate_left
                · intro w hSw
                  obtain ⟨s1, s2⟩ := hSw
                  go_simp
                  try with_reducible rfl
                try simp only [Act.put]
                refine wpAnyH_ready (rs := [7]) (by kernel_rfl) (by simp) ?_
                refine AllReadyH.cons rfl (fun K hK => ?_) ?_
                · go_simp
                  refine hK.out _ _ ?_ (fun hHeld => ?_)
                  · exact ⟨(cell_alloc_old _ _ _ _ (by show wr.heap.size < wc.heap.size; omega)).trans hHeld.1, (cell_alloc_old _ _ _ _ (by show wr.heap.size < wc.heap.size; omega)).trans hHeld.2⟩
                  clear hK K
                  try simp only [Act.put, List.setIfInBounds_toArray, List.set_cons_zero, List.set_cons_succ]
                  have hB4 : Below wc.heap.size wc wc.drew := (Below.refl _ _).drew
                  have HO4 := HO2.out.below (hB4.alloc (by simp) (.cells #[.string na, .slice none 0 0] 47))
                  refine wpAnyH_ready (rs := [8]) (by kernel_rfl) (by simp) ?_
                  refine AllReadyH.cons rfl (fun K hK => ?_) ?_
                  · refine step_append_lies _ (by rfl) _ _ _ (by rfl) w2.heap.size 47 i4 _ 2 40 Tryz.underlying63 hi4 hza4 hzb4 hzc4 rfl (by omega) (.slice oa ps.length oc) ps.length (ps.flatMap Ea.cells) (by rfl) HO4.1 ⟨wc.heap.size, 0, none⟩ 1 1 [.string na, .slice none 0 0] (by rfl) (by rfl) (World.news_of_block (cs := #[.string na, .slice none 0 0]) (t := 47) (fr := (0, 0)) (heap_alloc_new wc.drew _)) (by simp [Value.oneCell']) (by omega) (by unfold maxLen; omega) (by omega) (by simp; omega) (wc.heap.size + 1) (by simp) ?_
                    intro g5 cap5 w5 hown5 hgrow5 hat5 hlt5
                    refine hK.out _ _ ?_ (fun hHeld => ?_)
                    · exact ⟨(hgrow5.cell_far ⟨wr.heap.size, 0, none⟩ (by simp; omega) (fun e => by have := (HOB.out _ e.symm).2; simp at this)).trans hHeld.1, (hgrow5.cell_far ⟨wr.heap.size, 1, none⟩ (by simp; omega) (fun e => by have := (HOB.out _ e.symm).2; simp at this)).trans hHeld.2⟩
                    clear hK K
                    try simp only [Act.put, List.setIfInBounds_toArray]
                    refine wpAnyH_take (i := 9) (v := ?_) rfl (by kernel_rfl) (by kernel_rfl) (by kernel_rfl) (fun _ _ _ h => h) (Or.inl ⟨by rfl, ?_⟩) hHeld ?_
                    rotate_left
                    · intro w hSw
                      obtain ⟨s1, s2⟩ := hSw
                      go_simp
                      try with_reducible rfl
                    try simp only [Act.put]
                    refine wpAnyH_done (by kernel_rfl) ?_ _
                    go_wp2_with fail
                    have hpush := HO4.push (p := ⟨na, none, 0, 0, t⟩) hown5 hgrow5 (by simpa using hat5) ⟨Nat.zero_le _, .inl ⟨none, 0, rfl, rfl⟩⟩ (fun a ha => by cases ha)
                    refine ⟨⟨k + 1, ps ++ [⟨na, none, 0, 0, t⟩], _, _, by rw [List.length_append]; rfl, by go_num, by omega, by simp; omega, hpush, ?_, ?_⟩, by simp [intOf]; omega⟩
                    · exact ((HB3.out.trans (hB4.mono hzw)).alloc (by simpa using hzw) _).grown hgrow5 (by simp; omega) (fun b hb => (HOB.out b hb).1)
                    · have h := HDD.out
                      rw [List.map_append]
                      exact h
                  exact AllReadyH.nil
                exact AllReadyH.nil
              exact AllReadyH.nil
          · refine wp_region_held_drew (S := (fun w' => w'.cell? ⟨wr.heap.size, 0, none⟩ = some (.string na) ∧ w'.cell? ⟨wr.heap.size, 1, none⟩ = some (.slice tp n tc))) (by kernel_rfl) ⟨b0, b1⟩ (fun hHeld => ?_)
            refine wpAnyH_take (i := 0) (v := ?_) rfl (by kernel_rfl) (by kernel_rfl) (by kernel_rfl) (fun _ _ _ h => h) (Or.inl ⟨by rfl, ?_⟩) hHeld ?_
            rotate_left
            · intro w hSw
              obtain ⟨s1, s2⟩ := hSw
              go_simp
              try with_reducible rfl
            try simp only [Act.put, List.setIfInBounds_toArray]
            refine wpAnyH_take (i := 1) (v := ?_) rfl (by kernel_rfl) (by kernel_rfl) (by kernel_rfl) (fun _ _ _ h => h) (Or.inl ⟨by rfl, ?_⟩) hHeld ?_
            rotate_left
            · intro w hSw
              obtain ⟨s1, s2⟩ := hSw
              go_simp
              try with_reducible rfl
            try simp only [Act.put]
            refine wpAnyH_take (i := 2) (v := ?_) rfl (by kernel_rfl) (by kernel_rfl) (by kernel_rfl) (fun _ _ _ h => h) (Or.inl ⟨by rfl, ?_⟩) hHeld ?_
            rotate_left
            · intro w hSw
              obtain ⟨s1, s2⟩ := hSw
              go_simp
              try with_reducible rfl
            try simp only [Act.put]
            refine wpAnyH_take (i := 3) (v := ?_) rfl (by kernel_rfl) (by kernel_rfl) (by kernel_rfl) (fun _ _ _ h => h) (Or.inl ⟨by rfl, ?_⟩) hHeld ?_
            rotate_left
            · intro w hSw
              obtain ⟨s1, s2⟩ := hSw
              go_simp
              try with_reducible rfl
            try simp only [Act.put]
            refine wpAnyH_take (i := 4) (v := ?_) rfl (by kernel_rfl) (by kernel_rfl) (by kernel_rfl) (fun _ _ _ h => h) (Or.inl ⟨by rfl, ?_⟩) hHeld ?_
            rotate_left
            · intro w hSw
              obtain ⟨s1, s2⟩ := hSw
              go_simp
              try with_reducible rfl
            try simp only [Act.put]
            obtain ⟨_, ⟨_, _, _, hz⟩ | ⟨gt, tc', hv, hgt, htc, hterms⟩⟩ := HT.out
            · exact absurd hz hn0
            simp only [Value.slice.injEq] at hv
            obtain ⟨hv1, _, hv2⟩ := hv
            subst hv1 hv2
            obtain ⟨i6, hi6, hza6, hzb6, hzc6⟩ := info_parts (P := Tryz.prog) (e := 60) (z := .agg #[.int .i64 0, .int .i64 0, .string ⟨#[]⟩]) (size := 3) (bytes := 32) (by kernel_rfl)
            obtain ⟨i4, hi4, hza4, hzb4, hzc4⟩ := info_parts (P := Tryz.prog) (e := 47) (z := .agg #[.string ⟨#[]⟩, .slice none 0 0]) (size := 2) (bytes := 40) (by kernel_rfl)
            refine wpAnyH_ready (rs := [5]) (by kernel_rfl) (by simp) ?_
            refine AllReadyH.cons rfl (fun K hK => ?_) ?_
            · refine step_append_lies _ (by rfl) _ _ _ (by rfl) w2.heap.size 60 i6 _ 3 32 Tryz.underlying45 hi6 hza6 hzb6 hzc6 rfl (by omega) (.slice none 0 0) 0 [] (by rfl) (World.ownsRow_nil _ _ _ _) ⟨gt, 0, none⟩ n tc (tcells t n) (by rfl) (tcells_len t n) (news_terms hterms) (tcells_one t n) (by omega) (by unfold maxLen; omega) (by omega) (by simpa using hzw) wc.heap.size (by simp) ?_
              intro g4 cap4 w4 hown4 hgrow4 hat4 hlt4
              obtain rfl : g4 = wc.heap.size := by rcases hat4 with h | h; cases h; exact h
              have hz4 : wc.heap.size < w4.heap.size := hlt4
              refine hK.out _ _ ?_ (fun hHeld => ?_)
              · exact ⟨(hgrow4.cell_far ⟨wr.heap.size, 0, none⟩ (by simp; omega) (by simp [Value.ownBlock])).trans hHeld.1, (hgrow4.cell_far ⟨wr.heap.size, 1, none⟩ (by simp; omega) (by simp [Value.ownBlock])).trans hHeld.2⟩
              clear hK K
              try simp only [Act.put]
              refine wpAnyH_take (i := 6) (v := ?_) rfl (by kernel_rfl) (by kernel_rfl) (by kernel_rfl) (fun _ _ _ h => h) (Or.inl ⟨by rfl, ?_⟩) hHeld ?_
              rotate_left
              · intro w hSw
                obtain ⟨s1, s2⟩ := hSw
                go_simp
                try with_reducible rfl
              try simp only [Act.put]
              refine wpAnyH_ready (rs := [7]) (by kernel_rfl) (by simp) ?_
              refine AllReadyH.cons rfl (fun K hK => ?_) ?_
              · go_simp
                refine hK.out _ _ ?_ (fun hHeld => ?_)
                · exact ⟨(cell_alloc_old _ _ _ _ (by omega)).trans hHeld.1, (cell_alloc_old _ _ _ _ (by omega)).trans hHeld.2⟩
                clear hK K
                try simp only [Act.put, List.setIfInBounds_toArray, List.set_cons_zero, List.set_cons_succ]
                have hB4 : Below wc.heap.size wc w4 := ⟨hgrow4.os, hgrow4.tape, hgrow4.output, by have := hgrow4.size; simpa using this, fun j hj => hgrow4.block j (by simpa using hj) (by simp [Value.ownBlock])⟩
                have HO4 := HO2.out.below (hB4.alloc (by omega) (.cells #[.string na, .slice (some ⟨wc.heap.size, 0, none⟩) n cap4] 47))
                refine wpAnyH_ready (rs := [8]) (by kernel_rfl) (by simp) ?_
                refine AllReadyH.cons rfl (fun K hK => ?_) ?_
                · refine step_append_lies _ (by rfl) _ _ _ (by rfl) w2.heap.size 47 i4 _ 2 40 Tryz.underlying63 hi4 hza4 hzb4 hzc4 rfl (by omega) (.slice oa ps.length oc) ps.length (ps.flatMap Ea.cells) (by rfl) HO4.1 ⟨w4.heap.size, 0, none⟩ 1 1 [.string na, .slice (some ⟨wc.heap.size, 0, none⟩) n cap4] (by rfl) (by rfl) (World.news_of_block (cs := #[.string na, .slice (some ⟨wc.heap.size, 0, none⟩) n cap4]) (t := 47) (fr := (0, 0)) (heap_alloc_new w4 _)) (by simp [Value.oneCell']) (by omega) (by unfold maxLen; omega) (by omega) (by simp; omega) (w4.heap.size + 1) (by simp) ?_
                  intro g5 cap5 w5 hown5 hgrow5 hat5 hlt5
                  refine hK.out _ _ ?_ (fun hHeld => ?_)
                  · exact ⟨(hgrow5.cell_far ⟨wr.heap.size, 0, none⟩ (by simp; omega) (fun e => by have := (HOB.out _ e.symm).2; simp at this)).trans hHeld.1, (hgrow5.cell_far ⟨wr.heap.size, 1, none⟩ (by simp; omega) (fun e => by have := (HOB.out _ e.symm).2; simp at this)).trans hHeld.2⟩
                  clear hK K
                  try simp only [Act.put, List.setIfInBounds_toArray]
                  refine wpAnyH_take (i := 9) (v := ?_) rfl (by kernel_rfl) (by kernel_rfl) (by kernel_rfl) (fun _ _ _ h => h) (Or.inl ⟨by rfl, ?_⟩) hHeld ?_
                  rotate_left
                  · intro w hSw
                    obtain ⟨s1, s2⟩ := hSw
                    go_simp
                    try with_reducible rfl
                  try simp only [Act.put]
                  refine wpAnyH_done (by kernel_rfl) ?_ _
                  go_wp2_with fail
                  simp only [Nat.zero_add, List.nil_append] at hown4
                  have hIT : IsTerms (w4.alloc (.cells #[.string na, .slice (some ⟨wc.heap.size, 0, none⟩) n cap4] 47)) (.slice (some ⟨wc.heap.size, 0, none⟩) n cap4) n t := (own_terms hown4 (by omega)).below ((Below.refl _ _).alloc (Nat.le_refl _) _)
                  have hpush := HO4.push (p := ⟨na, some ⟨wc.heap.size, 0, none⟩, n, cap4, t⟩) hown5 hgrow5 (by simpa using hat5) hIT (fun a ha => by
                    cases ha
                    refine ⟨hzw, by simp; omega, fun e => ?_⟩
                    have := (HOB.out _ e).2
                    simp at this
                    omega)
                  refine ⟨⟨k + 1, ps ++ [⟨na, some ⟨wc.heap.size, 0, none⟩, n, cap4, t⟩], _, _, by rw [List.length_append]; rfl, by go_num, by omega, by simp; omega, hpush, ?_, ?_⟩, by simp [intOf]; omega⟩
                  · exact ((HB3.out.trans (hB4.mono hzw)).alloc (by omega) _).grown hgrow5 (by simp; omega) (fun b hb => (HOB.out b hb).1)
                  · have h := HDD.out
                    rw [List.map_append]
                    exact h
                exact AllReadyH.nil
              exact AllReadyH.nil
            exact AllReadyH.nil
    · clear hout hbr
      obtain rfl : k = l.length := by omega
      go_wp2_with fail
      refine bodyPost_ret (v := .slice oa ps.length oc) (by simp [results, go_sem]) rfl ⟨_, rfl, ps, ?_, hpk, HB2.out.trans (HBR.out.mono hz2), ord_of hd hat HP0.out HDd.out⟩
      exact ⟨own_mono HOUT.out.1 hz2, fun p hp => ⟨(HOUT.out.2 p hp).1, fun a ha => ⟨Nat.le_trans hz2 ((HOUT.out.2 p hp).2 a ha).1, ((HOUT.out.2 p hp).2 a ha).2⟩⟩⟩

set_option maxRecDepth 100000 in
set_option maxHeartbeats 4000000 in
theorem io_none (v : Value) (w : World) (hc : Calls Tryz.prog 119 #[v] w fun e w' => ∃ p cap, e = .returned (.slice p 0 cap) ∧ Below w.heap.size w w') :
    Calls Tryz.prog 78 #[v] w fun e w' => e = .returned (.slice none 0 0) ∧ Below w.heap.size w w' := by
  have HC := hide hc
  clear hc
  go_enter Tryz.func78, Tryz.ntmps78
  go_wp2_with (go_at_call 119; refine HC.out.mono ?_; rintro e w1 ⟨p, cap, rfl, hb⟩)
  have HS := hide (sort_none p cap w1)
  go_wp2_with (go_at_call 120; refine HS.out.mono ?_; rintro e w' ⟨rfl, rfl⟩)
  go_loop [4, 13] (fun a b => a = .slice none 0 0 ∧ b = .int .i64 0) (fun _ _ => 0)
  case atStart => exact ⟨rfl, rfl⟩
  case round =>
    obtain ⟨rfl, rfl⟩ := hrel
    go_wp2_with fail
    exact bodyPost_ret (v := .slice none 0 0) (by simp [results, go_sem]) rfl ⟨rfl, hb⟩

theorem inOrder_any (B : Nat) (w : World) (v : Value) (l : List Atm) (h : Atoms B w v l) :
    Calls Tryz.prog 78 #[v] w fun e w' => ∃ v' out, e = .returned v' ∧ Atoms w.heap.size w' v' out ∧ Below w.heap.size w w' ∧ Ord l out ∧ out.length ≤ l.length := by
  have hnil : ∀ w', Atoms w.heap.size w' (.slice none 0 0) [] := fun w' => ⟨by simp, .inl ⟨rfl, rfl⟩⟩
  have hord : Ord [] [] := ⟨List.Pairwise.nil, fun y hy => by simp at hy, fun x hx => by simp at hx⟩
  obtain ⟨hl, ⟨rfl, rfl⟩ | ⟨g, c, rfl, hB, hg, hc, ht⟩⟩ := h
  · exact (io_none _ w ((clone_nil w).mono fun _ _ q => ⟨none, 0, q.1, by rw [q.2]; exact Below.refl _ _⟩)).mono fun _ _ q => ⟨_, [], q.1, hnil _, q.2, hord, Nat.le_refl _⟩
  · by_cases h0 : l.length = 0
    · obtain rfl : l = [] := List.length_eq_zero_iff.1 h0
      refine (io_none _ w ((clone_some g c 0 [] w rfl (fun j u hu => by simp at hu) (fun u hu => by simp at hu) (by omega) hg).mono fun _ _ q => ?_)).mono fun _ _ q => ⟨_, [], q.1, hnil _, q.2, hord, Nat.le_refl _⟩
      obtain ⟨v', he, ho, hb⟩ := q
      obtain ⟨a, c', rfl⟩ := own_slice ho
      exact ⟨a, c', he, hb⟩
    · refine (io_some B g c l w (by omega) hl hg ht).mono fun _ w' q => ?_
      obtain ⟨v', ps, he, hout, hpl, hb, ho⟩ := q
      exact ⟨v', ps.map Ea.atm, he, hout.atoms (by omega), hb, ho, by simpa using hpl⟩
end Go.Proofs.YtfiipfcdddaceaaGreatDoor
