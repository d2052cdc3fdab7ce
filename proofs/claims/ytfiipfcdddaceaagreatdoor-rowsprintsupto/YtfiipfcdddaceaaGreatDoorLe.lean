import Derived.Test.YtfiipfcdddaceaaGreatDoorBs
namespace Go.Proofs.YtfiipfcdddaceaaGreatDoor
open Go.RowKit Go.Sort Go.Shelf

/-- The list that Less makes. -/
def Lft (B B1 : Nat) (w : World) (ov : Value) (ps : List Ea) : Prop :=
  w.ownsRow B1 47 2 ov ps.length (ps.flatMap Ea.cells) ∧ ∀ p ∈ ps, IsTerms w (.slice p.tp p.n p.tc) p.n p.t ∧ ∀ a, p.tp = some a → B ≤ a.block ∧ a.block < B1
theorem Lft.below {B B1 : Nat} {w w' : World} {ov : Value} {ps : List Ea} (h : Lft B B1 w ov ps) (hb : Below w.heap.size w w') : Lft B B1 w' ov ps :=
  ⟨own_below h.1 hb, fun p hp => ⟨(h.2 p hp).1.below hb, (h.2 p hp).2⟩⟩
theorem Lft.push {B B1 : Nat} {w w' : World} {ov v' : Value} {ps : List Ea} {p : Ea} (h : Lft B B1 w ov ps) (hB1 : B1 ≤ w.heap.size) (ho : w'.ownsRow B1 47 2 v' (ps.length + 1) (ps.flatMap Ea.cells ++ p.cells)) (hg : w.grownBy w' ov.ownBlock)
    (hp : IsTerms w (.slice p.tp p.n p.tc) p.n p.t) (hpb : ∀ a, p.tp = some a → B ≤ a.block ∧ a.block < B1) : Lft B B1 w' v' (ps ++ [p]) := by
  have key : ∀ q : Ea, (IsTerms w (.slice q.tp q.n q.tc) q.n q.t ∧ ∀ a, q.tp = some a → B ≤ a.block ∧ a.block < B1) → IsTerms w' (.slice q.tp q.n q.tc) q.n q.t ∧ ∀ a, q.tp = some a → B ≤ a.block ∧ a.block < B1 := fun q hq =>
    ⟨hq.1.keep (fun a ha => hg.block _ (by have := (hq.2 a ha).2; omega) (fun e => by have := own_lt h.1 _ e.symm; have := (hq.2 a ha).2; omega)) hg.size, hq.2⟩
  refine ⟨?_, fun q hq => ?_⟩
  · rw [List.length_append, List.flatMap_append]; simpa using ho
  · rcases List.mem_append.1 hq with h1 | h1
    · exact key q (h.2 q h1)
    · obtain rfl : q = p := by simpa using h1
      exact key q ⟨hp, hpb⟩

set_option maxRecDepth 100000 in
set_option maxHeartbeats 4000000 in
theorem less_any (Ba Bb : Nat) (va vb : Value) (la lb : List Atm) (w : World) (ha : Atoms Ba w va la) (hb : Atoms Bb w vb lb) :
    Calls Tryz.prog 41 #[va, vb] w fun e w' => ∃ v' out, e = .returned v' ∧ Atoms w.heap.size w' v' out ∧ Below w.heap.size w w' ∧ Str cmpX out ∧ (∀ x, Mem cmpX out x ↔ Mem cmpX la x ∧ ¬ Mem cmpX lb x) ∧ out.length ≤ la.length := by
  have HA := hide ha
  have hla := ha.1
  have HB := hide (inOrder_any Bb w vb lb hb)
  clear ha hb
  go_enter Tryz.func41, Tryz.ntmps41
  go_wp2_with fail
  refine HB.out.mono ?_
  rintro e w1 ⟨vg, lg, rfl, hatg, hbg, hordg, hleng⟩
  have HI := hide (inOrder_any Ba w1 va la (HA.out.below hbg))
  have HG := hide hatg
  have HOG := hide hordg
  have HBG := hide hbg
  clear hatg hordg hbg HB
  go_wp2_with fail
  refine HI.out.mono ?_
  rintro e w2 ⟨vs, ls, rfl, hats, hbs, hords, hlens⟩
  have HS := hide hats
  have HOS := hide hords
  have HBS := hide hbs
  have hz1 := HBG.out.size
  have hz2 := hbs.size
  clear hats hords hbs HI
  have HMEM : Hid (∀ x, Mem cmpX (leftL ls lg) x ↔ Mem cmpX la x ∧ ¬ Mem cmpX lb x) := fun x => by rw [left_mem, HOS.out.mem, HOG.out.mem]
  have HG2 := hide (HG.out.below HBS.out)
  obtain ⟨hls, ⟨rfl, rfl⟩ | ⟨g, c, rfl, hgB, hg, hc, ht⟩⟩ := HS.out
  · go_wp2_with fail
    go_loop [6, 16] (fun a b => a = .slice none 0 0 ∧ b = .int .i64 0) (fun _ _ => 0)
    case atStart => exact ⟨rfl, rfl⟩
    case round =>
      obtain ⟨rfl, rfl⟩ := hrel
      go_wp2_with fail
      refine bodyPost_ret (v := .slice none 0 0) (by simp [results, go_sem]) rfl ?_
      exact ⟨.slice none 0 0, rfl, ([] : List Atm), ⟨by simp, .inl ⟨rfl, rfl⟩⟩, HBG.out.trans (HBS.out.mono hz1), List.Pairwise.nil, HMEM.out, by simp⟩
  · have HT := hide ht
    clear ht
    obtain ⟨pg, cg, hvg⟩ : ∃ p c, vg = .slice p lg.length c := by
      obtain ⟨_, ⟨rfl, rfl⟩ | ⟨g', c', rfl, _⟩⟩ := HG.out
      · exact ⟨_, _, rfl⟩
      · exact ⟨_, _, rfl⟩
    subst hvg
    go_wp2_with fail
    go_loopw [6, 16] (fun ov iv wr => ∃ (k : Nat) (ps : List Ea) (oa : Option Addr) (oc : Nat), ov = .slice oa ps.length oc ∧ iv = .int .i64 k ∧ k ≤ ls.length ∧ ps.length ≤ k ∧ Hid (ps.map Ea.atm = leftL (ls.take k) lg) ∧ Hid (Lft w1.heap.size w2.heap.size wr ov ps) ∧ Hid (Below w2.heap.size w2 wr)) (fun _ iv _ => ls.length - (intOf iv).toNat)
    case atStart => exact ⟨0, [], none, 0, rfl, rfl, by omega, by simp, by show _ = _; simp [leftL], ⟨⟨rfl, .inl ⟨rfl, rfl⟩⟩, fun p hp => by simp at hp⟩, Below.refl _ _⟩
    case round =>
      obtain ⟨k, ps, oa, oc, rfl, rfl, hk, hpk, HM, HL, HBR⟩ := hrel
      have hzr := HBR.out.size
      by_cases hlt : k < ls.length
      · obtain ⟨tp, tc, x0, x1, hit, hbl⟩ := HT.out k hlt
        have y0 := (HBR.out.cell (p := ⟨g, k * 2, none⟩) hg).trans x0
        have y1 := (HBR.out.cell (p := ⟨g, k * 2 + 1, none⟩) hg).trans x1
        have hal : Below wr.heap.size wr (wr.alloc (.cells #[.string ls[k].na, .slice tp ls[k].n tc] 47)) := (Below.refl _ _).alloc (Nat.le_refl _) _
        have HW : Hid (Below w2.heap.size w2 (wr.alloc (.cells #[.string ls[k].na, .slice tp ls[k].n tc] 47))) := HBR.out.trans (hal.mono hzr)
        have HC := hide (search_any ls[k] tp tc w.heap.size (.slice pg lg.length cg) lg (wr.alloc (.cells #[.string ls[k].na, .slice tp ls[k].n tc] 47)) (HG2.out.below HW.out) HOG.out.str (hit.below HW.out))
        have HP : Hid (∀ wx, Below w2.heap.size w2 wx → IsTerms wx (.slice tp ls[k].n tc) ls[k].n ls[k].t) := fun wx hx => hit.below hx
        have HPB := hide hbl
        have HSTEP := hide (left_step ls lg k hlt)
        clear x0 x1 hit hal hbl
        have hkz : (k : Int) < (ls.length : Int) := by omega
        obtain ⟨na, hna⟩ : ∃ x, ls[k].na = x := ⟨_, rfl⟩
        obtain ⟨nn, hnn⟩ : ∃ x, ls[k].n = x := ⟨_, rfl⟩
        have HAT : Hid (ls[k] = ⟨na, nn, ls[k].t⟩) := by show _ = _; rw [← hna, ← hnn]
        rw [hna, hnn] at HC HW
        rw [hnn] at HP
        rw [hna] at y0
        rw [hnn] at y1
        clear hna hnn
        generalize ls[k].t = tt at HP HAT
        cases hm : memB lg ls[k]
        · rw [hm] at HC HSTEP
          have hst := HSTEP.out
          simp only [Bool.false_eq_true, if_false] at hst
          have HST := hide hst
          clear hst HSTEP hm
          go_wp2_with fail
          refine HC.out.mono ?_
          rintro e w3 ⟨i, rfl, hb3⟩
          have hz3 := hb3.size
          simp only [World.size_alloc] at hz3
          have z0 : w3.cell? ⟨wr.heap.size, 0, none⟩ = some (.string na) := (hb3.cell (p := ⟨wr.heap.size, 0, none⟩) (by simp)).trans (by simp)
          have z1 : w3.cell? ⟨wr.heap.size, 1, none⟩ = some (.slice tp nn tc) := (hb3.cell (p := ⟨wr.heap.size, 1, none⟩) (by simp)).trans (by simp)
          have HB3 : Hid (Below w2.heap.size w2 w3) := HW.out.trans (hb3.mono (by simp; omega))
          have hbx : Below wr.heap.size wr (w3.alloc (.cells #[.string na, .slice tp nn tc] 47)) := (((Below.refl _ _).alloc (Nat.le_refl _) _).trans (hb3.mono (by simp))).alloc (by omega) _
          have HL3 := hide (HL.out.below hbx)
          clear hbx
          have hown3 := HL3.out.1
          go_wp2_with (at_builtin; refine app_src rfl _ _ rfl w2.heap.size _ _ _ rfl hown3 _ 1 [.string na, .slice tp nn tc] rfl (.inr ⟨w3.heap.size, 1, rfl, by simp, rfl, fun j u hu => by rw [← show (⟨w3.heap.size, 0, none⟩ : Addr).add j = ⟨w3.heap.size, j, none⟩ by rw [Addr.add_lit, Nat.zero_add]]; exact World.news_of_block (cs := #[.string na, .slice tp nn tc]) (t := 47) (fr := (0, 0)) (heap_alloc_new w3 _) j u hu, by simp [Value.oneCell']⟩) (by omega) (by simp; omega) ?_)
          intro v5 w5 hown5 hg5
          have hpush : Lft w1.heap.size w2.heap.size w5 v5 (ps ++ [⟨na, tp, nn, tc, tt⟩]) := HL3.out.push (by simp; omega) hown5 hg5 (HP.out _ (HB3.out.alloc (by omega) _)) (fun a ha => by have := HPB.out a ha; omega)
          obtain ⟨a5, c5, hv5⟩ := own_slice hown5
          have HPU := hide hpush
          have HG5 : Hid (Below w2.heap.size w2 w5) := (HB3.out.alloc (by omega) _).grown hg5 (by simp; omega) (fun b hb => own_lt hown3 b hb)
          clear hpush hown5 hg5 hown3 z0 z1
          subst hv5
          go_wp2_with fail
          refine ⟨⟨k + 1, ps ++ [(⟨na, tp, nn, tc, tt⟩ : Ea)], a5, c5, by rw [List.length_append]; rfl, by go_num, by omega, by simp; omega, ?_, HPU, HG5⟩, by simp [intOf]; omega⟩
          show _ = _
          rw [HST.out, List.map_append, HM.out, HAT.out]
          rfl
        · rw [hm] at HC HSTEP
          have hst := HSTEP.out
          simp only [if_true] at hst
          have HST := hide hst
          clear hst HSTEP hm
          go_wp2_with fail
          refine HC.out.mono ?_
          rintro e w3 ⟨i, rfl, hb3⟩
          have hz3 := hb3.size
          simp only [World.size_alloc] at hz3
          have HB3 : Hid (Below w2.heap.size w2 w3) := HW.out.trans (hb3.mono (by simp; omega))
          have hbx : Below wr.heap.size wr w3 := ((Below.refl _ _).alloc (Nat.le_refl _) _).trans (hb3.mono (by simp))
          have HL3 := hide (HL.out.below hbx)
          clear hbx hb3
          go_wp2_with fail
          refine ⟨⟨k + 1, ps, oa, oc, rfl, by go_num, by omega, by omega, ?_, HL3.out, HB3.out⟩, by simp [intOf]; omega⟩
          show _ = _
          rw [HST.out]; exact HM.out
      · obtain rfl : k = ls.length := by omega
        go_wp2_with fail
        have hm := HM.out
        rw [List.take_length] at hm
        refine bodyPost_ret (v := .slice oa ps.length oc) (by simp [results, go_sem]) rfl ⟨_, leftL ls lg, rfl, ?_, HBG.out.trans ((HBS.out.mono hz1).trans (HBR.out.mono (by omega))), left_str HOS.out.str, HMEM.out, ?_⟩
        · rw [← hm]
          exact atoms_of (B0 := w2.heap.size) HL.out.1 (fun p hp => ⟨(HL.out.2 p hp).1, fun a ha => by have := (HL.out.2 p hp).2 a ha; omega⟩) (by omega) (by omega)
        · have : (leftL ls lg).length ≤ ls.length := List.length_filter_le _ _
          omega
end Go.Proofs.YtfiipfcdddaceaaGreatDoor
