import Derived.Test.YtfiipfcdddaceaaGreatDoorJd
import Derived.Test.YtfiipfcdddaceaaGreatDoorJb
namespace Go.Proofs.YtfiipfcdddaceaaGreatDoor
open Go.RowKit Go.Sort Go.Shelf

theorem cmpS_eq {a b : ByteArray} (h : cmpS a b = 0) : a = b := by
  unfold cmpS at h
  split at h
  · cases h
  · split at h
    · rename_i h1
      have e : a.toList = b.toList := by simpa using h1
      rw [ByteArray.toList_eq, ByteArray.toList_eq] at e
      exact ByteArray.ext (Array.ext' e)
    · cases h
theorem cmpT_eq {a b : Tm} (h : cmpT a b = 0) : a.kind = b.kind ∧ (a.kind = 1 → a.num = b.num) ∧ (a.kind ≠ 1 → a.text = b.text) := by
  unfold cmpT at h
  split at h
  · rename_i hk
    split at h
    · rename_i h1
      exact ⟨hk, fun _ => cmpI_eq _ _ h, fun h2 => absurd h1 h2⟩
    · rename_i h1
      exact ⟨hk, fun h2 => absurd h2 h1, fun _ => cmpS_eq h⟩
  · rename_i hk
    exact absurd (cmpI_eq _ _ h) hk
theorem plainL_eq {a b : Tm} (h : cmpT a b = 0) : plainL a = plainL b := by
  obtain ⟨h1, h2, h3⟩ := cmpT_eq h
  unfold plainL
  by_cases hk : a.kind = 1
  · rw [if_pos hk, if_pos (h1.symm.trans hk), h2 hk]
  · have hb : ¬ b.kind = 1 := fun e => hk (h1.trans e)
    rw [if_neg hk, if_neg hb, h3 hk, h1]
theorem cmpTs_all {ta tb : Nat → Tm} : ∀ {n : Nat}, cmpTs ta tb n = 0 → ∀ j, j < n → cmpT (ta j) (tb j) = 0
  | 0, _, j, hj => by omega
  | n + 1, h, j, hj => by
    rw [cmpTs_succ] at h
    by_cases h0 : cmpTs ta tb n = 0
    · rw [if_pos h0] at h
      by_cases e : j < n
      · exact cmpTs_all h0 j e
      · obtain rfl : j = n := by omega
        exact h
    · rw [if_neg h0] at h
      exact absurd h h0
/-- What the order holds for the same has the same name, the same number of terms, the same terms. -/
theorem cmpX_eq {x y : Atm} (h : cmpX x y = 0) : x.na = y.na ∧ x.n = y.n ∧ ∀ j, j < x.n → cmpT (x.t j) (y.t j) = 0 := by
  unfold cmpX cmpA at h
  split at h
  · rename_i h1
    split at h
    · rename_i h2
      have hn : x.n = y.n := by have := cmpI_eq _ _ h2; omega
      exact ⟨cmpS_eq h1, hn, cmpTs_all h⟩
    · rename_i h2; exact absurd h h2
  · rename_i h1; exact absurd h h1
theorem lineT_eq {ta tb : Nat → Tm} : ∀ {n : Nat}, (∀ j, j < n → cmpT (ta j) (tb j) = 0) → lineT ta n = lineT tb n
  | 0, _ => rfl
  | n + 1, h => by rw [lineT_succ, lineT_succ, lineT_eq fun j hj => h j (by omega), plainL_eq (h n (by omega))]
theorem lineL_eq {x y : Atm} (h : cmpX x y = 0) : lineL x = lineL y := by
  obtain ⟨h1, h2, h3⟩ := cmpX_eq h
  unfold lineL
  rw [h1, lineT_eq h3, h2]

theorem mem_map {l : List Rx} {z : Atm} : Mem cmpX (l.map Rx.x) z ↔ ∃ r ∈ l, cmpX r.x z = 0 := by
  unfold Mem
  constructor
  · rintro ⟨y, hy, h⟩
    obtain ⟨r, hr, rfl⟩ := List.mem_map.1 hy
    exact ⟨r, hr, h⟩
  · rintro ⟨r, hr, h⟩
    exact ⟨r.x, List.mem_map.2 ⟨r, hr, rfl⟩, h⟩
/-- The document's list of them, put in order: it is one. -/
theorem Laid.ord {l out : List Rx} (h : Laid cmpR l out) : Ord (l.map Rx.x) (out.map Rx.x) := by
  refine ⟨List.pairwise_map.2 h.str, fun y hy => ?_, fun x hx => ?_⟩
  · obtain ⟨r, hr, rfl⟩ := List.mem_map.1 hy
    exact List.mem_map.2 ⟨r, h.sub r hr, rfl⟩
  · obtain ⟨r, hr, rfl⟩ := List.mem_map.1 hx
    obtain ⟨s, hs, h0⟩ := (h.mem r).2 ⟨r, hr, cmpR_cmp.refl r⟩
    exact mem_map.2 ⟨s, hs, h0⟩
theorem Ord.same {l a b : List Atm} (ha : Ord l a) (hb : Ord l b) : a.length = b.length ∧ ∀ i (h1 : i < a.length) (h2 : i < b.length), cmpX a[i] b[i] = 0 :=
  str_same cmpX_cmp a b ha.str hb.str fun z => by rw [ha.mem, hb.mem]
theorem Ord.lines {l a b : List Atm} (ha : Ord l a) (hb : Ord l b) : a.flatMap lineL = b.flatMap lineL := by
  obtain ⟨h1, h2⟩ := ha.same hb
  have e : a.map lineL = b.map lineL := List.ext_getElem (by simp [h1]) fun i hi hj => by
    simp only [List.getElem_map]
    exact lineL_eq (h2 i (by simpa using hi) (by simpa using hj))
  rw [List.flatMap_def, List.flatMap_def, e]
end Go.Proofs.YtfiipfcdddaceaaGreatDoor

namespace Go.Proofs.YtfiipfcdddaceaaGreatDoor
open Go.RowKit Go.Sort Go.Shelf

theorem Some4.is {w : World} {a : Option Addr} {n c : Nat} {t : Nat → Tm} {p : Nat → Int} (h : Some4 w a n c t p) (hn : n ≤ 1099511627776) : IsRTerms w (.slice a n c) n t := by
  by_cases h0 : 0 < n
  · obtain ⟨g, off, rfl, hg, hc, ht⟩ := h h0
    exact ⟨hn, .inr ⟨g, off, c, rfl, hg, hc, fun j hj => ⟨(ht j hj).1, (ht j hj).2.1, (ht j hj).2.2.1⟩⟩⟩
  · obtain rfl : n = 0 := by omega
    exact ⟨hn, .inl ⟨a, c, rfl, rfl⟩⟩

set_option maxRecDepth 100000 in
set_option maxHeartbeats 4000000 in
/-- A list is still what it was. -/
theorem kept_any (B : Nat) (pa : Option Addr) (ca : Nat) (vb : Value) (l : List Rx) (w : World) (ha : Atoms B w (.slice pa l.length ca) (l.map Rx.x)) (hb : RL w vb l) :
    Calls Tryz.prog 37 #[.slice pa l.length ca, vb] w fun e w' => e = .returned (.bool true) ∧ Below w.heap.size w w' := by
  obtain ⟨pb, cb, rfl⟩ := hb.shape
  have hl := hb.1
  have HA := hide ha
  have HB := hide hb
  clear ha hb
  go_enter Tryz.func37, Tryz.ntmps37
  go_wp2_with fail
  go_loopw [5] (fun iv wr => ∃ k : Nat, iv = .int .i64 k ∧ k ≤ l.length ∧ Hid (Below w.heap.size w wr)) (fun iv _ => l.length - (intOf iv).toNat)
  case atStart => exact ⟨0, rfl, by omega, Below.refl _ _⟩
  case round =>
    obtain ⟨k, rfl, hk, HW⟩ := hrel
    have hzr := HW.out.size
    by_cases hlt : k < l.length
    · obtain ⟨g, off, hp, hg, x0, x1, x2⟩ := HB.out.at k hlt
      subst hp
      obtain ⟨ga, hpa, hga, hca⟩ := HA.out.got (by simpa using (show 0 < l.length by omega))
      subst hpa
      obtain ⟨ta, tac, a0, a1, hita⟩ := hca k (by simpa using hlt)
      simp only [List.getElem_map] at a0 a1 hita
      have hok := HB.out.2.1 _ (List.getElem_mem hlt)
      have HG := hide (fun wx (hbx : Below w.heap.size w wx) => given_own l[k].x.na (.slice l[k].tp l[k].x.n l[k].tc) l[k].x.n l[k].at_ l[k].x.t wx ((hok.some.is hok.n).below hbx))
      have z0 := (HW.out.cell (p := ⟨g, off + k * 3, none⟩) hg).trans x0
      have z1 := (HW.out.cell (p := ⟨g, off + k * 3 + 1, none⟩) hg).trans x1
      have z2 := (HW.out.cell (p := ⟨g, off + k * 3 + 2, none⟩) hg).trans x2
      have A0 := hide a0
      have A1 := hide a1
      have HIA := hide hita
      clear x0 x1 x2 a0 a1 hita hca
      have hkz : (k : Int) < (l.length : Int) := by omega
      have hgr : g < wr.heap.size := by omega
      have hnn : l[k].x.n ≤ 1099511627776 := hok.n
      clear hok
      generalize l[k].x.na = nb at *
      generalize l[k].x.n = m at *
      generalize l[k].x.t = tb at *
      generalize l[k].tp = tpb at *
      generalize l[k].tc = tcb at *
      generalize l[k].at_ = bp at *
      go_wp2_with fail
      refine (HG.out _ HW.out).mono ?_
      rintro e w3 ⟨py, cy, rfl, hity, hbly, hb3⟩
      have hz3 := hb3.size
      have HW3 : Hid (Below w.heap.size w (w3.alloc (.cells #[.string nb, .slice py m cy] 47))) := (HW.out.trans (hb3.mono hzr)).alloc (by omega) _
      have HIY := hide (hity.below ((Below.refl _ _).alloc (Nat.le_refl _) (.cells #[.string nb, .slice py m cy] 47)))
      have y0 : (w3.alloc (.cells #[.string nb, .slice py m cy] 47)).cell? ⟨w3.heap.size, 0, none⟩ = some (.string nb) := by simp
      have y1 : (w3.alloc (.cells #[.string nb, .slice py m cy] 47)).cell? ⟨w3.heap.size, 1, none⟩ = some (.slice py m cy) := by simp
      have hzw4 : w3.heap.size < (w3.alloc (.cells #[.string nb, .slice py m cy] 47)).heap.size := by simp
      have c0 := (HW3.out.cell (p := ⟨ga, k * 2, none⟩) hga).trans A0.out
      have c1 := (HW3.out.cell (p := ⟨ga, k * 2 + 1, none⟩) hga).trans A1.out
      have hgaw : ga < (w3.alloc (.cells #[.string nb, .slice py m cy] 47)).heap.size := by simp; omega
      have hgw3 : ga < w3.heap.size := by omega
      clear hity hbly hb3 HG
      go_wp2_with fail
      generalize w3.alloc (.cells #[.string nb, .slice py m cy] 47) = w4 at *
      generalize w3.heap.size = yb at *
      go_big_quiet (fail)
      go_wp2_with fail
      obtain ⟨w5, hw5⟩ : ∃ w5, w5 = w4.drewN nq := ⟨_, rfl⟩
      rw [← hw5]
      have HW5 : Hid (Below w.heap.size w w5) := by rw [hw5]; exact below_drewN HW3.out nq
      have HIY5 : Hid (IsTerms w5 (.slice py m cy) m tb) := by rw [hw5]; exact HIY.out
      have y51 : w5.cell? ⟨yb, 1, none⟩ = some (.slice py m cy) := by rw [hw5]; exact y1
      have c51 : w5.cell? ⟨ga, k * 2 + 1, none⟩ = some (.slice ta m tac) := by rw [hw5]; exact c1
      have hya : yb < w5.heap.size := by rw [hw5]; exact hzw4
      have hgaw5 : ga < w5.heap.size := by rw [hw5]; exact hgaw
      clear hw5 y0 y1 c0 c1 HIY HW3 hzw4 hgaw hgw3 z0 z1 z2 hgr
      go_loopw [7] (fun jv wq => ∃ (j q : Nat), jv = .int .i64 j ∧ j ≤ m ∧ Hid (wq = w5.drewN q)) (fun jv _ => m - (intOf jv).toNat)
      case atStart => exact ⟨0, 0, rfl, by omega, rfl⟩
      case round =>
        obtain ⟨j, q, rfl, hj, HQ⟩ := hrel
        have e51 : wr.cell? ⟨yb, 1, none⟩ = some (.slice py m cy) := by rw [HQ.out]; exact y51
        have f51 : wr.cell? ⟨ga, k * 2 + 1, none⟩ = some (.slice ta m tac) := by rw [HQ.out]; exact c51
        have hyr : yb < wr.heap.size := by rw [HQ.out]; exact hya
        have hgr : ga < wr.heap.size := by rw [HQ.out]; exact hgaw5
        by_cases hlt2 : j < m
        · obtain ⟨_, ⟨_, _, _, h0⟩ | ⟨g6, c6, hv6, hg6, hc6, ht6⟩⟩ := HIY5.out
          · omega
          · cases hv6
            obtain ⟨_, ⟨_, _, _, h0⟩ | ⟨g7, c7, hv7, hg7, hc7, ht7⟩⟩ := HIA.out
            · omega
            · cases hv7
              obtain ⟨s0, s1, s2⟩ := ht6 j hlt2
              obtain ⟨t0, t1, t2⟩ := ht7 j hlt2
              rw [Nat.mul_comm] at s0 s1 s2 t0 t1 t2
              have hg6r : g6 < wr.heap.size := by rw [HQ.out]; exact hg6
              have hg7r : g7 < wr.heap.size := by rw [HQ.out]; exact Nat.lt_of_lt_of_le hg7 HW5.out.size
              have u0 : wr.cell? ⟨g6, j * 3, none⟩ = some (.int .i64 (tb j).kind) := by rw [HQ.out]; exact s0
              have u1 : wr.cell? ⟨g6, j * 3 + 1, none⟩ = some (.int .i64 (tb j).num) := by rw [HQ.out]; exact s1
              have u2' : wr.cell? ⟨g6, j * 3 + 2, none⟩ = some (.string (tb j).text) := by rw [HQ.out]; exact s2
              have v0 : wr.cell? ⟨g7, j * 3, none⟩ = some (.int .i64 (tb j).kind) := by rw [HQ.out]; exact (HW5.out.cell (p := ⟨g7, j * 3, none⟩) hg7).trans t0
              have v1 : wr.cell? ⟨g7, j * 3 + 1, none⟩ = some (.int .i64 (tb j).num) := by rw [HQ.out]; exact (HW5.out.cell (p := ⟨g7, j * 3 + 1, none⟩) hg7).trans t1
              have v2 : wr.cell? ⟨g7, j * 3 + 2, none⟩ = some (.string (tb j).text) := by rw [HQ.out]; exact (HW5.out.cell (p := ⟨g7, j * 3 + 2, none⟩) hg7).trans t2
              clear s0 s1 s2 t0 t1 t2 ht6 ht7
              have hjz : (j : Int) < (m : Int) := by omega
              generalize (tb j).kind = tk at *
              generalize (tb j).num = tn at *
              generalize (tb j).text = tx at *
              go_wp2_with fail
              go_big_quiet (fail)
              go_wp2_with fail
              exact ⟨⟨j + 1, q + nq, by go_num, by omega, by show _ = _; rw [HQ.out, World.drewN_drewN]⟩, by simp [intOf]; omega⟩
        · obtain rfl : j = m := by omega
          go_wp2_with fail
          exact ⟨⟨k + 1, by go_num, by omega, by show Below _ _ _; rw [HQ.out]; exact below_drewN HW5.out q⟩, by simp [intOf]; omega⟩
    · go_wp2_with fail
      exact bodyPost_ret (v := .bool true) (by simp [results, go_sem]) rfl ⟨rfl, HW.out⟩
end Go.Proofs.YtfiipfcdddaceaaGreatDoor

namespace Go.Proofs.YtfiipfcdddaceaaGreatDoor
open Go.RowKit Go.Sort Go.Shelf

theorem RL.ra {w : World} {v : Value} {l : List Rx} (h : RL w v l) : RAtoms w v (l.map Rx.x) := by
  obtain ⟨hl, hok, ⟨a, c, hv, rfl⟩ | ⟨g, off, c, hv, hg, hc, ht⟩⟩ := h
  · exact ⟨by simp, .inl ⟨a, c, hv, rfl⟩⟩
  · refine ⟨by simpa using hl, .inr ⟨g, off, c, by simpa using hv, hg, by simpa using hc, fun i hi => ?_⟩⟩
    have hi' : i < l.length := by simpa using hi
    obtain ⟨h1, h2, h3⟩ := ht i hi'
    have ho := hok _ (List.getElem_mem hi')
    simp only [List.getElem_map]
    exact ⟨_, _, h1, h2, h3, ho.some.is ho.n⟩

theorem laid_all (l : List Rx) : ∃ o, Laid cmpR l o := by
  have key : ∀ k, k ≤ l.length → ∃ o, Laid cmpR (l.take k) o := by
    intro k
    induction k with
    | zero => intro _; exact ⟨[], by simpa using Laid.zero⟩
    | succ k ih =>
      intro hk
      obtain ⟨o, ho⟩ := ih (by omega)
      refine ⟨withL cmpR o (l[k]'(by omega)), ?_⟩
      rw [List.take_succ_eq_append_getElem (by omega)]
      exact ho.snoc cmpR_cmp _
  obtain ⟨o, ho⟩ := key l.length (Nat.le_refl _)
  rw [List.take_length] at ho
  exact ⟨o, ho⟩
theorem first_not (l : List Rx) (hall : ¬ ∀ r ∈ l, factB r.x = true) : ∃ m, ∃ hm : m < l.length, factB l[m].x = false ∧ ∀ i (hi : i < l.length), i < m → factB l[i].x = true := by
  have key : ∀ k, k ≤ l.length → (∃ m, ∃ hm : m < l.length, factB l[m].x = false ∧ ∀ i (hi : i < l.length), i < m → factB l[i].x = true) ∨ ∀ i (hi : i < l.length), i < k → factB l[i].x = true := by
    intro k
    induction k with
    | zero => intro _; exact Or.inr fun i hi h => by omega
    | succ k ih =>
      intro hk
      rcases ih (by omega) with h1 | h1
      · exact Or.inl h1
      · cases e : factB l[k].x
        · exact Or.inl ⟨k, by omega, e, h1⟩
        · refine Or.inr fun i hi hik => ?_
          by_cases e2 : i < k
          · exact h1 i hi e2
          · obtain rfl : i = k := by omega
            exact e
  rcases key l.length (Nat.le_refl _) with h1 | h1
  · exact h1
  · exact absurd (fun r hr => by obtain ⟨i, hi, rfl⟩ := List.getElem_of_mem hr; exact h1 i hi hi) hall

/-- rows.Fact of each. -/
def FactsOf (l : List Atm) : Prop := ∀ i (h : i < l.length) p tc w', IsTerms w' (.slice p l[i].n tc) l[i].n l[i].t → Calls Tryz.prog 38 #[.agg #[.string l[i].na, .slice p l[i].n tc]] w' fun e w'' => e = .returned (.bool (factB l[i])) ∧ Below w'.heap.size w' w''
theorem factsOf {w : World} {l : List Rx} (h : ∀ r ∈ l, r.Ok w) : FactsOf (l.map Rx.x) := fun i hi p tc w' hit => by
  have hi' : i < l.length := by simpa using hi
  have ho := h _ (List.getElem_mem hi')
  simp only [List.getElem_map] at hit ⊢
  exact fact_any _ p tc w' hit (by have := ho.na; unfold maxLen; omega) (fun j hj => by have := ho.tx j hj; unfold maxLen; omega)

/-- What both sides' Print answer. -/
structure Both (w : World) (v : Value) (l : List Rx) (s : ByteArray) (e : Int) (i : Nat) : Prop where
  p : ∀ wx p c, Below w.heap.size w wx → Atoms w.heap.size wx (.slice p (l.map Rx.x).length c) (l.map Rx.x) → Calls Tryz.prog 35 #[.slice p (l.map Rx.x).length c] wx fun x w' => x = .returned (.tuple #[.string s, .int .i64 e, .int .i64 i]) ∧ Below wx.heap.size wx w'
  q : ∀ wx, Below w.heap.size w wx → Calls Tryz.prog 36 #[v] wx fun x w' => x = .returned (.tuple #[.string s, .int .i64 e, .int .i64 i]) ∧ Below wx.heap.size wx w'

theorem both_fact (v : Value) (l : List Rx) (w : World) (h : RL w v l) (hl : l.length ≤ 2 ^ 20) (hok : ∀ r ∈ l, ∀ j, j < r.x.n → TmOk (r.x.t j))
    (hlen : ∀ out : List Atm, Ord (l.map Rx.x) out → out.length ≤ l.length → (out.flatMap lineL).length ≤ 70368744177664)
    (htab : Lib.TabIs Tryz.prog w "internal/strconv.uint64pow10" .u64 Lib.pow10Tab) (hall : ∀ r ∈ l, factB r.x = true) : ∃ s, Both w v l s 0 0 := by
  obtain ⟨o, hL⟩ := laid_all l
  have ho0 := hL.ord
  have hml : (l.map Rx.x).length = l.length := by simp
  have hl1 : l.length < 1073741824 := Nat.lt_of_le_of_lt hl (by decide)
  have hfa := factsOf h.2.1
  have htb := Lib.tabBelow_of_tabIs htab
  refine ⟨⟨((o.map Rx.x).flatMap lineL).toArray⟩, ⟨fun wx p c hb hat => ?_, fun wx hb => ?_⟩⟩
  · have hF : ∀ i (h : i < (l.map Rx.x).length) q tc w', IsTerms w' (.slice q (l.map Rx.x)[i].n tc) (l.map Rx.x)[i].n (l.map Rx.x)[i].t → Calls Tryz.prog 38 #[.agg #[.string (l.map Rx.x)[i].na, .slice q (l.map Rx.x)[i].n tc]] w' fun e w'' => e = .returned (.bool true) ∧ Below w'.heap.size w' w'' := fun i hi q tc w' hit => by
      have h1 := hfa i hi q tc w' hit
      have hi' : i < l.length := by rwa [hml] at hi
      have hT : factB (l.map Rx.x)[i] = true := by rw [List.getElem_map]; exact hall _ (List.getElem_mem hi')
      rw [hT] at h1
      exact h1
    have hO : ∀ x ∈ l.map Rx.x, ∀ j, j < x.n → TmOk (x.t j) := fun x hx j hj => by
      obtain ⟨r, hr, rfl⟩ := List.mem_map.1 hx
      exact hok r hr j hj
    have hN : ∀ out, Ord (l.map Rx.x) out → out.length ≤ (l.map Rx.x).length → (out.flatMap lineL).length ≤ 140737488355328 := fun out ho hlo => by
      rw [hml] at hlo
      have := hlen out ho hlo
      omega
    refine (print_fact w.heap.size c p (l.map Rx.x) wx (by rw [hml]; omega) hat hF hO hN (htb _ hb)).mono ?_
    rintro x w' ⟨out, ho, rfl, hbb⟩
    rw [ho.lines ho0]
    exact ⟨rfl, hbb⟩
  · have hN : ∀ out, Laid cmpR l out → (out.flatMap fun r => lineL r.x).length ≤ 70368744177664 := fun out hL => by
      have := hlen _ hL.ord (by simpa using hL.len)
      rwa [List.flatMap_map] at this
    refine (rprint_fact v l wx (h.below hb) hl1 hall hok hN (htb _ hb)).mono ?_
    rintro x w' ⟨out, hL2, rfl, hbb⟩
    have e : (out.flatMap fun r => lineL r.x) = (o.map Rx.x).flatMap lineL := by
      rw [← hL2.ord.lines ho0, List.flatMap_map]
    rw [e]
    exact ⟨rfl, hbb⟩

theorem both_not (v : Value) (l : List Rx) (w : World) (h : RL w v l) (m : Nat) (hm : m < l.length) (hno : factB l[m].x = false) (hyes : ∀ i (hi : i < l.length), i < m → factB l[i].x = true) : Both w v l ⟨#[]⟩ 8 m := by
  have hml : (l.map Rx.x).length = l.length := by simp
  have hl := h.1
  refine ⟨fun wx p c hb hat => ?_, fun wx hb => ?_⟩
  · exact print_not w.heap.size c p (l.map Rx.x) wx (by rw [hml]; exact hl) hat m (by rw [hml]; exact hm) (factsOf h.2.1) (fun i hi him => by rw [List.getElem_map]; exact hyes i (by rwa [hml] at hi) him) (by rw [List.getElem_map]; exact hno)
  · exact rprint_not v l wx (h.below hb) m hm hyes hno
end Go.Proofs.YtfiipfcdddaceaaGreatDoor
