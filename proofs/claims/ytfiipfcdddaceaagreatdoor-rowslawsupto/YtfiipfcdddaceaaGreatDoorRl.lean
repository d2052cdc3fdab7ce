import Derived.Test.YtfiipfcdddaceaaGreatDoorGa
import Derived.Test.YtfiipfcdddaceaaGreatDoorSp
import Derived.BigQuiet
namespace Go.Proofs.YtfiipfcdddaceaaGreatDoor
open Go.RowKit Go.Sort Go.Shelf

/-- The k-th one's cells. -/
def Cell2 (w : World) (g k : Nat) (x : Atm) : Prop := ∃ tp tc, w.cell? ⟨g, k * 2, none⟩ = some (.string x.na) ∧ w.cell? ⟨g, k * 2 + 1, none⟩ = some (.slice tp x.n tc) ∧ IsTerms w (.slice tp x.n tc) x.n x.t
theorem Atoms.got {B : Nat} {w : World} {p : Option Addr} {n c : Nat} {l : List Atm} (h : Atoms B w (.slice p n c) l) (h0 : 0 < l.length) : ∃ g, p = some ⟨g, 0, none⟩ ∧ g < w.heap.size ∧ ∀ k (hk : k < l.length), Cell2 w g k l[k] := by
  obtain ⟨_, ⟨_, rfl⟩ | ⟨g, c', hv, _, hg, _, ht⟩⟩ := h
  · simp at h0
  · cases hv
    refine ⟨g, rfl, hg, fun k hk => ?_⟩
    obtain ⟨tp, tc, h1, h2, h3, _⟩ := ht k hk
    exact ⟨tp, tc, h1, h2, h3⟩

theorem Cell2.below {w w' : World} {g k : Nat} {x : Atm} (h : Cell2 w g k x) (hg : g < w.heap.size) (hb : Below w.heap.size w w') : Cell2 w' g k x := by
  obtain ⟨tp, tc, a, b, c⟩ := h
  exact ⟨tp, tc, (hb.cell (p := ⟨g, k * 2, none⟩) hg).trans a, (hb.cell (p := ⟨g, k * 2 + 1, none⟩) hg).trans b, c.below hb⟩
/-- An element, as the walk wants it. -/
def Elt (w : World) (g k : Nat) (x : Atm) (na : ByteArray) (tp : Option Addr) (n tc : Nat) : Prop :=
  x.na = na ∧ x.n = n ∧ (∀ q os, (grow (w.drewN q) os).cell? ⟨g, k * 2, none⟩ = some (.string na)) ∧ (∀ q os, (grow (w.drewN q) os).cell? ⟨g, k * 2 + 1, none⟩ = some (.slice tp n tc)) ∧ IsTerms w (.slice tp n tc) n x.t
theorem Cell2.elt {w : World} {g k : Nat} {x : Atm} (h : Cell2 w g k x) (hg : g < w.heap.size) : ∃ na tp n tc, Elt w g k x na tp n tc := by
  obtain ⟨tp, tc, a, b, c⟩ := h
  exact ⟨x.na, tp, x.n, tc, rfl, rfl, fun q os => cell_grown hg a q os, fun q os => cell_grown hg b q os, c⟩
theorem Elt.cmp {w : World} {g k g' k' : Nat} {x y : Atm} {na na' : ByteArray} {tp tp' : Option Addr} {n tc n' tc' : Nat} {r : Int} (h : Elt w g k x na tp n tc) (h' : Elt w g' k' y na' tp' n' tc') (hr : cmpX x y = r) (q : Nat) (os : Array Obj) :
    Calls Tryz.prog 22 #[.agg #[.string na, .slice tp n tc], .agg #[.string na', .slice tp' n' tc']] (grow (w.drewN q) os) fun e w' => e = .returned (.int .i64 r) ∧ ∃ q' os', w' = grow ((grow (w.drewN q) os).drewN q') os' := by
  obtain ⟨rfl, rfl, _, _, c⟩ := h
  obtain ⟨rfl, rfl, _, _, c'⟩ := h'
  have hB : Below w.heap.size w (grow (w.drewN q) os) := Gr.below ⟨q, os, rfl⟩
  subst hr
  exact order_gr x.na y.na _ _ x.n y.n x.t y.t _ (c.below hB) (c'.below hB)

/-- Two elements, and what the order says of them. -/
structure Pr (w : World) (na : ByteArray) (tp : Option Addr) (n tc : Nat) (na' : ByteArray) (tp' : Option Addr) (n' tc' : Nat) (r : Int) : Prop where
  hc : ∀ q os, Calls Tryz.prog 22 #[.agg #[.string na, .slice tp n tc], .agg #[.string na', .slice tp' n' tc']] (grow (w.drewN q) os) fun e w' => e = .returned (.int .i64 r) ∧ ∃ q' os', w' = grow ((grow (w.drewN q) os).drewN q') os'

/-- What the law has made so far. -/
structure St (w wi : World) (vp vq : Value) (la lb : List Atm) (gy : Nat) (x : Atm) (py : Option Addr) (cy : Nat) : Prop where
  bw : Below w.heap.size w wi
  p : Atoms 0 wi vp la
  q : Atoms 0 wi vq lb
  y : IsTerms wi (.slice py x.n cy) x.n x.t
  lt : gy < wi.heap.size
  y0 : wi.cell? ⟨gy, 0, none⟩ = some (.string x.na)
  y1 : wi.cell? ⟨gy, 1, none⟩ = some (.slice py x.n cy)
theorem St.below {w wi wj : World} {vp vq : Value} {la lb : List Atm} {gy : Nat} {x : Atm} {py : Option Addr} {cy : Nat} (h : St w wi vp vq la lb gy x py cy) (hb : Below wi.heap.size wi wj) : St w wj vp vq la lb gy x py cy :=
  ⟨h.bw.trans (hb.mono h.bw.size), h.p.below hb, h.q.below hb, h.y.below hb, Nat.lt_of_lt_of_le h.lt hb.size, (hb.cell (p := ⟨gy, 0, none⟩) h.lt).trans h.y0, (hb.cell (p := ⟨gy, 1, none⟩) h.lt).trans h.y1⟩

set_option maxRecDepth 100000 in
set_option maxHeartbeats 8000000 in
theorem rowsLaws_true (va vb : Value) (la lb : List Atm) (x : Atm) (vx : Value) (at_ : Int) (w : World) (ha : RAtoms w va la) (hb : RAtoms w vb lb) (hx : IsRTerms w vx x.n x.t) (hsum : la.length + lb.length ≤ 1073741824)
    (hal : ∀ w', Below w.heap.size w w' → Calls Tryz.prog 33 #[] w' fun e w'' => e = .returned (.bool true) ∧ Below w'.heap.size w' w'') :
    Calls Tryz.prog 13 #[va, vb, .agg #[.string x.na, vx, .int .i64 at_]] w fun e w' => e = .returned (.bool true) ∧ Below w.heap.size w w' := by
  obtain ⟨pxx, cxx, rfl⟩ := hx.shape
  have hbx : Below w.heap.size w (w.alloc (.cells #[.string x.na, .slice pxx x.n cxx, .int .i64 at_] 44)) := (Below.refl _ _).alloc (Nat.le_refl _) _
  have HA := hide (all_any va la _ (ha.below hbx))
  have HBR := hide hb
  have HXR := hide hx
  have HAL := hide hal
  have HBX := hide hbx
  clear ha hb hx hal hbx
  go_enter Tryz.func13, Tryz.ntmps13
  go_wp2_with fail
  refine HA.out.mono ?_
  rintro e w1 ⟨vp, rfl, hatp, hb1⟩
  have HB1 : Hid (Below w.heap.size w w1) := HBX.out.trans (hb1.mono (by simp))
  have HX1 : Hid (Below (w.heap.size + 1) (w.alloc (.cells #[.string x.na, .slice pxx x.n cxx, .int .i64 at_] 44)) w1) := by
    have h := hb1
    simp only [World.size_alloc] at h
    exact h
  have HP := hide hatp
  have HB := hide (all_any vb lb w1 (HBR.out.below HB1.out))
  clear hatp hb1 HA HBR
  go_wp2_with fail
  refine HB.out.mono ?_
  rintro e w2 ⟨vq, rfl, hatq, hb2⟩
  have hz1 := HX1.out.size
  simp only [World.size_alloc] at hz1
  have HB2 : Hid (Below w.heap.size w w2) := HB1.out.trans (hb2.mono (by omega))
  have HX2 : Hid (Below (w.heap.size + 1) (w.alloc (.cells #[.string x.na, .slice pxx x.n cxx, .int .i64 at_] 44)) w2) := HX1.out.trans (hb2.mono (by omega))
  have HP2 := hide (HP.out.below hb2)
  have HQ2 := hide hatq
  have hz2 := hb2.size
  clear hatq hb2 HB HP
  have c0 : w2.cell? ⟨w.heap.size, 0, none⟩ = some (.string x.na) := (HX2.out.cell (p := ⟨w.heap.size, 0, none⟩) (show w.heap.size < w.heap.size + 1 by omega)).trans (by simp)
  have c1 : w2.cell? ⟨w.heap.size, 1, none⟩ = some (.slice pxx x.n cxx) := (HX2.out.cell (p := ⟨w.heap.size, 1, none⟩) (show w.heap.size < w.heap.size + 1 by omega)).trans (by simp)
  have c2 : w2.cell? ⟨w.heap.size, 2, none⟩ = some (.int .i64 at_) := (HX2.out.cell (p := ⟨w.heap.size, 2, none⟩) (show w.heap.size < w.heap.size + 1 by omega)).trans (by simp)
  have HY := hide (given_own x.na (.slice pxx x.n cxx) x.n at_ x.t w2 (HXR.out.below HB2.out))
  clear HXR
  go_wp2_with fail
  refine HY.out.mono ?_
  rintro e w3 ⟨py, cy, rfl, hity, _, hb3⟩
  have hz3 := hb3.size
  clear c0 c1 c2
  have hb3' : Below w2.heap.size w2 (w3.alloc (.cells #[.string x.na, .slice py x.n cy] 47)) := hb3.alloc hz3 _
  have hyb : Below w3.heap.size w3 (w3.alloc (.cells #[.string x.na, .slice py x.n cy] 47)) := (Below.refl _ _).alloc (Nat.le_refl _) _
  have HB3 : Hid (Below w.heap.size w (w3.alloc (.cells #[.string x.na, .slice py x.n cy] 47))) := HB2.out.trans (hb3'.mono (by omega))
  have HP3 := hide (HP2.out.below hb3')
  have HQ3 := hide (HQ2.out.below hb3')
  have HY3 := hide (hity.below hyb)
  have y0 : (w3.alloc (.cells #[.string x.na, .slice py x.n cy] 47)).cell? ⟨w3.heap.size, 0, none⟩ = some (.string x.na) := by simp
  have y1 : (w3.alloc (.cells #[.string x.na, .slice py x.n cy] 47)).cell? ⟨w3.heap.size, 1, none⟩ = some (.slice py x.n cy) := by simp
  have hzy : w3.heap.size < (w3.alloc (.cells #[.string x.na, .slice py x.n cy] 47)).heap.size := by simp
  have HST : Hid (St w (w3.alloc (.cells #[.string x.na, .slice py x.n cy] 47)) vp vq la lb w3.heap.size x py cy) := ⟨HB3.out, HP3.out.mono (Nat.zero_le _), HQ3.out.mono (Nat.zero_le _), HY3.out, hzy, y0, y1⟩
  clear hity hb3 hb3' hyb HY HP2 HQ2 y0 y1 hzy HB1 HX1 HB2 HX2 HB3 HP3 HQ3 HY3 HBX hz1 hz2
  go_upto_region 4 with fail
  generalize w3.alloc (.cells #[.string x.na, .slice py x.n cy] 47) = w4 at HST ⊢
  generalize w3.heap.size = gy at HST ⊢
  clear hz3
  have HU := hide (union_any _ _ vp vq la lb w4 HST.out.p HST.out.q hsum)
  go_wp2_with fail
  refine HU.out.mono ?_
  rintro e w5 ⟨vu, lu, rfl, hatu, hb5, hordu, hlenu⟩
  have HS5 := hide (HST.out.below hb5)
  have HU5 := hide hatu
  have HOU := hide hordu
  clear hatu hb5 hordu HU HST
  have HV := hide (union_any _ _ vq vp lb la w5 HS5.out.q HS5.out.p (by omega))
  go_wp2_with fail
  refine HV.out.mono ?_
  rintro e w6 ⟨vv, lv, rfl, hatv, hb6, hordv, hlenv⟩
  have HS6 := hide (HS5.out.below hb6)
  have HU6 := hide (HU5.out.below hb6)
  have HV6 := hide hatv
  have HOV := hide hordv
  clear hatv hb6 hordv HV HS5 HU5
  have HL := hide (less_any _ _ vp vq la lb w6 HS6.out.p HS6.out.q)
  go_wp2_with fail
  refine HL.out.mono ?_
  rintro e w7 ⟨vl, ll, rfl, hatl, hb7, hstrl, hmeml, hlenl⟩
  have HS7 := hide (HS6.out.below hb7)
  have HU7 := hide (HU6.out.below hb7)
  have HV7 := hide (HV6.out.below hb7)
  have HL7 := hide hatl
  have HML := hide hmeml
  clear hatl hb7 hmeml hstrl HL HS6 HU6 HV6
  have HW := hide (union_any _ _ vq vl lb ll w7 HS7.out.q HL7.out (by omega))
  go_wp2_with fail
  refine HW.out.mono ?_
  rintro e w8 ⟨vw, lw, rfl, hatw, hb8, hordw, hlenw⟩
  have HS8 := hide (HS7.out.below hb8)
  have HU8 := hide (HU7.out.below hb8)
  have HV8 := hide (HV7.out.below hb8)
  have HL8 := hide (HL7.out.below hb8)
  have HW8 := hide hatw
  have HOW := hide hordw
  clear hatw hb8 hordw HW HS7 HU7 HV7 HL7
  -- the lists, on paper
  have muv : ∀ z, Mem cmpX lu z ↔ Mem cmpX lv z := fun z => by rw [HOU.out.mem, HOV.out.mem, Mem.app, Mem.app]; exact Or.comm
  have muw : ∀ z, Mem cmpX lu z ↔ Mem cmpX lw z := fun z => by
    rw [HOU.out.mem, HOW.out.mem, Mem.app, Mem.app, HML.out]
    constructor
    · rintro (h | h)
      · by_cases hq : Mem cmpX lb z
        · exact Or.inl hq
        · exact Or.inr ⟨h, hq⟩
      · exact Or.inl h
    · rintro (h | ⟨h, _⟩)
      · exact Or.inr h
      · exact Or.inl h
  have HSV := hide (str_same cmpX_cmp lu lv HOU.out.str HOV.out.str muv)
  have HSW := hide (str_same cmpX_cmp lu lw HOU.out.str HOW.out.str muw)
  have HMU : Hid (memB lu x = (memB la x || memB lb x)) := by
    show _ = _
    cases h1 : memB la x <;> cases h2 : memB lb x
    · exact memB_false.2 fun h => by rw [HOU.out.mem, Mem.app] at h; rcases h with h | h; exact memB_false.1 h1 h; exact memB_false.1 h2 h
    · exact memB_true.2 (by rw [HOU.out.mem, Mem.app]; exact Or.inr (memB_true.1 h2))
    · exact memB_true.2 (by rw [HOU.out.mem, Mem.app]; exact Or.inl (memB_true.1 h1))
    · exact memB_true.2 (by rw [HOU.out.mem, Mem.app]; exact Or.inl (memB_true.1 h1))
  have HMLB : Hid (memB ll x = (memB la x && !memB lb x)) := by
    show _ = _
    cases h1 : memB la x <;> cases h2 : memB lb x
    · exact memB_false.2 fun h => memB_false.1 h1 ((HML.out x).1 h).1
    · exact memB_false.2 fun h => memB_false.1 h1 ((HML.out x).1 h).1
    · exact memB_true.2 ((HML.out x).2 ⟨memB_true.1 h1, memB_false.1 h2⟩)
    · exact memB_false.2 fun h => ((HML.out x).1 h).2 (memB_true.1 h2)
  have HSTR := hide HOU.out.str
  clear muv muw HOU HOV HOW HML
  have y0 := HS8.out.y0
  have y1 := HS8.out.y1
  have HH1 := hide (has_any x (.slice py x.n cy) 0 vp la w8 HS8.out.p HS8.out.y)
  go_wp2_with fail
  refine HH1.out.mono ?_
  rintro e w9 ⟨rfl, hb9⟩
  have HS9 := hide (HS8.out.below hb9)
  have HU9 := hide (HU8.out.below hb9)
  have HV9 := hide (HV8.out.below hb9)
  have HL9 := hide (HL8.out.below hb9)
  have HW9 := hide (HW8.out.below hb9)
  clear hb9 HH1 HS8 HU8 HV8 HL8 HW8 y0 y1
  have y0 := HS9.out.y0
  have y1 := HS9.out.y1
  have HH2 := hide (has_any x (.slice py x.n cy) 0 vq lb w9 HS9.out.q HS9.out.y)
  go_wp2_with fail
  refine HH2.out.mono ?_
  rintro e w10 ⟨rfl, hb10⟩
  have HS10 := hide (HS9.out.below hb10)
  have HU10 := hide (HU9.out.below hb10)
  have HV10 := hide (HV9.out.below hb10)
  have HL10 := hide (HL9.out.below hb10)
  have HW10 := hide (HW9.out.below hb10)
  clear hb10 HH2 HS9 HU9 HV9 HL9 HW9 y0 y1
  obtain ⟨pu, cu, hvu⟩ := HU10.out.shape
  obtain ⟨pv, cv, hvv⟩ := HV10.out.shape
  obtain ⟨pw, cw, hvw⟩ := HW10.out.shape
  rw [← HSV.out.1] at hvv
  rw [← HSW.out.1] at hvw
  subst hvu hvv hvw
  have hlu : lu.length ≤ 1073741824 := HU10.out.1
  go_upto_region 10 with fail
  go_cut [73] (fun tv wx => tv = .bool false ∧ Below w10.heap.size w10 wx)
  case first =>
    have y0 := HS10.out.y0
    have y1 := HS10.out.y1
    have HH3 := hide (has_any x (.slice py x.n cy) _ _ lu w10 HU10.out HS10.out.y)
    have HH4 := hide (fun wz (hz : Below w10.heap.size w10 wz) => has_any x (.slice py x.n cy) _ _ ll wz (HL10.out.below hz) (HS10.out.y.below hz))
    rw [HMU.out] at HH3
    rw [HMLB.out] at HH4
    have HC0 := hide (fun wz (hz : Below w10.heap.size w10 wz) => (hz.cell (p := ⟨gy, 0, none⟩) HS10.out.lt).trans HS10.out.y0)
    have HC1 := hide (fun wz (hz : Below w10.heap.size w10 wz) => (hz.cell (p := ⟨gy, 1, none⟩) HS10.out.lt).trans HS10.out.y1)
    generalize memB la x = bP at *
    generalize memB lb x = bQ at *
    cases bP <;> cases bQ
    all_goals
      go_wp2_with fail
      refine HH3.out.mono ?_
      rintro e w11 ⟨rfl, hb11⟩
      have z0 := HC0.out w11 hb11
      have z1 := HC1.out w11 hb11
      have HH5 := hide (HH4.out w11 hb11)
      clear y0 y1
      go_wp2_with fail
      refine HH5.out.mono ?_
      rintro e w12 ⟨rfl, hb12⟩
      go_wp2_with fail
      go_meet
      case rel => exact ⟨rfl, hb11.trans (hb12.mono hb11.size)⟩
  case rest =>
    obtain ⟨rfl, hbc⟩ := hcut
    have HUc := hide (HU10.out.below hbc)
    have HVc := hide (HV10.out.below hbc)
    have HWc := hide (HW10.out.below hbc)
    have HBW : Hid (Below w.heap.size w wc) := HS10.out.bw.trans (hbc.mono HS10.out.bw.size)
    clear hbc HU10 HV10 HW10 HL10 HS10 HMU HMLB
    go_wp2_with fail
    go_loopw [16] (fun iv wr => ∃ k : Nat, iv = .int .i64 k ∧ k ≤ lu.length ∧ Hid (Below wc.heap.size wc wr)) (fun iv _ => lu.length - (intOf iv).toNat)
    case atStart => exact ⟨0, rfl, by omega, Below.refl _ _⟩
    case round =>
      obtain ⟨k, rfl, hk, HBR⟩ := hrel
      by_cases hlt : k < lu.length
      · have mixed := mixed_z
        obtain ⟨gu, hpu, hgu, hcu⟩ := HUc.out.got (by omega)
        obtain ⟨gv, hpv, hgv, hcv⟩ := HVc.out.got (by rw [← HSV.out.1]; omega)
        obtain ⟨gw, hpw, hgw, hcw⟩ := HWc.out.got (by rw [← HSW.out.1]; omega)
        subst hpu hpv hpw
        have hzr := HBR.out.size
        have EU := ((hcu k hlt).below hgu HBR.out).elt (by omega)
        have EV := ((hcv k (by rw [← HSV.out.1]; exact hlt)).below hgv HBR.out).elt (by omega)
        have EW := ((hcw k (by rw [← HSW.out.1]; exact hlt)).below hgw HBR.out).elt (by omega)
        obtain ⟨nau, tpu, nu, tcu, eu⟩ := EU
        obtain ⟨nav, tpv, nv, tcv, ev⟩ := EV
        obtain ⟨naw, tpw, nw, tcw, ew⟩ := EW
        have H1 : Pr wr nau tpu nu tcu nav tpv nv tcv 0 := ⟨fun q os => eu.cmp ev (HSV.out.2 k hlt (by rw [← HSV.out.1]; exact hlt)) q os⟩
        have H2 : Pr wr nau tpu nu tcu naw tpw nw tcw 0 := ⟨fun q os => eu.cmp ew (HSW.out.2 k hlt (by rw [← HSW.out.1]; exact hlt)) q os⟩
        have u0 := eu.2.2.1
        have u1 := eu.2.2.2.1
        have v0 := ev.2.2.1
        have v1 := ev.2.2.2.1
        have x0 := ew.2.2.1
        have x1 := ew.2.2.2.1
        have hkz : (k : Int) < (lu.length : Int) := by omega
        by_cases hk0 : k = 0
        · clear hcu hcv hcw eu ev ew
          have hkn : ¬ (0 : Int) < (k : Int) := by omega
          have hknn : ¬ 0 < k := by omega
          have hkge : (0 : Int) ≤ (k : Int) := by omega
          clear hk0
          go_wp2_with fail
          refine wp_region_quiet_grown (by assumption) (by kernel_rfl) ?_
          iterate 9 (go_big_quiet_step (first | (go_at_call 22; refine Calls.grown_of (H1.hc _ _))))
          iterate 10 (go_big_quiet_step (fail))
          iterate 1 (go_big_quiet_step (first | (go_at_call 22; refine Calls.grown_of (H2.hc _ _))))
          iterate 19 (go_big_quiet_step (fail))
          refine wpQuiet_nil ?_
          intro _ hw'
          obtain ⟨⟨nq, osq⟩, hw''⟩ := hw'
          subst hw''
          go_wp2_with fail
          exact ⟨⟨k + 1, by go_num, by omega, HBR.out.trans ((Gr.below ⟨nq, osq, rfl⟩).mono hzr)⟩, by simp [intOf]; omega⟩
        · obtain ⟨kp, rfl⟩ : ∃ kp, k = kp + 1 := ⟨k - 1, by omega⟩
          obtain ⟨nap, tpp, np, tcp, ep⟩ := ((hcu kp (by omega)).below hgu HBR.out).elt (by omega)
          have H3 : Pr wr nap tpp np tcp nau tpu nu tcu (-1) := ⟨fun q os => ep.cmp eu (str_at HSTR.out kp (kp + 1) (by omega) hlt) q os⟩
          have p0 := ep.2.2.1
          have p1 := ep.2.2.2.1
          have e0 : ((kp : Int) + 1).toNat = kp + 1 := by omega
          have jz1 : (kp : Int) < (lu.length : Int) := by omega
          have wj : IntKind.i64.wrap (kp : Int) = (kp : Int) := by rw [IntKind.wrap_i64]; omega
          have kgt : (0 : Int) < (kp : Int) + 1 := by omega
          have hk0n : (0 : Int) ≤ (kp : Int) + 1 := by omega
          have hkp0 : (0 : Int) ≤ (kp : Int) := by omega
          have hkz1 : (kp : Int) + 1 < (lu.length : Int) := by omega
          clear hcu hcv hcw eu ev ew ep
          go_wp2_with fail
          refine wp_region_quiet_grown (by assumption) (by kernel_rfl) ?_
          iterate 9 (go_big_quiet_step (first | (go_at_call 22; refine Calls.grown_of (H1.hc _ _))))
          iterate 10 (go_big_quiet_step (fail))
          iterate 1 (go_big_quiet_step (first | (go_at_call 22; refine Calls.grown_of (H2.hc _ _))))
          iterate 19 (go_big_quiet_step (first | (go_at_call 22; refine Calls.grown_of (H3.hc _ _))))
          refine wpQuiet_nil ?_
          intro _ hw'
          obtain ⟨⟨nq, osq⟩, hw''⟩ := hw'
          subst hw''
          go_wp2_with fail
          exact ⟨⟨kp + 1 + 1, by go_num, by omega, HBR.out.trans ((Gr.below ⟨nq, osq, rfl⟩).mono hzr)⟩, by simp [intOf]; omega⟩
      · have HF := hide (HAL.out wr (HBW.out.trans (HBR.out.mono HBW.out.size)))
        have HBF : Hid (Below w.heap.size w wr) := HBW.out.trans (HBR.out.mono HBW.out.size)
        go_wp2_with fail
        refine HF.out.mono ?_
        rintro e w20 ⟨rfl, hb20⟩
        go_wp2_with fail
        exact bodyPost_ret (v := .bool true) (by simp [results, go_sem]) rfl ⟨rfl, HBF.out.trans (hb20.mono HBF.out.size)⟩
end Go.Proofs.YtfiipfcdddaceaaGreatDoor
