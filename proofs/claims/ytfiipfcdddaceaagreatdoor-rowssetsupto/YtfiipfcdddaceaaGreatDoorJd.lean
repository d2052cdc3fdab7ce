import Derived.Test.YtfiipfcdddaceaaGreatDoorJc
namespace Go.Proofs.YtfiipfcdddaceaaGreatDoor
open Go.RowKit Go.Sort Go.Shelf

theorem ba_size (s : ByteArray) (l : List UInt8) (h : s.data.toList = l) : s.size = l.length := by rw [← h]; simp
theorem ba_of (s : ByteArray) (l : List UInt8) (h : s.data.toList = l) : s = ⟨l.toArray⟩ := by
  subst h
  exact ByteArray.ext (by simp)

set_option maxRecDepth 100000 in
set_option maxHeartbeats 2000000 in
/-- A fact's line, the document's. -/
theorem rline_any (r : Rx) (w : World) (h : r.Ok w) (hok : ∀ j, j < r.x.n → TmOk (r.x.t j)) (hlen : (lineL r.x).length ≤ 70368744177664) (htab : Lib.TabIs Tryz.prog w "internal/strconv.uint64pow10" .u64 Lib.pow10Tab) :
    Calls Tryz.prog 84 #[r.val] w fun e w' => e = .returned (.string ⟨(lineL r.x).toArray⟩) ∧ Below w.heap.size w w' := by
  obtain ⟨⟨na, n, t⟩, p, c, ap, q⟩ := r
  have HS4 : Hid (Some4 w p n c t q) := h.some
  have hn : n ≤ 1099511627776 := h.n
  have hsz : na.size + (lineT t n).length + 1 ≤ 70368744177664 := by
    simp only [lineL, List.length_append, List.length_cons, List.length_nil, Array.length_toList] at hlen
    have h4 : na.data.size = na.size := rfl
    omega
  simp only [Rx.val] at *
  have HV := hide (fun j (hj : j < n) p w hw => rshowTerm_any (t j) p w (hok j hj) hw)
  have HTB := hide (Lib.tabBelow_of_tabIs htab)
  clear h hok hlen htab
  go_enter Tryz.func84, Tryz.ntmps84
  go_wp2_with fail
  have HB0 : Hid (Below w.heap.size w (w.alloc (.cells #[.string na, .slice p n c, .int .i64 ap] 44))) := (Below.refl _ _).alloc (Nat.le_refl _) _
  have b1 : (w.alloc (.cells #[.string na, .slice p n c, .int .i64 ap] 44)).cell? ⟨w.heap.size, 1, none⟩ = some (.slice p n c) := by simp
  have HZ0 : Hid ((w.alloc (.cells #[.string na, .slice p n c, .int .i64 ap] 44)).heap.size = w.heap.size + 1) := by show _ = _; simp
  generalize w.alloc (.cells #[.string na, .slice p n c, .int .i64 ap] 44) = w2 at *
  go_loopw [3, 4] (fun sv iv wr => ∃ (k : Nat) (sb : ByteArray), sv = .string sb ∧ iv = .int .i64 k ∧ k ≤ n ∧ sb.size ≤ 70368744177664 ∧ Hid (sb.data.toList = na.data.toList ++ lineT t k) ∧ Hid (Below w2.heap.size w2 wr)) (fun _ iv _ => n - (intOf iv).toNat)
  case atStart => exact ⟨0, na, rfl, rfl, by omega, by omega, by show _ = _; simp [lineT], Below.refl _ _⟩
  case round =>
    obtain ⟨k, sb, rfl, rfl, hk, hsb, HS, HB2⟩ := hrel
    have hz0 : w.heap.size < w2.heap.size := by have := HZ0.out; omega
    have hzr2 := HB2.out.size
    have HB : Hid (Below w.heap.size w wr) := HB0.out.trans (HB2.out.mono (by omega))
    have y9 := (HB2.out.cell (p := ⟨w.heap.size, 1, none⟩) hz0).trans b1
    have hss : sb.size = na.size + (lineT t k).length := by
      rw [ba_size _ _ HS.out, List.length_append]
      simp
    have hll := lineT_le t hk
    by_cases hlt : k < n
    · obtain ⟨g, off, hp, hg, hc, ht⟩ := HS4.out (by omega)
      subst hp
      obtain ⟨a0, a1, a2, a3⟩ := ht k hlt
      have y0 := (HB.out.cell (p := ⟨g, off + k * 4, none⟩) hg).trans a0
      have y1 := (HB.out.cell (p := ⟨g, off + k * 4 + 1, none⟩) hg).trans a1
      have y2 := (HB.out.cell (p := ⟨g, off + k * 4 + 2, none⟩) hg).trans a2
      have y3 := (HB.out.cell (p := ⟨g, off + k * 4 + 3, none⟩) hg).trans a3
      have hgr : g < wr.heap.size := by have := HB.out.size; omega
      have hkz : (k : Int) < (n : Int) := by omega
      have HC := hide (HV.out k hlt)
      have HLS := hide (lineT_succ t k)
      have hl2 := lineT_le t (show k + 1 ≤ n by omega)
      rw [HLS.out, List.length_append, List.length_cons] at hl2
      clear a0 a1 a2 a3 ht
      obtain ⟨tm, htm⟩ : ∃ tm, t k = tm := ⟨_, rfl⟩
      rw [htm] at y0 y1 y2 HC HLS hl2
      have hps : (pstr tm).size = (plainL tm).length := by simp [pstr, ByteArray.size]
      have HPD : Hid ((pstr tm).data.toList = plainL tm) := rfl
      obtain ⟨tk, tn, tx⟩ := tm
      simp only at y0 y1 y2 HC
      generalize pstr ⟨tk, tn, tx⟩ = pt at *
      clear htm
      have hpm : pt.size + 1 ≤ 70368744177664 := by omega
      have hs1 : (sb ++ ByteArray.mk #[9]).size = sb.size + 1 := by rw [ByteArray.size_append]; rfl
      have hs2 : (sb ++ ByteArray.mk #[9] ++ pt).size = sb.size + 1 + pt.size := by rw [ByteArray.size_append, hs1]
      have HD2 : Hid ((sb ++ ByteArray.mk #[9] ++ pt).data.toList = na.data.toList ++ lineT t (k + 1)) := by
        show _ = _
        rw [ByteArray.data_append, ByteArray.data_append, Array.toList_append, Array.toList_append, HS.out, HPD.out, HLS.out]
        simp
      have hs3 : sb.size + 1 + pt.size ≤ 70368744177664 := by omega
      go_wp2_with fail
      refine (HC.out _ _ (HTB.out _ HB.out)).mono ?_
      rintro e w3 ⟨rfl, hb3⟩
      have HB3 : Hid (Below w2.heap.size w2 w3) := HB2.out.trans (hb3.mono hzr2)
      clear hb3
      go_wp2_with fail
      exact ⟨⟨k + 1, _, rfl, by go_num, by omega, by rw [hs2]; exact hs3, HD2, HB3⟩, by simp [intOf]; omega⟩
    · obtain rfl : k = n := by omega
      have hs1 : (sb ++ ByteArray.mk #[10]).size = sb.size + 1 := by rw [ByteArray.size_append]; rfl
      have HD : Hid (sb ++ ByteArray.mk #[10] = ⟨(lineL ⟨na, k, t⟩).toArray⟩) := by
        refine ba_of _ _ ?_
        rw [ByteArray.data_append, Array.toList_append, HS.out]
        rfl
      go_wp2_with fail
      rw [← HD.out]
      exact bodyPost_ret (v := .string (sb ++ ByteArray.mk #[10])) (by simp [results, go_sem]) rfl ⟨rfl, HB.out⟩
end Go.Proofs.YtfiipfcdddaceaaGreatDoor

namespace Go.Proofs.YtfiipfcdddaceaaGreatDoor
open Go.RowKit Go.Sort Go.Shelf

theorem flat_takeR (f : Rx → List UInt8) (l : List Rx) (i : Nat) (h : i < l.length) : (l.take (i + 1)).flatMap f = (l.take i).flatMap f ++ f l[i] := by
  rw [List.take_succ_eq_append_getElem h, List.flatMap_append]
  simp
theorem flat_take_leR (f : Rx → List UInt8) (l : List Rx) (i : Nat) : ((l.take i).flatMap f).length ≤ (l.flatMap f).length := by
  have e : l.flatMap f = (l.take i).flatMap f ++ (l.drop i).flatMap f := by rw [← List.flatMap_append, List.take_append_drop]
  rw [e, List.length_append]
  omega
theorem RL.nil (w : World) : RL w (.slice none 0 0) [] := ⟨by simp, fun r hr => by simp at hr, .inl ⟨none, 0, rfl, rfl⟩⟩

set_option maxRecDepth 100000 in
set_option maxHeartbeats 4000000 in
/-- The document's Print of facts. -/
theorem rprint_fact (v : Value) (l : List Rx) (w : World) (h : RL w v l) (hl : l.length < 1073741824) (hf : ∀ r ∈ l, factB r.x = true) (hok : ∀ r ∈ l, ∀ j, j < r.x.n → TmOk (r.x.t j))
    (hlen : ∀ out, Laid cmpR l out → (out.flatMap fun r => lineL r.x).length ≤ 70368744177664) (htab : Lib.TabIs Tryz.prog w "internal/strconv.uint64pow10" .u64 Lib.pow10Tab) :
    Calls Tryz.prog 36 #[v] w fun e w' => ∃ out, Laid cmpR l out ∧ e = .returned (.tuple #[.string ⟨(out.flatMap fun r => lineL r.x).toArray⟩, .int .i64 0, .int .i64 0]) ∧ Below w.heap.size w w' := by
  obtain ⟨p, c, rfl⟩ := h.shape
  have HL := hide h
  have HF := hide hf
  have HOK := hide hok
  have HLEN := hide hlen
  have HTB := hide (Lib.tabBelow_of_tabIs htab)
  clear h hf hok hlen htab
  go_enter Tryz.func36, Tryz.ntmps36
  go_wp2_with fail
  go_loopw [5] (fun iv wr => ∃ k : Nat, iv = .int .i64 k ∧ k ≤ l.length ∧ Hid (Below w.heap.size w wr)) (fun iv _ => l.length - (intOf iv).toNat)
  case atStart => exact ⟨0, rfl, by omega, Below.refl _ _⟩
  case round =>
    obtain ⟨k, rfl, hk, HB⟩ := hrel
    have hzr := HB.out.size
    by_cases hlt : k < l.length
    · obtain ⟨g, off, hp, hg, x0, x1, x2⟩ := HL.out.at k hlt
      subst hp
      have z0 := (HB.out.cell (p := ⟨g, off + k * 3, none⟩) hg).trans x0
      have z1 := (HB.out.cell (p := ⟨g, off + k * 3 + 1, none⟩) hg).trans x1
      have z2 := (HB.out.cell (p := ⟨g, off + k * 3 + 2, none⟩) hg).trans x2
      have hkz : (k : Int) < (l.length : Int) := by omega
      have hgr : g < wr.heap.size := by omega
      have HC := hide (rfact_any l[k] wr ((HL.out.2.1 _ (List.getElem_mem hlt)).below HB.out))
      simp only [Rx.val] at HC
      rw [HF.out _ (List.getElem_mem hlt)] at HC
      clear x0 x1 x2
      generalize l[k].x.na = nb at *
      generalize l[k].x.n = m at *
      generalize l[k].tp = tpb at *
      generalize l[k].tc = tcb at *
      generalize l[k].at_ = bp at *
      go_wp2_with fail
      refine HC.out.mono ?_
      rintro e w3 ⟨rfl, hb3⟩
      have HB3 : Hid (Below w.heap.size w w3) := HB.out.trans (hb3.mono hzr)
      clear hb3
      go_wp2_with fail
      exact ⟨⟨k + 1, by go_num, by omega, HB3⟩, by simp [intOf]; omega⟩
    · have HU := hide (runion_any _ (.slice none 0 0) l [] wr (HL.out.below HB.out) (RL.nil _) (by simp; omega))
      go_wp2_with fail
      refine HU.out.mono ?_
      rintro e w4 ⟨v4, out, rfl, hrl, hb4, hlaid⟩
      rw [List.append_nil] at hlaid
      obtain ⟨p4, c4, hv4⟩ := hrl.shape
      subst hv4
      have HR := hide hrl
      have HLD := hide hlaid
      have HLE := hide (HLEN.out out hlaid)
      have HW4 : Hid (Below w.heap.size w w4) := HB.out.trans (hb4.mono hzr)
      have hol : out.length < 1073741824 := by have := hlaid.len; omega
      clear hrl hlaid hb4 HU HB
      go_wp2_with fail
      go_loopw [8, 9] (fun sv iv wr => ∃ (i : Nat) (sb : ByteArray), sv = .string sb ∧ iv = .int .i64 i ∧ i ≤ out.length ∧ Hid (sb.data.toList = (out.take i).flatMap fun r => lineL r.x) ∧ Hid (Below w4.heap.size w4 wr)) (fun _ iv _ => out.length - (intOf iv).toNat)
      case atStart => exact ⟨0, _, rfl, rfl, by omega, by show _ = _; simp, Below.refl _ _⟩
      case round =>
        obtain ⟨i, sb, rfl, rfl, hi, HS, HB4⟩ := hrel
        have hzr4 := HB4.out.size
        have HB : Hid (Below w.heap.size w wr) := HW4.out.trans (HB4.out.mono HW4.out.size)
        have hss : sb.size = ((out.take i).flatMap fun r => lineL r.x).length := ba_size _ _ HS.out
        by_cases hlt2 : i < out.length
        · obtain ⟨g, off, hp, hg, x0, x1, x2⟩ := HR.out.at i hlt2
          subst hp
          have z0 := (HB4.out.cell (p := ⟨g, off + i * 3, none⟩) hg).trans x0
          have z1 := (HB4.out.cell (p := ⟨g, off + i * 3 + 1, none⟩) hg).trans x1
          have z2 := (HB4.out.cell (p := ⟨g, off + i * 3 + 2, none⟩) hg).trans x2
          have hiz : (i : Int) < (out.length : Int) := by omega
          have hgr : g < wr.heap.size := by omega
          have hxm : out[i] ∈ l := HLD.out.sub _ (List.getElem_mem hlt2)
          have HFL := hide (flat_takeR (fun r => lineL r.x) out i hlt2)
          have hfe := flat_take_leR (fun r => lineL r.x) out (i + 1)
          rw [HFL.out, List.length_append] at hfe
          have hle := HLE.out
          have HC := hide (rline_any out[i] wr ((HR.out.2.1 _ (List.getElem_mem hlt2)).below HB4.out) (HOK.out _ hxm) (by omega) (HTB.out _ HB.out))
          simp only [Rx.val] at HC
          have hln : ∀ l : List UInt8, (ByteArray.mk l.toArray).size = l.length := fun l => by simp [ByteArray.size]
          have hls := hln (lineL out[i].x)
          have HLD2 : Hid ((ByteArray.mk (lineL out[i].x).toArray).data.toList = lineL out[i].x) := rfl
          generalize ByteArray.mk (lineL out[i].x).toArray = ln at *
          clear x0 x1 x2 hxm hln
          generalize out[i].x.na = nb at *
          generalize out[i].x.n = m at *
          generalize out[i].tp = tpb at *
          generalize out[i].tc = tcb at *
          generalize out[i].at_ = bp at *
          have hsm : sb.size + ln.size ≤ 70368744177664 := by omega
          have hs1 : (sb ++ ln).size = sb.size + ln.size := ByteArray.size_append
          have HD : Hid ((sb ++ ln).data.toList = (out.take (i + 1)).flatMap fun r => lineL r.x) := by
            show _ = _
            rw [ByteArray.data_append, Array.toList_append, HS.out, HLD2.out, HFL.out]
          go_wp2_with fail
          refine HC.out.mono ?_
          rintro e w5 ⟨rfl, hb5⟩
          have HB5 : Hid (Below w4.heap.size w4 w5) := HB4.out.trans (hb5.mono hzr4)
          clear hb5
          go_wp2_with fail
          exact ⟨⟨i + 1, _, rfl, by go_num, by omega, HD, HB5⟩, by simp [intOf]; omega⟩
        · obtain rfl : i = out.length := by omega
          have HD : Hid (sb = ⟨(out.flatMap fun r => lineL r.x).toArray⟩) := ba_of _ _ (by have h := HS.out; rw [List.take_length] at h; exact h)
          go_wp2_with fail
          exact bodyPost_ret (v := .tuple #[.string sb, .int .i64 0, .int .i64 0]) (by simp [results, go_sem]) rfl ⟨out, HLD.out, by rw [← HD.out], HB.out⟩

set_option maxRecDepth 100000 in
set_option maxHeartbeats 4000000 in
/-- One that is no fact ends it. -/
theorem rprint_not (v : Value) (l : List Rx) (w : World) (h : RL w v l) (m : Nat) (hm : m < l.length) (hyes : ∀ i (h : i < l.length), i < m → factB l[i].x = true) (hno : factB l[m].x = false) :
    Calls Tryz.prog 36 #[v] w fun e w' => e = .returned (.tuple #[.string ⟨#[]⟩, .int .i64 8, .int .i64 m]) ∧ Below w.heap.size w w' := by
  obtain ⟨p, c, rfl⟩ := h.shape
  have hl := h.1
  have HL := hide h
  have HY := hide hyes
  have HNO := hide hno
  clear h hyes hno
  go_enter Tryz.func36, Tryz.ntmps36
  go_wp2_with fail
  go_loopw [5] (fun iv wr => ∃ k : Nat, iv = .int .i64 k ∧ k ≤ m ∧ Hid (Below w.heap.size w wr)) (fun iv _ => m - (intOf iv).toNat)
  case atStart => exact ⟨0, rfl, by omega, Below.refl _ _⟩
  case round =>
    obtain ⟨k, rfl, hk, HB⟩ := hrel
    have hzr := HB.out.size
    have hlt : k < l.length := by omega
    obtain ⟨g, off, hp, hg, x0, x1, x2⟩ := HL.out.at k hlt
    subst hp
    have z0 := (HB.out.cell (p := ⟨g, off + k * 3, none⟩) hg).trans x0
    have z1 := (HB.out.cell (p := ⟨g, off + k * 3 + 1, none⟩) hg).trans x1
    have z2 := (HB.out.cell (p := ⟨g, off + k * 3 + 2, none⟩) hg).trans x2
    have hkz : (k : Int) < (l.length : Int) := by omega
    have hgr : g < wr.heap.size := by omega
    have HC := hide (rfact_any l[k] wr ((HL.out.2.1 _ (List.getElem_mem hlt)).below HB.out))
    simp only [Rx.val] at HC
    clear x0 x1 x2
    by_cases hkm : k = m
    · subst hkm
      rw [HNO.out] at HC
      generalize l[k].x.na = nb at *
      generalize l[k].x.n = mm at *
      generalize l[k].tp = tpb at *
      generalize l[k].tc = tcb at *
      generalize l[k].at_ = bp at *
      go_wp2_with fail
      refine HC.out.mono ?_
      rintro e w3 ⟨rfl, hb3⟩
      have HB3 : Hid (Below w.heap.size w w3) := HB.out.trans (hb3.mono hzr)
      clear hb3
      go_wp2_with fail
      exact bodyPost_ret (v := .tuple #[.string ⟨#[]⟩, .int .i64 8, .int .i64 k]) (by simp [results, go_sem]) rfl ⟨rfl, HB3.out⟩
    · rw [HY.out k hlt (by omega)] at HC
      generalize l[k].x.na = nb at *
      generalize l[k].x.n = mm at *
      generalize l[k].tp = tpb at *
      generalize l[k].tc = tcb at *
      generalize l[k].at_ = bp at *
      go_wp2_with fail
      refine HC.out.mono ?_
      rintro e w3 ⟨rfl, hb3⟩
      have HB3 : Hid (Below w.heap.size w w3) := HB.out.trans (hb3.mono hzr)
      clear hb3
      go_wp2_with fail
      exact ⟨⟨k + 1, by go_num, by omega, HB3⟩, by simp [intOf]; omega⟩
end Go.Proofs.YtfiipfcdddaceaaGreatDoor

namespace Go.Proofs.YtfiipfcdddaceaaGreatDoor
open Go.RowKit Go.Sort Go.Shelf

set_option maxRecDepth 100000 in
set_option maxHeartbeats 4000000 in
theorem print_fact (B0 c : Nat) (p : Option Addr) (l : List Atm) (w : World) (hl : l.length ≤ 1073741824)
    (hat : Atoms B0 w (.slice p l.length c) l)
    (hfact : ∀ i (h : i < l.length) p tc w', IsTerms w' (.slice p l[i].n tc) l[i].n l[i].t → Calls Tryz.prog 38 #[.agg #[.string l[i].na, .slice p l[i].n tc]] w' fun e w'' => e = .returned (.bool true) ∧ Below w'.heap.size w' w'')
    (hok : ∀ x ∈ l, ∀ j, j < x.n → TmOk (x.t j)) (hlen : ∀ out, Ord l out → out.length ≤ l.length → (out.flatMap lineL).length ≤ 140737488355328)
    (htab : Lib.TabIs Tryz.prog w "internal/strconv.uint64pow10" .u64 Lib.pow10Tab) :
    Calls Tryz.prog 35 #[.slice p l.length c] w fun e w' => ∃ out, Ord l out ∧ e = .returned (.tuple #[.string ⟨(out.flatMap lineL).toArray⟩, .int .i64 0, .int .i64 0]) ∧ Below w.heap.size w w' := by
  have HA := hide hat
  have HF := hide hfact
  have HOK := hide hok
  have HLEN := hide hlen
  have HTAB := hide htab
  clear hat hfact hok hlen htab
  go_enter Tryz.func35, Tryz.ntmps35
  go_wp2_with fail
  go_loopw [14] (fun iv wr => ∃ k : Nat, iv = .int .i64 k ∧ k ≤ l.length ∧ Hid (Below w.heap.size w wr)) (fun iv _ => l.length - (intOf iv).toNat)
  case atStart => exact ⟨0, rfl, by omega, Below.refl _ _⟩
  case round =>
    obtain ⟨k, rfl, hk, HB⟩ := hrel
    have hzr := HB.out.size
    by_cases hlt : k < l.length
    · obtain ⟨g, hpg, hg, hcell⟩ := HA.out.got (by omega)
      subst hpg
      obtain ⟨tp, tc, x0, x1, hit⟩ := hcell k hlt
      clear hcell
      have y0 := (HB.out.cell (p := ⟨g, k * 2, none⟩) hg).trans x0
      have y1 := (HB.out.cell (p := ⟨g, k * 2 + 1, none⟩) hg).trans x1
      have HC := hide (fun w' (hb : Below w.heap.size w w') => HF.out k hlt tp tc w' (hit.below hb))
      clear x0 x1 hit
      have hkz : (k : Int) < (l.length : Int) := by omega
      generalize l[k].na = na at *
      generalize l[k].n = nn at *
      have hgr : g < wr.heap.size := by omega
      go_wp2_with fail
      refine (HC.out _ (HB.out.alloc hzr _)).mono ?_
      rintro e w1 ⟨rfl, hb1⟩
      go_wp2_with fail
      exact ⟨⟨k + 1, by go_num, by omega, (HB.out.alloc hzr _).trans (hb1.mono (by simp; omega))⟩, by simp [intOf]; omega⟩
    · have HI := hide (fun o => inOrder_any B0 (wr.alloc o) _ l (HA.out.below (HB.out.alloc hzr o)))
      go_wp2_with fail
      refine (HI.out _).mono ?_
      rintro e w2 ⟨v2, out, rfl, hat2, hb2, hord, hlo⟩
      simp only [World.size_alloc] at hat2 hb2
      obtain ⟨p2, c2, hv2⟩ := hat2.shape
      subst hv2
      have HA2 := hide hat2
      have HB2 := hide hb2
      have HO := hide hord
      have hz2 := hb2.size
      simp only [World.size_alloc] at hz2
      have HBD : Hid (Bd w2.heap.size wr.heap.size [] (.slice none 0 0) w2) := ⟨⟨_, .inl rfl, (hb2.block _ (by omega)).trans (alloc_new wr _)⟩, ⟨rfl, .inl ⟨rfl, rfl⟩⟩⟩
      have HLE := hide (HLEN.out out hord hlo)
      have HW2 : Hid (Below w.heap.size w w2) := (HB.out.alloc hzr _).trans (hb2.mono (by omega))
      have HTB := hide (HTAB.out)
      clear hat2 hb2 hord HI HB HB2
      go_wp2_with fail
      generalize wr.heap.size = bb at *
      go_loopw [27] (fun iv wq => ∃ (i : Nat) (v : Value), iv = .int .i64 i ∧ i ≤ out.length ∧ Hid (Bd w2.heap.size bb ((out.take i).flatMap lineL) v wq) ∧ Hid (Kp bb w2.heap.size w2 wq)) (fun iv _ => out.length - (intOf iv).toNat)
      case atStart => exact ⟨0, _, rfl, by omega, by show Bd _ _ _ _ _; simpa using HBD.out, Kp.refl _ _ _⟩
      case round =>
        obtain ⟨i, v, rfl, hi, HBq, HKq⟩ := hrel
        have hzq := HKq.out.size
        by_cases hlt2 : i < out.length
        · obtain ⟨_, ⟨_, h0⟩ | ⟨g2, c2', hv, hgB, hg2, hc2, ht2⟩⟩ := HA2.out
          · rw [h0] at hlt2; simp at hlt2
          · cases hv
            obtain ⟨tp, tc, x0, x1, hit, hbl⟩ := ht2 i hlt2
            have hxm : out[i] ∈ l := HO.out.sub _ (List.getElem_mem hlt2)
            have HX := hide (HOK.out _ hxm)
            have HFL := hide (flat_take lineL out i hlt2)
            have HFE := hide (flat_take_le lineL out (i + 1))
            have y0 := (HKq.out.cell (o := i * 2) hg2 (by omega)).trans x0
            have y1 := (HKq.out.cell (o := i * 2 + 1) hg2 (by omega)).trans x1
            have HIT := hide hit
            have HBL := hide hbl
            clear x0 x1 hit hbl ht2 hxm
            have hiz : (i : Int) < (out.length : Int) := by omega
            obtain ⟨x, hx⟩ : ∃ x, out[i] = x := ⟨_, rfl⟩
            rw [hx] at y0 y1 HIT HX HFL
            obtain ⟨na, n, t⟩ := x
            simp only at y0 y1 HIT HX HFL
            clear hx
            have hg2q : g2 < wr.heap.size := by omega
            have hlen : ((out.take i).flatMap lineL).length + (na.size + (lineT t n).length + 1) ≤ 140737488355328 := by
              have h1 := HFE.out
              have h2 := HLE.out
              have h3 := congrArg List.length HFL.out
              rw [List.length_append] at h3
              simp only [lineL, List.length_append, List.length_cons, List.length_nil, Array.length_toList] at h3
              have h4 : na.data.size = na.size := rfl
              omega
            have hba : ∀ o, Below wr.heap.size wr (wr.alloc o) := fun o => (Below.refl _ _).alloc (Nat.le_refl _) o
            have HBA := hide hba
            clear hba
            go_wp2_with fail
            refine (writeString w2.heap.size bb _ v na _ (HBq.out.below (HBA.out _)) (by omega) (by simp; omega)).mono ?_
            rintro e w3 ⟨rfl, v3, hbd3, hfr3⟩
            have hvb : ∀ k, v.ownBlock = some k → w2.heap.size ≤ k ∧ k < wr.heap.size := HBq.out.row.lt
            have hz3 := hfr3.size
            simp only [World.size_alloc] at hz3
            have hbl0 : bb < wr.heap.size := HBq.out.lt
            have hbk3 : w3.heap[wr.heap.size]? = (wr.alloc (.cells #[.string na, .slice tp n tc] 47)).heap[wr.heap.size]? := hfr3.block _ (by simp) (by omega) (fun e => by have := (hvb _ e).2; omega)
            have z1 : w3.cell? ⟨wr.heap.size, 1, none⟩ = some (.slice tp n tc) := (World.cell?_of_block (a := ⟨wr.heap.size, 1, none⟩) hbk3).trans (by simp)
            have hz3' : wr.heap.size < w3.heap.size := by omega
            have HB3 := hide hbd3
            have HK3 : Hid (Kp bb w2.heap.size w2 w3) := (HKq.out.below (Nat.le_refl _) (HBA.out _)).fr (Nat.le_refl _) hfr3 (fun k hk => (hvb k hk).1)
            clear hbd3 hfr3 hvb hbk3 y0 y1
            go_wp2_with fail
            generalize (out.take i).flatMap lineL = T0 at *
            generalize wr.heap.size = ab at *
            go_loopw [37] (fun jv wq => ∃ (j : Nat) (v : Value), jv = .int .i64 j ∧ j ≤ n ∧ Hid (Bd w2.heap.size bb (T0 ++ na.data.toList ++ lineT t j) v wq) ∧ Hid (Kp bb w2.heap.size w2 wq)) (fun jv _ => n - (intOf jv).toNat)
            case atStart => exact ⟨0, v3, rfl, by omega, by show Bd _ _ _ _ _; simpa [lineT] using HB3.out, HK3⟩
            case round =>
              obtain ⟨j, v4, rfl, hj, HB4, HK4⟩ := hrel
              have hz4 := HK4.out.size
              by_cases hlt3 : j < n
              · obtain ⟨_, ⟨_, _, _, h0⟩ | ⟨g3, c3, hv3, hg3, hc3, ht3⟩⟩ := HIT.out
                · omega
                · cases hv3
                  have hg3b := HBL.out _ rfl
                  simp only at hg3b
                  obtain ⟨a0, a1, a2⟩ := ht3 j hlt3
                  rw [Nat.mul_comm] at a0 a1 a2
                  have y0 := (HK4.out.cell (o := j * 3) hg3 (by omega)).trans a0
                  have y1 := (HK4.out.cell (o := j * 3 + 1) hg3 (by omega)).trans a1
                  have y2 := (HK4.out.cell (o := j * 3 + 2) hg3 (by omega)).trans a2
                  have hg3r : g3 < wr.heap.size := by omega
                  have HP := hide (fun w' hw => plain_any (t j) w' (HX.out j hlt3) hw)
                  have HTW : Hid (Lib.TabIs Tryz.prog wr "internal/strconv.uint64pow10" .u64 Lib.pow10Tab) :=
                    Lib.tabBelow_of_tabIs HTB.out _ (HW2.out.trans (HK4.out.all (by omega) HW2.out.size))
                  have hjz : (j : Int) < (n : Int) := by omega
                  have HLT := hide (lineT_le t (show j + 1 ≤ n by omega))
                  have HLS := hide (lineT_succ t j)
                  clear a0 a1 a2 ht3
                  obtain ⟨tm, htm⟩ : ∃ tm, t j = tm := ⟨_, rfl⟩
                  rw [htm] at y0 y1 y2 HP HLS
                  obtain ⟨tk, tn, tx⟩ := tm
                  simp only [Tm.val] at y0 y1 y2 HP
                  go_wp2_with fail
                  refine (HP.out _ (Lib.tabIs_alloc HTW.out _)).mono ?_
                  rintro e w5 ⟨rfl, hb5⟩
                  have hb5' : Below wr.heap.size wr w5 := ((Below.refl _ _).alloc (Nat.le_refl _) _).trans (hb5.mono (by simp))
                  have HB5 := hide (HB4.out.below hb5')
                  have HK5 := hide (HK4.out.below (Nat.le_refl _) hb5')
                  have hz5 := hb5'.size
                  clear hb5 hb5' y0 y1 y2
                  have hpl : (plainL ⟨tk, tn, tx⟩).length + 1 + (lineT t j).length ≤ (lineT t n).length := by
                    have h1 := HLT.out
                    rw [HLS.out, List.length_append, List.length_cons] at h1
                    omega
                  obtain ⟨pt, hpt⟩ : ∃ pt : ByteArray, ByteArray.mk (plainL ⟨tk, tn, tx⟩).toArray = pt := ⟨_, rfl⟩
                  have hpts : pt.size = (plainL ⟨tk, tn, tx⟩).length := by rw [← hpt]; simp [ByteArray.size]
                  have HPT : Hid (pt.data.toList = plainL ⟨tk, tn, tx⟩) := by show _ = _; rw [← hpt]
                  rw [hpt]
                  have hpm : pt.size + 1 ≤ 140737488355328 := by omega
                  clear hpt
                  have hcs : (ByteArray.mk #[9] ++ pt).size = 1 + pt.size := by rw [ByteArray.size_append]; rfl
                  have HCD : Hid ((ByteArray.mk #[9] ++ pt).data.toList = 9 :: plainL ⟨tk, tn, tx⟩) := by show _ = _; rw [ByteArray.data_append, Array.toList_append, HPT.out]; rfl
                  go_wp2_with fail
                  refine (writeString w2.heap.size bb _ v4 _ _ HB5.out (by rw [hcs]; simp only [List.length_append, Array.length_toList]; have h4 : na.data.size = na.size := rfl; omega) (Nat.le_trans hz4 hz5)).mono ?_
                  rintro e w6 ⟨rfl, v6, hbd6, hfr6⟩
                  have HK6 : Hid (Kp bb w2.heap.size w2 w6) := HK5.out.fr (Nat.le_refl _) hfr6 (fun k hk => (HB5.out.row.lt k hk).1)
                  have HB6 := hide hbd6
                  clear hbd6 hfr6
                  go_wp2_with fail
                  refine ⟨⟨j + 1, v6, by go_num, by omega, ?_, HK6⟩, by simp [intOf]; omega⟩
                  show Bd _ _ _ _ _
                  rw [HLS.out]
                  have h := HB6.out
                  rw [HCD.out] at h
                  simpa [List.append_assoc] using h
              · obtain rfl : j = n := by omega
                go_wp2_with fail
                refine (writeString w2.heap.size bb _ v4 ⟨#[10]⟩ _ HB4.out (by rw [show (ByteArray.mk #[10]).size = 1 from rfl]; simp only [List.length_append, Array.length_toList]; have h4 : na.data.size = na.size := rfl; omega) hz4).mono ?_
                rintro e w6 ⟨rfl, v6, hbd6, hfr6⟩
                have HK6 : Hid (Kp bb w2.heap.size w2 w6) := HK4.out.fr (Nat.le_refl _) hfr6 (fun k hk => (HB4.out.row.lt k hk).1)
                have HB6 := hide hbd6
                clear hbd6 hfr6
                go_wp2_with fail
                refine ⟨⟨i + 1, v6, by go_num, by omega, ?_, HK6⟩, by simp [intOf]; omega⟩
                show Bd _ _ _ _ _
                rw [HFL.out]
                have h := HB6.out
                simp only [List.append_assoc] at h
                simpa [lineL, List.append_assoc] using h
        · obtain rfl : i = out.length := by omega
          have HBE : Hid (Bd w2.heap.size bb (out.flatMap lineL) v wr) := by have h := HBq.out; rw [List.take_length] at h; exact h
          go_wp2_with fail
          refine (Tryz.Builder_String_any w.heap.size bb _ _ ((HBE.out.mono HW2.out.size).is hzr) (Nat.le_trans HW2.out.size hzq)).mono ?_
          rintro e w7 ⟨rfl, hb7⟩
          have HB7 : Hid (Below w.heap.size w w7) := (HW2.out.trans (HKq.out.all hzr HW2.out.size)).trans hb7
          clear hb7
          go_wp2_with fail
          exact bodyPost_ret (v := .tuple #[.string ⟨(out.flatMap lineL).toArray⟩, .int .i64 0, .int .i64 0]) (by simp [results, go_sem]) rfl ⟨out, HO.out, rfl, HB7.out⟩

set_option maxRecDepth 100000 in
set_option maxHeartbeats 4000000 in
/-- One that is no fact ends it. -/
theorem print_not (B0 c : Nat) (p : Option Addr) (l : List Atm) (w : World) (hl : l.length ≤ 1073741824)
    (hat : Atoms B0 w (.slice p l.length c) l) (m : Nat) (hm : m < l.length)
    (hfact : ∀ i (h : i < l.length) p tc w', IsTerms w' (.slice p l[i].n tc) l[i].n l[i].t → Calls Tryz.prog 38 #[.agg #[.string l[i].na, .slice p l[i].n tc]] w' fun e w'' => e = .returned (.bool (factB l[i])) ∧ Below w'.heap.size w' w'')
    (hyes : ∀ i (h : i < l.length), i < m → factB l[i] = true) (hno : factB l[m] = false) :
    Calls Tryz.prog 35 #[.slice p l.length c] w fun e w' => e = .returned (.tuple #[.string ⟨#[]⟩, .int .i64 8, .int .i64 m]) ∧ Below w.heap.size w w' := by
  have HA := hide hat
  have HF := hide hfact
  have HY := hide hyes
  have HNO := hide hno
  clear hat hfact hyes hno
  go_enter Tryz.func35, Tryz.ntmps35
  go_wp2_with fail
  go_loopw [14] (fun iv wr => ∃ k : Nat, iv = .int .i64 k ∧ k ≤ m ∧ Hid (Below w.heap.size w wr)) (fun iv _ => m - (intOf iv).toNat)
  case atStart => exact ⟨0, rfl, by omega, Below.refl _ _⟩
  case round =>
    obtain ⟨k, rfl, hk, HB⟩ := hrel
    have hzr := HB.out.size
    have hlt : k < l.length := by omega
    obtain ⟨g, hpg, hg, hcell⟩ := HA.out.got (by omega)
    subst hpg
    obtain ⟨tp, tc, x0, x1, hit⟩ := hcell k hlt
    clear hcell
    have y0 := (HB.out.cell (p := ⟨g, k * 2, none⟩) hg).trans x0
    have y1 := (HB.out.cell (p := ⟨g, k * 2 + 1, none⟩) hg).trans x1
    have HC := hide (fun w' (hb : Below w.heap.size w w') => HF.out k hlt tp tc w' (hit.below hb))
    clear x0 x1 hit
    have hkz : (k : Int) < (l.length : Int) := by omega
    have hgr : g < wr.heap.size := by omega
    by_cases hkm : k = m
    · subst hkm
      rw [HNO.out] at HC
      generalize l[k].na = na at *
      generalize l[k].n = nn at *
      go_wp2_with fail
      refine (HC.out _ (HB.out.alloc hzr _)).mono ?_
      rintro e w1 ⟨rfl, hb1⟩
      have HB1 : Hid (Below w.heap.size w w1) := (HB.out.alloc hzr _).trans (hb1.mono (by simp; omega))
      clear hb1
      go_wp2_with fail
      exact bodyPost_ret (v := .tuple #[.string ⟨#[]⟩, .int .i64 8, .int .i64 k]) (by simp [results, go_sem]) rfl ⟨rfl, HB1.out⟩
    · rw [HY.out k hlt (by omega)] at HC
      generalize l[k].na = na at *
      generalize l[k].n = nn at *
      go_wp2_with fail
      refine (HC.out _ (HB.out.alloc hzr _)).mono ?_
      rintro e w1 ⟨rfl, hb1⟩
      go_wp2_with fail
      exact ⟨⟨k + 1, by go_num, by omega, (HB.out.alloc hzr _).trans (hb1.mono (by simp; omega))⟩, by simp [intOf]; omega⟩
end Go.Proofs.YtfiipfcdddaceaaGreatDoor
