import Derived.Test.YtfiipfcdddaceaaGreatDoorJj
import Derived.Test.YtfiipfcdddaceaaGreatDoorSp
namespace Go.Proofs.YtfiipfcdddaceaaGreatDoor
open Go.RowKit Go.Sort Go.Shelf

/-- A fact's line: its name, behind a byte 9 each its terms, a byte 10. -/
def lineT (t : Nat → Tm) (n : Nat) : List UInt8 := (List.range n).flatMap fun j => 9 :: plainL (t j)
def lineL (x : Atm) : List UInt8 := x.na.data.toList ++ lineT x.t x.n ++ [10]

/-- All that lay below B lies as it was, but for the block b. -/
structure Kp (b B : Nat) (w w' : World) : Prop where
  os : w'.os = w.os
  tape : w'.tape = w.tape
  output : w'.output = w.output
  size : w.heap.size ≤ w'.heap.size
  block : ∀ k, k < B → k ≠ b → w'.heap[k]? = w.heap[k]?
theorem Kp.refl (b B : Nat) (w : World) : Kp b B w w := ⟨rfl, rfl, rfl, Nat.le_refl _, fun _ _ _ => rfl⟩
theorem Kp.fr {b B : Nat} {w0 w w' : World} {v : Value} (h : Kp b B w0 w) (hB : B ≤ w0.heap.size) (hf : Fr b v w w') (hv : ∀ k, v.ownBlock = some k → B ≤ k) : Kp b B w0 w' :=
  ⟨hf.os.trans h.os, hf.tape.trans h.tape, hf.output.trans h.output, Nat.le_trans h.size hf.size, fun k hk hb => (hf.block k (by have := h.size; omega) hb (fun e => by have := hv k e; omega)).trans (h.block k hk hb)⟩
theorem Kp.below {b B : Nat} {w0 w w' : World} (h : Kp b B w0 w) (hB : B ≤ w0.heap.size) (hb : Below w.heap.size w w') : Kp b B w0 w' :=
  ⟨hb.os.trans h.os, hb.tape.trans h.tape, hb.output.trans h.output, Nat.le_trans h.size hb.size, fun k hk hne => (hb.block k (by have := h.size; omega)).trans (h.block k hk hne)⟩
theorem Kp.all {b B C : Nat} {w w' : World} (h : Kp b B w w') (hb : C ≤ b) (hB : C ≤ B) : Below C w w' :=
  ⟨h.os, h.tape, h.output, h.size, fun k hk => h.block k (by omega) (by omega)⟩
theorem Kp.cell {b B : Nat} {w w' : World} (h : Kp b B w w') {g o : Nat} (hg : g < B) (hb : g ≠ b) : w'.cell? ⟨g, o, none⟩ = w.cell? ⟨g, o, none⟩ :=
  World.cell?_of_block (a := ⟨g, o, none⟩) (h.block g hg hb)
theorem Kp.terms {b B : Nat} {w w' : World} (h : Kp b B w w') {tp : Option Addr} {n c : Nat} {t : Nat → Tm} (ht : IsTerms w (.slice tp n c) n t) (hp : ∀ a, tp = some a → a.block < B ∧ a.block ≠ b) : IsTerms w' (.slice tp n c) n t :=
  ht.keep (fun a ha => h.block _ (hp a ha).1 (hp a ha).2) h.size
theorem flat_take (f : Atm → List UInt8) (l : List Atm) (i : Nat) (h : i < l.length) : (l.take (i + 1)).flatMap f = (l.take i).flatMap f ++ f l[i] := by
  rw [List.take_succ_eq_append_getElem h, List.flatMap_append]
  simp
theorem flat_take_le (f : Atm → List UInt8) (l : List Atm) (i : Nat) : ((l.take i).flatMap f).length ≤ (l.flatMap f).length := by
  have e : l.flatMap f = (l.take i).flatMap f ++ (l.drop i).flatMap f := by rw [← List.flatMap_append, List.take_append_drop]
  rw [e, List.length_append]
  omega
theorem lineT_succ (t : Nat → Tm) (n : Nat) : lineT t (n + 1) = lineT t n ++ (9 :: plainL (t n)) := by
  unfold lineT
  rw [List.range_succ, List.flatMap_append]
  simp
theorem lineT_le (t : Nat → Tm) {j n : Nat} (h : j ≤ n) : (lineT t j).length ≤ (lineT t n).length := by
  induction h with
  | refl => exact Nat.le_refl _
  | step _ ih => rw [lineT_succ, List.length_append]; omega
theorem Bd.below {B b : Nat} {l : List UInt8} {v : Value} {w w' : World} (h : Bd B b l v w) (hb : Below w.heap.size w w') : Bd B b l v w' := by
  have hlt := h.lt
  obtain ⟨⟨p, hp, hk⟩, hr⟩ := h
  exact ⟨⟨p, hp, (hb.block b hlt).trans hk⟩, own_below hr hb⟩

theorem Bd.mono {B B' b : Nat} {l : List UInt8} {v : Value} {w : World} (h : Bd B b l v w) (hB : B' ≤ B) : Bd B' b l v w := ⟨h.blk, own_mono h.row hB⟩

set_option maxRecDepth 100000 in
set_option maxHeartbeats 4000000 in
theorem print_some (B0 g c : Nat) (l : List Atm) (w : World) (hg : g < w.heap.size) (hl : l.length ≤ 1073741824)
    (ht : ∀ i (h : i < l.length), ∃ tp tc, w.cell? ⟨g, i * 2, none⟩ = some (.string l[i].na) ∧ w.cell? ⟨g, i * 2 + 1, none⟩ = some (.slice tp l[i].n tc) ∧ IsTerms w (.slice tp l[i].n tc) l[i].n l[i].t ∧ ∀ a, tp = some a → B0 ≤ a.block ∧ a.block < w.heap.size)
    (hat : Atoms B0 w (.slice (some ⟨g, 0, none⟩) l.length c) l)
    (hfact : ∀ i (h : i < l.length) p tc w', IsTerms w' (.slice p l[i].n tc) l[i].n l[i].t → Calls Tryz.prog 38 #[.agg #[.string l[i].na, .slice p l[i].n tc]] w' fun e w'' => e = .returned (.bool true) ∧ Below w'.heap.size w' w'')
    (hok : ∀ x ∈ l, ∀ j, j < x.n → TmOk (x.t j)) (hlen : ∀ out, Ord l out → out.length ≤ l.length → (out.flatMap lineL).length ≤ 140737488355328)
    (htab : Lib.TabIs Tryz.prog w "internal/strconv.uint64pow10" .u64 Lib.pow10Tab) :
    Calls Tryz.prog 35 #[.slice (some ⟨g, 0, none⟩) l.length c] w fun e w' => ∃ out, Ord l out ∧ e = .returned (.tuple #[.string ⟨(out.flatMap lineL).toArray⟩, .int .i64 0, .int .i64 0]) ∧ Below w.heap.size w w' := by
  have HT := hide ht
  have HA := hide hat
  have HF := hide hfact
  have HOK := hide hok
  have HLEN := hide hlen
  have HTAB := hide htab
  clear ht hat hfact hok hlen htab
  go_enter Tryz.func35, Tryz.ntmps35
  go_wp2_with fail
  go_loopw [14] (fun iv wr => ∃ k : Nat, iv = .int .i64 k ∧ k ≤ l.length ∧ Hid (Below w.heap.size w wr)) (fun iv _ => l.length - (intOf iv).toNat)
  case atStart => exact ⟨0, rfl, by omega, Below.refl _ _⟩
  case round =>
    obtain ⟨k, rfl, hk, HB⟩ := hrel
    have hzr := HB.out.size
    by_cases hlt : k < l.length
    · obtain ⟨tp, tc, x0, x1, hit, _⟩ := HT.out k hlt
      have y0 := (HB.out.cell (p := ⟨g, k * 2, none⟩) hg).trans x0
      have y1 := (HB.out.cell (p := ⟨g, k * 2 + 1, none⟩) hg).trans x1
      have HC := hide (fun w' (hb : Below w.heap.size w w') => HF.out k hlt tp tc w' (hit.below hb))
      clear x0 x1 hit
      have hkz : (k : Int) < (l.length : Int) := by omega
      generalize l[k].na = na at *
      generalize l[k].n = nn at *
      have hgr : g < wr.heap.size := by omega
      go_wp2_with fail
      refine (HC.out _ (HB.out.alloc hzr _)).mono ?_
      rintro e w1 ⟨rfl, hb1⟩
      go_wp2_with fail
      exact ⟨⟨k + 1, by go_num, by omega, (HB.out.alloc hzr _).trans (hb1.mono (by simp; omega))⟩, by simp [intOf]; omega⟩
    · have HI := hide (fun o => inOrder_any B0 (wr.alloc o) _ l (HA.out.below (HB.out.alloc hzr o)))
      go_wp2_with fail
      refine (HI.out _).mono ?_
      rintro e w2 ⟨v2, out, rfl, hat2, hb2, hord, hlo⟩
      simp only [World.size_alloc] at hat2 hb2
      obtain ⟨p2, c2, hv2⟩ := hat2.shape
      subst hv2
      have HA2 := hide hat2
      have HB2 := hide hb2
      have HO := hide hord
      have hz2 := hb2.size
      simp only [World.size_alloc] at hz2
      have HBD : Hid (Bd w2.heap.size wr.heap.size [] (.slice none 0 0) w2) := ⟨⟨_, .inl rfl, (hb2.block _ (by omega)).trans (alloc_new wr _)⟩, ⟨rfl, .inl ⟨rfl, rfl⟩⟩⟩
      have HLE := hide (HLEN.out out hord hlo)
      have HW2 : Hid (Below w.heap.size w w2) := (HB.out.alloc hzr _).trans (hb2.mono (by omega))
      have HTB := hide (HTAB.out)
      clear hat2 hb2 hord HI HB HB2
      go_wp2_with fail
      generalize wr.heap.size = bb at *
      go_loopw [27] (fun iv wq => ∃ (i : Nat) (v : Value), iv = .int .i64 i ∧ i ≤ out.length ∧ Hid (Bd w2.heap.size bb ((out.take i).flatMap lineL) v wq) ∧ Hid (Kp bb w2.heap.size w2 wq)) (fun iv _ => out.length - (intOf iv).toNat)
      case atStart => exact ⟨0, _, rfl, by omega, by show Bd _ _ _ _ _; simpa using HBD.out, Kp.refl _ _ _⟩
      case round =>
        obtain ⟨i, v, rfl, hi, HBq, HKq⟩ := hrel
        have hzq := HKq.out.size
        by_cases hlt2 : i < out.length
        · obtain ⟨_, ⟨_, h0⟩ | ⟨g2, c2', hv, hgB, hg2, hc2, ht2⟩⟩ := HA2.out
          · rw [h0] at hlt2; simp at hlt2
          · cases hv
            obtain ⟨tp, tc, x0, x1, hit, hbl⟩ := ht2 i hlt2
            have hxm : out[i] ∈ l := HO.out.sub _ (List.getElem_mem hlt2)
            have HX := hide (HOK.out _ hxm)
            have HFL := hide (flat_take lineL out i hlt2)
            have HFE := hide (flat_take_le lineL out (i + 1))
            have y0 := (HKq.out.cell (o := i * 2) hg2 (by omega)).trans x0
            have y1 := (HKq.out.cell (o := i * 2 + 1) hg2 (by omega)).trans x1
            have HIT := hide hit
            have HBL := hide hbl
            clear x0 x1 hit hbl ht2 hxm
            have hiz : (i : Int) < (out.length : Int) := by omega
            obtain ⟨x, hx⟩ : ∃ x, out[i] = x := ⟨_, rfl⟩
            rw [hx] at y0 y1 HIT HX HFL
            obtain ⟨na, n, t⟩ := x
            simp only at y0 y1 HIT HX HFL
            clear hx
            have hg2q : g2 < wr.heap.size := by omega
            have hlen : ((out.take i).flatMap lineL).length + (na.size + (lineT t n).length + 1) ≤ 140737488355328 := by
              have h1 := HFE.out
              have h2 := HLE.out
              have h3 := congrArg List.length HFL.out
              rw [List.length_append] at h3
              simp only [lineL, List.length_append, List.length_cons, List.length_nil, Array.length_toList] at h3
              have h4 : na.data.size = na.size := rfl
              omega
            have hba : ∀ o, Below wr.heap.size wr (wr.alloc o) := fun o => (Below.refl _ _).alloc (Nat.le_refl _) o
            have HBA := hide hba
            clear hba
            go_wp2_with fail
            refine (writeString w2.heap.size bb _ v na _ (HBq.out.below (HBA.out _)) (by omega) (by simp; omega)).mono ?_
            rintro e w3 ⟨rfl, v3, hbd3, hfr3⟩
            have hvb : ∀ k, v.ownBlock = some k → w2.heap.size ≤ k ∧ k < wr.heap.size := HBq.out.row.lt
            have hz3 := hfr3.size
            simp only [World.size_alloc] at hz3
            have hbl0 : bb < wr.heap.size := HBq.out.lt
            have hbk3 : w3.heap[wr.heap.size]? = (wr.alloc (.cells #[.string na, .slice tp n tc] 47)).heap[wr.heap.size]? := hfr3.block _ (by simp) (by omega) (fun e => by have := (hvb _ e).2; omega)
            have z1 : w3.cell? ⟨wr.heap.size, 1, none⟩ = some (.slice tp n tc) := (World.cell?_of_block (a := ⟨wr.heap.size, 1, none⟩) hbk3).trans (by simp)
            have hz3' : wr.heap.size < w3.heap.size := by omega
            have HB3 := hide hbd3
            have HK3 : Hid (Kp bb w2.heap.size w2 w3) := (HKq.out.below (Nat.le_refl _) (HBA.out _)).fr (Nat.le_refl _) hfr3 (fun k hk => (hvb k hk).1)
            clear hbd3 hfr3 hvb hbk3 y0 y1
            go_wp2_with fail
            generalize (out.take i).flatMap lineL = T0 at *
            generalize wr.heap.size = ab at *
            go_loopw [37] (fun jv wq => ∃ (j : Nat) (v : Value), jv = .int .i64 j ∧ j ≤ n ∧ Hid (Bd w2.heap.size bb (T0 ++ na.data.toList ++ lineT t j) v wq) ∧ Hid (Kp bb w2.heap.size w2 wq)) (fun jv _ => n - (intOf jv).toNat)
            case atStart => exact ⟨0, v3, rfl, by omega, by show Bd _ _ _ _ _; simpa [lineT] using HB3.out, HK3⟩
            case round =>
              obtain ⟨j, v4, rfl, hj, HB4, HK4⟩ := hrel
              have hz4 := HK4.out.size
              by_cases hlt3 : j < n
              · obtain ⟨_, ⟨_, _, _, h0⟩ | ⟨g3, c3, hv3, hg3, hc3, ht3⟩⟩ := HIT.out
                · omega
                · cases hv3
                  have hg3b := HBL.out _ rfl
                  simp only at hg3b
                  obtain ⟨a0, a1, a2⟩ := ht3 j hlt3
                  rw [Nat.mul_comm] at a0 a1 a2
                  have y0 := (HK4.out.cell (o := j * 3) hg3 (by omega)).trans a0
                  have y1 := (HK4.out.cell (o := j * 3 + 1) hg3 (by omega)).trans a1
                  have y2 := (HK4.out.cell (o := j * 3 + 2) hg3 (by omega)).trans a2
                  have hg3r : g3 < wr.heap.size := by omega
                  have HP := hide (fun w' hw => plain_any (t j) w' (HX.out j hlt3) hw)
                  have HTW : Hid (Lib.TabIs Tryz.prog wr "internal/strconv.uint64pow10" .u64 Lib.pow10Tab) :=
                    Lib.tabBelow_of_tabIs HTB.out _ (HW2.out.trans (HK4.out.all (by omega) HW2.out.size))
                  have hjz : (j : Int) < (n : Int) := by omega
                  have HLT := hide (lineT_le t (show j + 1 ≤ n by omega))
                  have HLS := hide (lineT_succ t j)
                  clear a0 a1 a2 ht3
                  obtain ⟨tm, htm⟩ : ∃ tm, t j = tm := ⟨_, rfl⟩
                  rw [htm] at y0 y1 y2 HP HLS
                  obtain ⟨tk, tn, tx⟩ := tm
                  simp only [Tm.val] at y0 y1 y2 HP
                  go_wp2_with fail
                  refine (HP.out _ (Lib.tabIs_alloc HTW.out _)).mono ?_
                  rintro e w5 ⟨rfl, hb5⟩
                  have hb5' : Below wr.heap.size wr w5 := ((Below.refl _ _).alloc (Nat.le_refl _) _).trans (hb5.mono (by simp))
                  have HB5 := hide (HB4.out.below hb5')
                  have HK5 := hide (HK4.out.below (Nat.le_refl _) hb5')
                  have hz5 := hb5'.size
                  clear hb5 hb5' y0 y1 y2
                  have hpl : (plainL ⟨tk, tn, tx⟩).length + 1 + (lineT t j).length ≤ (lineT t n).length := by
                    have h1 := HLT.out
                    rw [HLS.out, List.length_append, List.length_cons] at h1
                    omega
                  obtain ⟨pt, hpt⟩ : ∃ pt : ByteArray, ByteArray.mk (plainL ⟨tk, tn, tx⟩).toArray = pt := ⟨_, rfl⟩
                  have hpts : pt.size = (plainL ⟨tk, tn, tx⟩).length := by rw [← hpt]; simp [ByteArray.size]
                  have HPT : Hid (pt.data.toList = plainL ⟨tk, tn, tx⟩) := by show _ = _; rw [← hpt]
                  rw [hpt]
                  have hpm : pt.size + 1 ≤ 140737488355328 := by omega
                  clear hpt
                  have hcs : (ByteArray.mk #[9] ++ pt).size = 1 + pt.size := by rw [ByteArray.size_append]; rfl
                  have HCD : Hid ((ByteArray.mk #[9] ++ pt).data.toList = 9 :: plainL ⟨tk, tn, tx⟩) := by show _ = _; rw [ByteArray.data_append, Array.toList_append, HPT.out]; rfl
                  go_wp2_with fail
                  refine (writeString w2.heap.size bb _ v4 _ _ HB5.out (by rw [hcs]; simp only [List.length_append, Array.length_toList]; have h4 : na.data.size = na.size := rfl; omega) (Nat.le_trans hz4 hz5)).mono ?_
                  rintro e w6 ⟨rfl, v6, hbd6, hfr6⟩
                  have HK6 : Hid (Kp bb w2.heap.size w2 w6) := HK5.out.fr (Nat.le_refl _) hfr6 (fun k hk => (HB5.out.row.lt k hk).1)
                  have HB6 := hide hbd6
                  clear hbd6 hfr6
                  go_wp2_with fail
                  refine ⟨⟨j + 1, v6, by go_num, by omega, ?_, HK6⟩, by simp [intOf]; omega⟩
                  show Bd _ _ _ _ _
                  rw [HLS.out]
                  have h := HB6.out
                  rw [HCD.out] at h
                  simpa [List.append_assoc] using h
              · obtain rfl : j = n := by omega
                go_wp2_with fail
                refine (writeString w2.heap.size bb _ v4 ⟨#[10]⟩ _ HB4.out (by rw [show (ByteArray.mk #[10]).size = 1 from rfl]; simp only [List.length_append, Array.length_toList]; have h4 : na.data.size = na.size := rfl; omega) hz4).mono ?_
                rintro e w6 ⟨rfl, v6, hbd6, hfr6⟩
                have HK6 : Hid (Kp bb w2.heap.size w2 w6) := HK4.out.fr (Nat.le_refl _) hfr6 (fun k hk => (HB4.out.row.lt k hk).1)
                have HB6 := hide hbd6
                clear hbd6 hfr6
                go_wp2_with fail
                refine ⟨⟨i + 1, v6, by go_num, by omega, ?_, HK6⟩, by simp [intOf]; omega⟩
                show Bd _ _ _ _ _
                rw [HFL.out]
                have h := HB6.out
                simp only [List.append_assoc] at h
                simpa [lineL, List.append_assoc] using h
        · obtain rfl : i = out.length := by omega
          have HBE : Hid (Bd w2.heap.size bb (out.flatMap lineL) v wr) := by have h := HBq.out; rw [List.take_length] at h; exact h
          go_wp2_with fail
          refine (Tryz.Builder_String_any w.heap.size bb _ _ ((HBE.out.mono HW2.out.size).is hzr) (Nat.le_trans HW2.out.size hzq)).mono ?_
          rintro e w7 ⟨rfl, hb7⟩
          have HB7 : Hid (Below w.heap.size w w7) := (HW2.out.trans (HKq.out.all hzr HW2.out.size)).trans hb7
          clear hb7
          go_wp2_with fail
          exact bodyPost_ret (v := .tuple #[.string ⟨(out.flatMap lineL).toArray⟩, .int .i64 0, .int .i64 0]) (by simp [results, go_sem]) rfl ⟨out, HO.out, rfl, HB7.out⟩
end Go.Proofs.YtfiipfcdddaceaaGreatDoor
