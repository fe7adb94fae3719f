/- The document's Clear. -/
import Derived.Test.YtglbfeccdibmiaaCdP
import Derived.Test.YtglbfeccdibmiaaCaRf
namespace Go.Proofs.Ytglbfeccdibmiaa
open Go.RowKit
set_option linter.unusedSimpArgs false
set_option linter.unusedVariables false

/-- The first k orders behind a clearing. -/
def clK (l : List Od) (fs : List Fi) (k : Nat) : List Od := ((l.take k).map fun o => o.setAm (o.am - got fs o.id)).filter fun o => !(o.am == 0)
theorem clK_zero (l : List Od) (fs : List Fi) : clK l fs 0 = [] := rfl
theorem clK_succ {l : List Od} {fs : List Fi} {k : Nat} {o : Od} (h : l[k]? = some o) : clK l fs (k + 1) = if o.am - got fs o.id = 0 then clK l fs k else clK l fs k ++ [o.setAm (o.am - got fs o.id)] := by
  obtain ⟨hk, he⟩ := List.getElem?_eq_some_iff.1 h
  unfold clK
  rw [List.take_succ_eq_append_getElem hk, he, List.map_append, List.filter_append]
  split
  · rename_i e
    have : (o.setAm (o.am - got fs o.id)).am = 0 := e
    simp [this]
  · rename_i e
    have : ¬ (o.setAm (o.am - got fs o.id)).am = 0 := e
    simp [this]
theorem clK_len (l : List Od) (fs : List Fi) (k : Nat) : (clK l fs k).length ≤ k := by
  unfold clK
  refine Nat.le_trans (List.length_filter_le ..) ?_
  rw [List.length_map, List.length_take]; omega
theorem got_next {fs : List Fi} {k : Nat} {f : Fi} (h : fs[k]? = some f) (x : Int) : got (fs.take (k + 1)) x = got (fs.take k) x + if f.1 = x then f.2.2 else 0 := by
  obtain ⟨hk, he⟩ := List.getElem?_eq_some_iff.1 h
  rw [List.take_succ_eq_append_getElem hk, he, got_app]
  simp [got]
theorem refClear_results {w' : World} {c0 c1 v3 v4 v5 : Value} {r : Nat} (X : Blk w' r #[c0, c1] 27) {t : Array Value} (h1 : t.getD 2 undef = .pointer (some ⟨r, 0, none⟩)) (h3 : t.getD 3 undef = v3) (h4 : t.getD 4 undef = v4) (h5 : t.getD 5 undef = v5) :
    (results Try.f13 t).run Try.prog w' = .ok (.tuple #[.agg #[c0, c1], v3, v4, v5]) w' := by
  have a0 := X.cell (o := 0) rfl
  have a1 := X.cell (o := 1) rfl
  simp only [Array.getD_eq_getD_getElem?] at h1 h3 h4 h5
  simp [results, Try.results13, go_sem, h1, h3, h4, h5, a0, a1]
/-- What the document's Clear answers. -/
def RefC (B : Bo) (w : World) (e : Ending) (w' : World) : Prop := ∃ lv' vf, e = .returned (.tuple #[.agg #[lv', .int .i64 B.nx], .int .i64 (crs B.os).1, .int .i64 (crs B.os).2, vf]) ∧ w'.ownsRow w.heap.size 31 6 lv' B.clr.os.length (odL B.clr.os) ∧ w'.ownsRow w.heap.size 62 3 vf B.fl.length (fiL B.fl) ∧ Below w.heap.size w w'
set_option maxHeartbeats 8000000 in
set_option maxRecDepth 100000 in
theorem refClear_calls (lv : Value) (B : Bo) (hI : BInv B) (w : World) (h : Ods w lv B.os) : Calls Try.prog 13 #[.agg #[lv, .int .i64 B.nx]] w (RefC B w) := by
  obtain ⟨i6, hi6, hy0, hy1, hy2⟩ := info_parts infoOd6
  have hlen := hI.len
  have HI : Hid _ := hI
  obtain ⟨W1, hW1, X1, B1, Z1⟩ : ∃ W1, w.alloc (.cells #[lv, .int .i64 B.nx] 27) = W1 ∧ Blk W1 w.heap.size #[lv, .int .i64 B.nx] 27 ∧ Below w.heap.size w W1 ∧ W1.heap.size = w.heap.size + 1 := ⟨_, rfl, blk_new _ _ _ _ rfl, by go_grown, by simp⟩
  obtain ⟨W3, hW3, X3, B3, Z3⟩ : ∃ W3, W1.alloc (.cells #[.slice none 0 0, .int .i64 0] 27) = W3 ∧ Blk W3 (w.heap.size + 1) #[.slice none 0 0, .int .i64 0] 27 ∧ Below W1.heap.size W1 W3 ∧ W3.heap.size = w.heap.size + 2 := ⟨_, rfl, blk_new _ _ _ _ (by omega), by go_grown, by simp; omega⟩
  have Y1 : Blk W3 w.heap.size #[lv, .int .i64 B.nx] 27 := X1.below B3
  have B13 : Below w.heap.size w W3 := B1.trans (B3.mono (by omega))
  have y0 : W3.cell? ⟨w.heap.size, 0, none⟩ = some lv := Y1.cell rfl
  have O3 : Ods W3 lv B.os := Ods.below h B13
  have HCR : Hid _ := refCross_calls lv B.os W3 O3
  have HFI : Hid (∀ wx, Below W3.heap.size W3 wx → Calls Try.prog 33 #[lv, .int .i64 (crs B.os).1, .int .i64 (crs B.os).2] wx fun e w' => ∃ v', e = .returned v' ∧ w'.ownsRow wx.heap.size 62 3 v' B.fl.length (fiL B.fl) ∧ Below wx.heap.size wx w') := fun wx hb => refFills_calls lv B.os _ _ wx (O3.below hb) (by have := crs_amt B.os; omega)
  have hfl : B.fl.length ≤ 200 := by
    have := fT_len B.os (crs B.os).1 (crs B.os).2 2 hlen
    rw [fT_end _ _ _ hlen] at this
    unfold Bo.fl; omega
  obtain ⟨la, lc, rfl, hcells⟩ := id O3
  have HCL : Hid _ := hcells
  have HCO : Hid (clK B.os B.fl B.os.length = B.clr.os) := by
    show _ = _
    rw [clr_os]; unfold clK; rw [List.take_length]
  have HGT : Hid (∀ o ∈ B.os, ∀ k, 0 ≤ got (B.fl.take k) o.id ∧ got (B.fl.take k) o.id ≤ o.am) := fun o ho k => got_take hI _ _ k ho
  have HAM : Hid (∀ o ∈ B.os, 1 ≤ o.am ∧ o.am ≤ 1048576) := fun o ho => may_am (hI.may o ho)
  have HFN : Hid (∀ f ∈ B.fl, 0 ≤ f.2.2 ∧ f.2.2 ≤ 1048576) := fun f hf => by
    obtain ⟨q, hq, _, _, k3, k4⟩ := fills_mem hI hf
    have := may_am (hI.may q hq)
    omega
  have HX3 : Hid _ := X3
  have HY1 : Hid _ := Y1
  have HB13 : Hid _ := B13
  have HZ3 : Hid _ := Z3
  obtain ⟨cp, HCP⟩ : ∃ cp, Hid ((crs B.os).1 = cp) := ⟨_, rfl⟩
  obtain ⟨cn, HCN⟩ : ∃ cn, Hid ((crs B.os).2 = cn) := ⟨_, rfl⟩
  rw [HCP.out, HCN.out] at HCR HFI
  unfold RefC
  rw [HCP.out, HCN.out]
  obtain ⟨fs, HFS⟩ : ∃ fs, Hid (B.fl = fs) := ⟨_, rfl⟩
  rw [HFS.out] at HFI hfl HCO HGT HFN ⊢
  clear h hI X1 X3 Y1 B1 B3 B13 O3 hcells Z3
  go_enter Try.func13, Try.ntmps13
  go_wp2_with fail
  refine Calls.mono HCR.out ?_
  rintro e w4 ⟨rfl, b4⟩
  have y0' := keepY b4 y0
  clear y0
  go_wp2_with fail
  refine Calls.mono (HFI.out _ b4) ?_
  rintro e w5 ⟨vf, rfl, own5, b5⟩
  have z4 := b4.size
  have z5 := b5.size
  have hzz := HZ3.out
  have b35 : Below W3.heap.size W3 w5 := b4.trans (b5.mono z4)
  have HB5 : Hid (Below w.heap.size w w5) := HB13.out.trans (b35.mono (by omega))
  obtain ⟨fa, fc, rfl⟩ := own_form own5
  have HO5 : Hid _ := own5
  have HYB : Hid (Blk w5 w.heap.size _ 27) := Blk.below HY1.out b35
  have HXR : Hid (Blk w5 (w.heap.size + 1) _ 27) := Blk.below HX3.out b35
  have hb5 : w.heap.size + 2 ≤ w5.heap.size := by omega
  have hb4 : w.heap.size + 2 ≤ w4.heap.size := by omega
  have HC5 : Hid (∀ (k : Nat) (o : Od), B.os[k]? = some o → ∃ g off, la = some ⟨g, off, none⟩ ∧ ∀ j u, (oC o)[j]? = some u → w5.cell? ⟨g, off + k * 6 + j, none⟩ = some u) := fun k o ho => by
    rcases HCL.out with h0 | ⟨g, off, e, hx⟩
    · rw [h0] at ho; simp at ho
    · exact ⟨g, off, e, fun j u hu => keepY b35 (hx k o j u ho hu)⟩
  have HF5 : Hid (∀ (k : Nat) (f : Fi), fs[k]? = some f → ∃ g, fa = some ⟨g, 0, none⟩ ∧ ∀ j u, (fC f)[j]? = some u → w5.cell? ⟨g, k * 3 + j, none⟩ = some u) := fun k f hf => by
    rcases (HO5.out).2 with ⟨q, q2⟩ | ⟨g, cap, cur, q, _⟩
    · exfalso
      have := (List.getElem?_eq_some_iff.1 hf).1
      omega
    · injection q with q1 _ _
      refine ⟨g, q1, fun j u hu => ?_⟩
      have q := World.ownsRow.cells HO5.out (g := g) (by rw [q1]; rfl) (k * 3 + j) u (fiL_get _ k j f u hf hu)
      rw [Addr.add_lit, Nat.zero_add] at q
      exact q
  clear own5 b35 b4 b5 y0' z4 z5 HCL HX3 HY1 hzz HZ3 HB13
  go_wp2_with fail
  go_loopw [9, 10] (fun o i wr => ∃ k : Nat, k ≤ B.os.length ∧ i = .int .i64 k ∧ Hid (wr.ownsRow w5.heap.size 31 6 o (clK B.os fs k).length (odL (clK B.os fs k)) ∧ Below w5.heap.size w5 wr)) (fun _ i _ => B.os.length - (intOf i).toNat)
  case atStart => exact ⟨0, Nat.zero_le _, rfl, by rw [clK_zero]; exact World.ownsRow_nil _ _ _ _, Below.refl _ _⟩
  case round =>
    obtain ⟨k, hk, rfl, HR⟩ := hrel
    obtain ⟨wa, rfl⟩ : ∃ wa, wa = wr := ⟨wr, rfl⟩
    have HYa : Hid (Blk wa w.heap.size _ 27) := Blk.below HYB.out HR.out.2
    have ya0 : wa.cell? ⟨w.heap.size, 0, none⟩ = some (.slice la B.os.length lc) := Blk.cell HYa.out rfl
    have ya1 : wa.cell? ⟨w.heap.size, 1, none⟩ = some (.int .i64 B.nx) := Blk.cell HYa.out rfl
    have za := HR.out.2.size
    by_cases hlt : k < B.os.length
    · have hd : decide ((k : Int) < (B.os.length : Int)) = true := by simp only [decide_eq_true_eq]; omega
      have hd' : (k : Int) < (B.os.length : Int) := by omega
      obtain ⟨o, ho⟩ : ∃ o, B.os[k]? = some o := ⟨B.os[k], by simp [hlt]⟩
      have hom := List.mem_of_getElem? ho
      obtain ⟨g, off, rfl, hx⟩ := HC5.out k o ho
      have m0 : wa.cell? ⟨g, off + k * 6, none⟩ = some (.int .i64 o.id) := keepY HR.out.2 (hx 0 _ rfl)
      have m1 : wa.cell? ⟨g, off + k * 6 + 1, none⟩ = some (.int .i64 o.own) := keepY HR.out.2 (hx 1 _ rfl)
      have m2 : wa.cell? ⟨g, off + k * 6 + 2, none⟩ = some (.int .i64 o.pr) := keepY HR.out.2 (hx 2 _ rfl)
      have m3 : wa.cell? ⟨g, off + k * 6 + 3, none⟩ = some (.int .i64 o.am) := keepY HR.out.2 (hx 3 _ rfl)
      have m4 : wa.cell? ⟨g, off + k * 6 + 4, none⟩ = some (.int .i64 o.pl) := keepY HR.out.2 (hx 4 _ rfl)
      have m5 : wa.cell? ⟨g, off + k * 6 + 5, none⟩ = some (.bool o.by) := keepY HR.out.2 (hx 5 _ rfl)
      have HSU : Hid _ := clK_succ (fs := fs) ho
      have HG : Hid (∀ k, 0 ≤ got (fs.take k) o.id ∧ got (fs.take k) o.id ≤ o.am) := HGT.out o hom
      have ham := HAM.out o hom
      obtain ⟨q, hq⟩ : ∃ q, wa.heap.size = q := ⟨_, rfl⟩
      obtain ⟨W6, hW6, X6, B6⟩ : ∃ W6, wa.alloc (.cells #[.int .i64 o.id, .int .i64 o.own, .int .i64 o.pr, .int .i64 o.am, .int .i64 o.pl, .bool o.by] 31) = W6 ∧ Blk W6 q #[.int .i64 o.id, .int .i64 o.own, .int .i64 o.pr, .int .i64 o.am, .int .i64 o.pl, .bool o.by] 31 ∧ Below wa.heap.size wa W6 := ⟨_, rfl, blk_new _ _ _ _ hq.symm, by go_grown⟩
      have HX6 : Hid _ := X6
      have HB6 : Hid _ := B6
      have hqw : w5.heap.size ≤ q := by omega
      obtain ⟨oa, oc, rfl⟩ := own_form HR.out.1
      have hgA := HG.out fs.length
      rw [List.take_length] at hgA
      clear ho hom hx X6 B6
      go_wp2_with fail
      clear hW6 m0 m1 m2 m3 m4 m5 ya0 ya1
      go_loopw [12] (fun i wx => ∃ j : Nat, j ≤ fs.length ∧ i = .int .i64 j ∧ Hid (Blk wx q #[.int .i64 o.id, .int .i64 o.own, .int .i64 o.pr, .int .i64 (o.am - got (fs.take j) o.id), .int .i64 o.pl, .bool o.by] 31 ∧ Below wa.heap.size wa wx)) (fun i _ => fs.length - (intOf i).toNat)
      case atStart => exact ⟨0, Nat.zero_le _, rfl, by have e0 : o.am - got (fs.take 0) o.id = o.am := by simp [got]
                                                       rw [e0]; exact HX6.out, HB6.out⟩
      case round =>
        obtain ⟨j, hj, rfl, HJ⟩ := hrel
        have XJ : Blk wr q #[.int .i64 o.id, .int .i64 o.own, .int .i64 o.pr, .int .i64 (o.am - got (fs.take j) o.id), .int .i64 o.pl, .bool o.by] 31 := HJ.out.1
        have hgj := HG.out j
        by_cases hj2 : j < fs.length
        · have hd2 : decide ((j : Int) < (fs.length : Int)) = true := by simp only [decide_eq_true_eq]; omega
          have hd2' : (j : Int) < (fs.length : Int) := by omega
          obtain ⟨f, hf⟩ : ∃ f, fs[j]? = some f := ⟨fs[j], by simp [hj2]⟩
          obtain ⟨g2, rfl, hx2⟩ := HF5.out j f hf
          have n0 : wr.cell? ⟨g2, j * 3, none⟩ = some (.int .i64 f.1) := keepY HJ.out.2 (keepY HR.out.2 (hx2 0 _ rfl))
          have n2 : wr.cell? ⟨g2, j * 3 + 2, none⟩ = some (.int .i64 f.2.2) := keepY HJ.out.2 (keepY HR.out.2 (hx2 2 _ rfl))
          have x0 : wr.cell? ⟨q, 0, none⟩ = some (.int .i64 o.id) := XJ.cell rfl
          have x3 : wr.cell? ⟨q, 3, none⟩ = some (.int .i64 (o.am - got (fs.take j) o.id)) := XJ.cell rfl
          have f3 : wr.frozen? ⟨q, 3, none⟩ = false := XJ.frozen
          have HGN : Hid _ := got_next hf o.id
          have hfn := HFN.out f (List.mem_of_getElem? hf)
          have HXJ : Hid _ := XJ
          have HBJ : Hid _ := HJ.out.2
          clear hx2 hf XJ HJ
          by_cases hid : f.1 = o.id
          · have d1 : (f.1 == o.id) = true := by simpa using hid
            have HGE : Hid (o.am - got (fs.take (j + 1)) o.id = o.am - got (fs.take j) o.id - f.2.2) := by show _ = _; rw [HGN.out, if_pos hid]; omega
            have hw1 : IntKind.i64.wrap (o.am - got (fs.take j) o.id - f.2.2) = o.am - got (fs.take j) o.id - f.2.2 := by rw [IntKind.wrap_i64]; omega
            clear hid HGN
            generalize o.am - got (fs.take j) o.id = m at *
            generalize f.2.2 = n at *
            generalize f.1 = fi at *
            have HBN : Hid (Blk (wr.drew.drew.setCell ⟨q, 3, none⟩ (.int .i64 (m - n))) q #[.int .i64 o.id, .int .i64 o.own, .int .i64 o.pr, .int .i64 (m - n), .int .i64 o.pl, .bool o.by] 31 ∧ Below wa.heap.size wa (wr.drew.drew.setCell ⟨q, 3, none⟩ (.int .i64 (m - n)))) := by
              refine ⟨(Blk.drew (Blk.drew HXJ.out)).set 3 _, ?_⟩
              exact (Off.setCell (Off.refl q _) (p := ⟨q, 3, none⟩) rfl _).below (by omega) (Below.drew (Below.drew HBJ.out)) (by have := Below.size HBJ.out; exact this)
            clear HXJ
            go_wp2_with fail
            go_region
            go_wp2_with fail
            go_region
            go_wp2_with fail
            refine ⟨⟨j + 1, by omega, by norm_cast, ?_⟩, by simp [intOf]; omega⟩
            rw [HGE.out]; exact HBN.out
          · have d1 : (f.1 == o.id) = false := by simpa using hid
            have HGE : Hid (o.am - got (fs.take (j + 1)) o.id = o.am - got (fs.take j) o.id) := by show _ = _; rw [HGN.out, if_neg hid]; omega
            clear hid HGN
            generalize o.am - got (fs.take j) o.id = m at *
            generalize f.1 = fi at *
            have HBN : Hid (Blk wr.drew q #[.int .i64 o.id, .int .i64 o.own, .int .i64 o.pr, .int .i64 m, .int .i64 o.pl, .bool o.by] 31 ∧ Below wa.heap.size wa wr.drew) := ⟨Blk.drew HXJ.out, Below.drew HBJ.out⟩
            clear HXJ
            go_wp2_with fail
            go_region
            go_wp2_with fail
            refine ⟨⟨j + 1, by omega, by norm_cast, ?_⟩, by simp [intOf]; omega⟩
            rw [HGE.out]; exact HBN.out
        · have hd2 : decide ((j : Int) < (fs.length : Int)) = false := by simp only [decide_eq_false_iff_not]; omega
          have hd2' : ¬ (j : Int) < (fs.length : Int) := by omega
          obtain rfl : j = fs.length := by omega
          rw [List.take_length] at XJ hgj
          have HBJ : Hid _ := HJ.out.2
          have hn0 : 0 ≤ o.am - got fs o.id := by omega
          have hcl := clK_len B.os fs k
          obtain ⟨m, HM⟩ : ∃ m, Hid (o.am - got fs o.id = m) := ⟨_, rfl⟩
          rw [HM.out] at XJ hn0 HSU
          have HSM : Hid (oC (o.setAm m) = [.int .i64 o.id, .int .i64 o.own, .int .i64 o.pr, .int .i64 m, .int .i64 o.pl, .bool o.by]) := rfl
          have x0 : wr.cell? ⟨q, 0, none⟩ = some (.int .i64 o.id) := XJ.cell rfl
          have x1 : wr.cell? ⟨q, 1, none⟩ = some (.int .i64 o.own) := XJ.cell rfl
          have x2 : wr.cell? ⟨q, 2, none⟩ = some (.int .i64 o.pr) := XJ.cell rfl
          have x3 : wr.cell? ⟨q, 3, none⟩ = some (.int .i64 m) := XJ.cell rfl
          have x4 : wr.cell? ⟨q, 4, none⟩ = some (.int .i64 o.pl) := XJ.cell rfl
          have x5 : wr.cell? ⟨q, 5, none⟩ = some (.bool o.by) := XJ.cell rfl
          have hB5r : Below w5.heap.size w5 wr := HR.out.2.trans (Below.mono HBJ.out za)
          have HBW : Hid _ := hB5r
          have HRO : Hid _ := ownB HR.out.1 HBJ.out
          have zr := hB5r.size
          clear XJ HJ hgj hB5r hgA
          by_cases hm0 : m = 0
          · have d0 : decide (0 < m) = false := decide_eq_false (by omega)
            have HS2 : Hid (clK B.os fs (k + 1) = clK B.os fs k) := by show _ = _; rw [HSU.out, if_pos hm0]
            clear hm0 hn0 x0 x1 x2 x4 x5
            go_wp2_with fail
            refine ⟨⟨k + 1, by omega, by norm_cast, ?_⟩, by simp [intOf]; omega⟩
            rw [HS2.out]; exact ⟨HRO.out, HBW.out⟩
          · have d0 : decide (0 < m) = true := decide_eq_true (by omega)
            have HS2 : Hid (clK B.os fs (k + 1) = clK B.os fs k ++ [o.setAm m]) := by show _ = _; rw [HSU.out, if_neg hm0]
            obtain ⟨W8, hW8, B8⟩ : ∃ W8, wr.alloc (.cells #[.int .i64 o.id, .int .i64 o.own, .int .i64 o.pr, .int .i64 m, .int .i64 o.pl, .bool o.by] 31) = W8 ∧ Below wr.heap.size wr W8 := ⟨_, rfl, by go_grown⟩
            have HN8 : Hid (∀ jj u, (oC (o.setAm m))[jj]? = some u → W8.cell? ((⟨wr.heap.size, 0, none⟩ : Addr).add jj) = some u) := by
              rw [← hW8]; exact six_new wr (o.setAm m) _
            have HO8 : Hid _ := ownB HRO.out B8
            have z8 := B8.size
            have HB8 : Hid _ := Below.trans HBW.out (B8.mono zr)
            clear hm0 hn0 B8
            go_wp2_with (at_builtin; refine wpList_append_own _ rfl _ _ 25 rfl w5.heap.size 31 i6 (.agg #[.int .i64 0, .int .i64 0, .int .i64 0, .int .i64 0, .int .i64 0, .bool false]) 6 48 Try.underlying25 hi6 hy0 hy1 hy2 rfl (by decide) _ _ _ rfl HO8.out ⟨wr.heap.size, 0, none⟩ 1 1 (oC (o.setAm m)) rfl rfl ?d1 ?d2 ?d3 ?d4 ?d5 ?_)
            case d1 => first | exact HN8.out | exact (fun jj u hu => by have hh := HN8.out jj u hu; rw [Addr.add_lit, Nat.zero_add] at hh; exact hh)
            case d2 => exact oC_oneO _
            case d3 => unfold maxLen; omega
            case d4 => omega
            case d5 => omega
            intro v' w7 own' gr' _
            have hb7 : Below w5.heap.size w5 w7 := below_grownU HB8.out gr' (fun q hq => (World.ownsRow.lt HO8.out q hq).1) (by omega)
            have HO7 : Hid (w7.ownsRow w5.heap.size 31 6 v' (clK B.os fs (k + 1)).length (odL (clK B.os fs (k + 1)))) := by
              rw [HS2.out, odL_snocO, List.length_append]; exact own'
            clear own' gr'
            go_wp2
            exact ⟨⟨k + 1, by omega, by norm_cast, HO7.out, hb7⟩, by simp [intOf]; omega⟩
    · have hd : decide ((k : Int) < (B.os.length : Int)) = false := by simp only [decide_eq_false_iff_not]; omega
      have hd' : ¬ (k : Int) < (B.os.length : Int) := by omega
      obtain rfl : k = B.os.length := by omega
      have hrow := HR.out.1
      rw [HCO.out] at hrow
      obtain ⟨oa, oc, rfl⟩ := own_form hrow
      have HROW : Hid _ := hrow
      have HBa : Hid (Below w.heap.size w wa) := Below.trans HB5.out (Below.mono HR.out.2 (by omega))
      have XRa : Blk wa (w.heap.size + 1) #[.slice none 0 0, .int .i64 0] 27 := Blk.below HXR.out HR.out.2
      have HOFa : Hid _ := ownB HO5.out HR.out.2
      obtain ⟨W9, hW9, X9, _⟩ := setRow_named XRa #[.slice oa B.clr.os.length oc, .int .i64 B.nx]
      clear HR hrow HF5 HC5
      go_wp2_with ((with_reducible refine st_row (ty := 27) XRa (infoBk2 _ _) (sameBk2 _ _ _ _) (oneBk2 _ _ _ _) hW9 ?_ ?_ ?_); kernel_rfl; kernel_rfl)
      refine bodyPost_ret (v := .tuple #[.agg #[.slice oa B.clr.os.length oc, .int .i64 B.nx], .int .i64 cp, .int .i64 cn, .slice fa fs.length fc]) (refClear_results X9 rfl rfl rfl rfl) rfl ?_
      have gs : wa.grownBy W9 (some (w.heap.size + 1)) := offBy (by rw [← hW9]; exact (Off.refl _ _).setRow _)
      refine ⟨_, _, rfl, ownsRow_weakO (World.ownsRow.kept HROW.out gs (Or.inr (fun e => by have := (World.ownsRow.lt HROW.out _ e).1; omega))) (by omega), ownsRow_weakO (World.ownsRow.kept HOFa.out gs (Or.inr (fun e => by have := (World.ownsRow.lt HOFa.out _ e).1; omega))) (by omega), below_row HBa.out hW9 (by omega)⟩
end Go.Proofs.Ytglbfeccdibmiaa
