/- Whether all that a proof has leads to the root: the program's answer. -/
import Derived.Test.YtpcafjbebhcilaaGreatTm30
namespace Go.Proofs.YtpcafjbebhcilaaGreat
open Go.RowKit
set_option linter.unusedSimpArgs false
set_option linter.unusedVariables false
variable {p b x y : Nat} {T : List ByteArray} {S : List (Int × ByteArray)}

/-- A slice of paths whose sides can be cut. -/
def PtsC (w : World) (v : Value) (l : List Pt) : Prop := Pts w v l ∧ ∀ k (h : k < l.length) g off cap, v = .slice (some ⟨g, off, none⟩) l.length cap → ∃ sv, w.cell? ⟨g, off + k * 4 + 3, none⟩ = some sv ∧ Lf w sv l[k].sides
theorem PtsC.below {w w' : World} {v : Value} {l : List Pt} (h : PtsC w v l) (hb : Below w.heap.size w w') : PtsC w' v l :=
  ⟨h.1.below hb, fun k hk g off cap e => by obtain ⟨sv, h1, h2⟩ := h.2 k hk g off cap e; exact ⟨sv, keepCell hb h1, h2.below hb⟩⟩
theorem Strs.off2 {w w' : World} {v : Value} {l : List ByteArray} (h : Strs w v l) (hb : Book w p b x y T S) (ho : Off2 x y w w') : Strs w' v l := by
  rcases h with h | ⟨g, off, cap, hv, hc⟩
  · exact Or.inl h
  · exact Or.inr ⟨g, off, cap, hv, fun i hi => ⟨keepCell2 hb ho (hc i hi).1, (hc i hi).2⟩⟩
theorem Pts.off2 {w w' : World} {v : Value} {l : List Pt} (h : Pts w v l) (hb : Book w p b x y T S) (ho : Off2 x y w w') : Pts w' v l := by
  rcases h with h | ⟨g, off, cap, hv, hc⟩
  · exact Or.inl h
  · refine Or.inr ⟨g, off, cap, hv, fun i hi => ?_⟩
    obtain ⟨sv, h1, h2, h3, h4, h5, h6⟩ := hc i hi
    exact ⟨sv, keepCell2 hb ho h1, keepCell2 hb ho h2, keepCell2 hb ho h3, keepCell2 hb ho h4, h5.off2 hb ho, h6⟩
theorem PtsC.off2 {w w' : World} {v : Value} {l : List Pt} (h : PtsC w v l) (hb : Book w p b x y T S) (ho : Off2 x y w w') : PtsC w' v l :=
  ⟨h.1.off2 hb ho, fun k hk g off cap e => by obtain ⟨sv, h1, h2⟩ := h.2 k hk g off cap e; exact ⟨sv, keepCell2 hb ho h1, h2.off2 hb ho⟩⟩
theorem PtsC.at {w : World} {v : Value} {l : List Pt} (h : PtsC w v l) (k : Nat) (hk : k < l.length) : ∃ g off cap sv, v = .slice (some ⟨g, off, none⟩) l.length cap ∧ w.cell? ⟨g, off + k * 4, none⟩ = some (.int .i64 l[k].idx) ∧ w.cell? ⟨g, off + k * 4 + 1, none⟩ = some (.string l[k].key) ∧ w.cell? ⟨g, off + k * 4 + 2, none⟩ = some (.string l[k].dat) ∧ w.cell? ⟨g, off + k * 4 + 3, none⟩ = some sv ∧ Lf w sv l[k].sides := by
  obtain ⟨g, off, cap, sv, e, h1, h2, h3, h4, _⟩ := h.1.at k hk
  obtain ⟨sv', h5, h6⟩ := h.2 k hk g off cap e
  rw [h4] at h5
  injection h5 with h5
  subst h5
  exact ⟨g, off, cap, sv, e, h1, h2, h3, h4, h6⟩

/-- Where a path leads to, by a book that has numbered these. -/
def Led (T : List ByteArray) (cnt : Nat) (t : Pt) (r : ByteArray) : Prop :=
  leafT ⟨t.key, t.dat⟩ ∈ T ∧ ∃ a, Climb T (dig T (leafT ⟨t.key, t.dat⟩)) t.idx.toNat cnt t.sides a ∧ rootT cnt a ∈ T ∧ r = dig T (rootT cnt a)
theorem Led.ext {T T' : List ByteArray} {cnt : Nat} {t : Pt} {r : ByteArray} (h : Led T cnt t r) (e : Ext T T') : Led T' cnt t r := by
  obtain ⟨h1, a, h2, h3, rfl⟩ := h
  refine ⟨(e _ h1).1, a, ?_, (e _ h3).1, (e _ h3).2.symm⟩
  rw [(e _ h1).2]
  exact h2.ext e
theorem Led.same {T : List ByteArray} {cnt : Nat} {t : Pt} {r s : ByteArray} (h : Led T cnt t r) (k : Led T cnt t s) : r = s := by
  obtain ⟨_, a, h2, _, rfl⟩ := h
  obtain ⟨_, c, k2, _, rfl⟩ := k
  rw [h2.same k2]
def LedAll (T : List ByteArray) (q : Pf) (rt : ByteArray) : Prop := (q.paths = [] → rootT 0 ⟨#[]⟩ ∈ T ∧ rt = dig T (rootT 0 ⟨#[]⟩)) ∧ ∀ t ∈ q.paths, Led T q.cnt.toNat t rt
def LedNot (T : List ByteArray) (q : Pf) (rt : ByteArray) : Prop := (q.paths = [] ∧ rootT 0 ⟨#[]⟩ ∈ T ∧ rt ≠ dig T (rootT 0 ⟨#[]⟩)) ∨ ∃ t ∈ q.paths, ∃ r, Led T q.cnt.toNat t r ∧ rt ≠ r
theorem LedAll.not {T : List ByteArray} {q : Pf} {rt : ByteArray} (h : LedAll T q rt) (k : LedNot T q rt) : False := by
  rcases k with ⟨h0, _, hn⟩ | ⟨t, ht, r, hr, hn⟩
  · exact hn (h.1 h0).2
  · exact hn ((h.2 t ht).same hr)
theorem LedAll.ext {T T' : List ByteArray} {q : Pf} {rt : ByteArray} (h : LedAll T q rt) (e : Ext T T') : LedAll T' q rt :=
  ⟨fun h0 => ⟨(e _ (h.1 h0).1).1, by rw [(e _ (h.1 h0).1).2]; exact (h.1 h0).2⟩, fun t ht => (h.2 t ht).ext e⟩
/-- What leads answers. -/
def LeadsP (x y p b : Nat) (T : List ByteArray) (S : List (Int × ByteArray)) (w : World) (q : Pf) (rt : ByteArray) (e : Ending) (w' : World) : Prop :=
  ∃ r T', e = .returned (.bool r) ∧ (r = true → LedAll T' q rt) ∧ (r = false → LedNot T' q rt) ∧ Grew x y p b T S w 40 T' w'
theorem pfFits_parts {q : Pf} (h : pfFits q = true) : pfOk q = true ∧ ∀ t ∈ q.paths, t.idx < q.cnt ∧ t.sides.length = hgt t.idx.toNat q.cnt.toNat := by
  unfold pfFits at h
  rw [Bool.and_eq_true] at h
  refine ⟨h.1, fun t ht => ?_⟩
  have := List.all_eq_true.1 h.2 t ht
  unfold ptFits at this
  rw [Bool.and_eq_true, decide_eq_true_eq, decide_eq_true_eq] at this
  exact this

set_option maxHeartbeats 4000000 in
set_option maxRecDepth 100000 in
theorem leads_none (q : Pf) (lv : Value) (rt : ByteArray) (w : World) (hs : PtsC w lv q.paths) (h0 : q.paths = []) (h : Book w p b x y T S) (hT : T.length < 900000) :
    Calls Tryz.prog 62 #[.pointer (some ⟨p, 0, none⟩), .string rt, q.val lv] w (LeadsP x y p b T S w q rt) := by
  obtain ⟨W1, hW1, X1, B1, Z1⟩ : ∃ W1, w.alloc (.cells #[.int .i64 q.cnt, lv] 36) = W1 ∧ Blk W1 w.heap.size #[.int .i64 q.cnt, lv] 36 ∧ Below w.heap.size w W1 ∧ W1.heap.size = w.heap.size + 1 :=
    ⟨_, rfl, blk_new _ _ _ _ rfl, by go_grown, by simp⟩
  have e1 : W1.cell? ⟨w.heap.size, 1, none⟩ = some lv := X1.cell rfl
  obtain ⟨a, cap, rfl⟩ := hs.1.len
  have hl0 : q.paths.length = 0 := by rw [h0]; rfl
  unfold Pf.val
  rw [hl0] at e1 hW1 ⊢
  have HR : Hid _ := rootOf_calls 0 ⟨#[]⟩ W1 (h.below B1) (by omega) (by omega) (by decide)
  have HH : Hid _ := h
  have H0 : Hid _ := h0
  clear h hs hl0 X1 h0
  go_enter Tryz.func62, Tryz.ntmps62
  go_wp2_with fail
  refine Calls.mono HR.out ?_
  rintro e w2 A2
  obtain rfl := A2.ret
  have G2 := ((Grew.refl HH.out).below B1).trans A2.grew
  generalize hR : dig (note T (rootT 0 ⟨#[]⟩)) (rootT 0 ⟨#[]⟩) = R at *
  go_wp2
  go_ret
  refine ⟨_, _, rfl, fun e => ⟨fun _ => ⟨mem_noted _ _, ?_⟩, fun t ht => by rw [H0.out] at ht; cases ht⟩, fun e => Or.inl ⟨H0.out, mem_noted _ _, ?_⟩, G2.le (by omega)⟩
  · rw [hR]; rw [strEq, decide_eq_true_eq] at e; exact e.symm
  · rw [hR]; rw [strEq, decide_eq_false_iff_not] at e; exact fun e2 => e e2.symm

set_option maxHeartbeats 4000000 in
set_option maxRecDepth 100000 in
theorem leads_some (q : Pf) (lv : Value) (rt : ByteArray) (w : World) (hs : PtsC w lv q.paths) (h0 : 0 < q.paths.length) (hq : pfFits q = true) (h : Book w p b x y T S) (hT : T.length < 900000) :
    Calls Tryz.prog 62 #[.pointer (some ⟨p, 0, none⟩), .string rt, q.val lv] w (LeadsP x y p b T S w q rt) := by
  obtain ⟨W1, hW1, X1, B1, Z1⟩ : ∃ W1, w.alloc (.cells #[.int .i64 q.cnt, lv] 36) = W1 ∧ Blk W1 w.heap.size #[.int .i64 q.cnt, lv] 36 ∧ Below w.heap.size w W1 ∧ W1.heap.size = w.heap.size + 1 :=
    ⟨_, rfl, blk_new _ _ _ _ rfl, by go_grown, by simp⟩
  obtain ⟨hok, hfit⟩ := pfFits_parts hq
  obtain ⟨⟨hc0, hc1⟩, hp2, hpt⟩ := pfOk_parts hok
  obtain ⟨cn, hcn⟩ := Int.eq_ofNat_of_zero_le hc0
  have e0 : W1.cell? ⟨w.heap.size, 0, none⟩ = some (.int .i64 q.cnt) := X1.cell rfl
  have e1 : W1.cell? ⟨w.heap.size, 1, none⟩ = some lv := X1.cell rfl
  obtain ⟨a, cap, rfl⟩ := hs.1.len
  have d0 : decide ((q.paths.length : Int) = 0) = false := decide_eq_false (by omega)
  have d0' : ((q.paths.length : Int) == 0) = false := d0
  unfold Pf.val
  rw [hcn] at e0 hW1 ⊢
  have HPT : Hid _ := hpt
  have HFT : Hid _ := hfit
  have hB1 := h.below B1
  have HB1 : Hid _ := hB1
  have HS : Hid _ := hs.below B1
  have HG1 : Hid _ := (Grew.refl h).below B1
  have HCN : Hid _ := hcn
  have hcn4 : cn ≤ 4096 := by omega
  clear hs hpt hfit hok hq X1 hcn hB1 h hc0 hc1
  go_enter Tryz.func62, Tryz.ntmps62
  go_wp2_with fail
  go_loopw [21] (fun i wr => ∃ (k : Nat) (T1 : List ByteArray), k ≤ q.paths.length ∧ i = .int .i64 k ∧ Hid (∀ t ∈ q.paths.take k, Led T1 cn t rt) ∧ Grew x y p b T S w (15 * k) T1 wr ∧ Off2 x y W1 wr) (fun i _ => q.paths.length - (intOf i).toNat)
  case atStart => exact ⟨0, T, Nat.zero_le _, rfl, by show ∀ t ∈ _, _; simp, HG1.out, Off2.refl _ _ _⟩
  case round =>
    obtain ⟨k, T1, hk, rfl, hall, Gr, hO⟩ := hrel
    by_cases hlt : k < q.paths.length
    · have hd : decide ((k : Int) < (q.paths.length : Int)) = true := by simp only [decide_eq_true_eq]; omega
      obtain ⟨g, off, sv, rfl, m0, m1, m2, m3, hst⟩ : ∃ g off sv, a = some ⟨g, off, none⟩ ∧ wr.cell? ⟨g, off + k * 4, none⟩ = some (.int .i64 q.paths[k].idx) ∧ wr.cell? ⟨g, off + k * 4 + 1, none⟩ = some (.string q.paths[k].key) ∧ wr.cell? ⟨g, off + k * 4 + 2, none⟩ = some (.string q.paths[k].dat) ∧ wr.cell? ⟨g, off + k * 4 + 3, none⟩ = some sv ∧ Lf wr sv q.paths[k].sides := by
        obtain ⟨g, off, c, sv, e, q1, q2, q3, q4, q5⟩ := (PtsC.off2 HS.out HB1.out hO).at k hlt
        simp only [Value.slice.injEq] at e
        exact ⟨g, off, sv, e.1, q1, q2, q3, q4, q5⟩
      obtain ⟨sp, sc, rfl, -⟩ := id hst
      have hto := HPT.out q.paths[k] (List.getElem_mem hlt)
      have hft := HFT.out q.paths[k] (List.getElem_mem hlt)
      have HN : Hid _ := fun (T6 : List ByteArray) (e6 : Ext T1 T6) (h6 : Led T6 cn q.paths[k] rt) => (show Hid (∀ t ∈ q.paths.take (k + 1), Led T6 cn t rt) from fun t ht => by
        rw [List.take_succ_eq_append_getElem hlt, List.mem_append, List.mem_singleton] at ht
        rcases ht with ht | rfl
        · exact (hall.out t ht).ext e6
        · exact h6)
      have HM : Hid _ := List.getElem_mem hlt
      generalize q.paths[k] = t at *
      obtain ⟨hti, hk64, hd96, hs13, hs32⟩ := ptOk_parts hto
      obtain ⟨ti, htn⟩ := Int.eq_ofNat_of_zero_le hti.1
      rw [htn] at m0
      have hHg : Hgt ti cn t.sides.length := by
        have h1 := hgt_is (i := ti) (n := cn) (by have := hft.1; rw [htn, HCN.out] at this; omega)
        have h2 := hft.2
        rw [htn, HCN.out] at h2
        rw [h2]
        exact h1
      obtain ⟨W3, hW3, X3, B3, Z3⟩ : ∃ W3, wr.alloc (.cells #[.int .i64 ti, .string t.key, .string t.dat, .slice sp t.sides.length sc] 80) = W3 ∧ Blk W3 wr.heap.size #[.int .i64 ti, .string t.key, .string t.dat, .slice sp t.sides.length sc] 80 ∧ Below wr.heap.size wr W3 ∧ W3.heap.size = wr.heap.size + 1 :=
        ⟨_, rfl, blk_new _ _ _ _ rfl, by go_grown, by simp⟩
      have g0 : W3.cell? ⟨wr.heap.size, 0, none⟩ = some (.int .i64 ti) := X3.cell rfl
      have g1 : W3.cell? ⟨wr.heap.size, 1, none⟩ = some (.string t.key) := X3.cell rfl
      have g2 : W3.cell? ⟨wr.heap.size, 2, none⟩ = some (.string t.dat) := X3.cell rfl
      have g3 : W3.cell? ⟨wr.heap.size, 3, none⟩ = some (.slice sp t.sides.length sc) := X3.cell rfl
      have p0 := keepCell B3 (keepCell2 HB1.out hO e0)
      have p1 := keepCell2 HB1.out hO e1
      have Gl := Gr.len
      have GB : Book W3 p b x y T1 S := Gr.book.below B3
      have HL : Hid _ := leafOf_calls ⟨t.key, t.dat⟩ W3 GB (by omega) (by show t.key.size ≤ _; omega) (by show t.dat.size ≤ _; omega)
      have HST : Hid _ := hst.below B3
      have HGr : Hid _ := Gr.below B3
      have HO3 : Hid _ := hO.trans (Off2.of_below B3)
      have HTN : Hid _ := htn
      have HHG : Hid _ := hHg
      have HS32 : Hid _ := hs32
      have HGB : Hid _ := GB
      clear hst Gr GB htn hHg hs32 hto hft hti hk64 hd96 Z3 X3
      go_wp2_with fail
      refine Calls.mono HL.out ?_
      rintro e w4 A4
      obtain rfl := A4.ret
      have s0 := keepCell (Below.refl _ _).drew (keepCell2 HGB.out A4.off p0)
      have s1 := keepCell (Below.refl _ _).drew (keepCell2 HGB.out A4.off g0)
      have s2 := keepCell (Below.refl _ _).drew (keepCell2 HGB.out A4.off g3)
      have hd4 : Below w4.heap.size w4 w4.drew := (Below.refl _ _).drew
      have nl := note_len T1 (leafT ⟨t.key, t.dat⟩)
      have HB4 : Hid _ := A4.book.below hd4
      have HC : Hid _ := climb_calls t.sides.length t.sides (.slice sp t.sides.length sc) ti cn (dig (note T1 (leafT ⟨t.key, t.dat⟩)) (leafT ⟨t.key, t.dat⟩)) (note T1 (leafT ⟨t.key, t.dat⟩)) w4.drew rfl (by omega) HHG.out hcn4 ((Lf.off2 HST.out HGB.out A4.off).below hd4) HB4.out (by omega) HS32.out (by rw [dig_size]; omega)
      have HE : Hid _ := fun (a : ByteArray) (T5 : List ByteArray) (e : Ending) (w5 w6 : World) (t5 : Climb T5 (dig (note T1 (leafT ⟨t.key, t.dat⟩)) (leafT ⟨t.key, t.dat⟩)) ti cn t.sides a) (G5 : Grew x y p b (note T1 (leafT ⟨t.key, t.dat⟩)) S w4.drew t.sides.length T5 w5) (A6 : Asked x y p b T5 S (rootT cn a) w5 e w6) =>
        (show Led (note T5 (rootT cn a)) cn t (dig (note T5 (rootT cn a)) (rootT cn a)) ∧ Grew x y p b T S w (15 * k + (1 + t.sides.length + 1)) (note T5 (rootT cn a)) w6 ∧ Ext T1 (note T5 (rootT cn a)) ∧ Off2 x y W1 w6 from by
          have e6 := Ext.note T5 (rootT cn a)
          have e5 := (G5.ext.trans e6) _ (mem_noted T1 (leafT ⟨t.key, t.dat⟩))
          refine ⟨⟨e5.1, a, ?_, mem_noted _ _, rfl⟩, ((HGr.out.trans A4.grew).below hd4 |>.trans G5 |>.trans A6.grew).le (by omega), (A4.grew.ext.trans G5.ext).trans e6, ?_⟩
          · rw [e5.2, HTN.out]; exact t5.ext e6
          · exact (((HO3.out.trans A4.off).trans (Off2.of_below hd4)).trans G5.off).trans A6.off)
      have HR : Hid _ := fun (a : ByteArray) (T5 : List ByteArray) (wx : World) (t5 : Climb T5 (dig (note T1 (leafT ⟨t.key, t.dat⟩)) (leafT ⟨t.key, t.dat⟩)) ti cn t.sides a) (hb : Book wx p b x y T5 S) (hl : T5.length ≤ (note T1 (leafT ⟨t.key, t.dat⟩)).length + t.sides.length) => rootOf_calls cn a wx hb (by omega) (by omega) (Nat.le_trans (t5.small (by rw [dig_size]; omega)) (by decide))
      go_wp2_with fail
      clear HL HST HGr HO3 HTN HHG HS32 HGB A4 p0 p1 g0 g1 g2 g3 m0 m1 m2 m3 hW3 e0 e1 hW1 hall HPT HFT HS HB1 HG1 hd d0 d0'
      generalize dig (note T1 (leafT ⟨t.key, t.dat⟩)) (leafT ⟨t.key, t.dat⟩) = D at *
      have HHE : Hid _ := HE
      refine wp_region_held_drew (S := (fun wx => wx.cell? ⟨w.heap.size, 0, none⟩ = some (.int .i64 cn) ∧ wx.cell? ⟨wr.heap.size, 0, none⟩ = some (.int .i64 ti) ∧ wx.cell? ⟨wr.heap.size, 3, none⟩ = some (.slice sp t.sides.length sc))) (by kernel_rfl) ⟨s0, s1, s2⟩ (fun hS => ?_)
      refine wpAnyH_take (i := 0) (v := (.pointer (some ⟨p, 0, none⟩))) rfl (by kernel_rfl) (by kernel_rfl) (by kernel_rfl) (fun _ _ _ h => h) (Or.inl ⟨by rfl, fun w hS => by obtain ⟨s0, s1, s2⟩ := hS; go_simp⟩) hS ?_
      refine wpAnyH_take (i := 1) (v := (.pointer (some ⟨w.heap.size, 0, none⟩))) rfl (by kernel_rfl) (by kernel_rfl) (by kernel_rfl) (fun _ _ _ h => h) (Or.inl ⟨by rfl, fun w hS => by obtain ⟨s0, s1, s2⟩ := hS; go_simp⟩) hS ?_
      refine wpAnyH_take (i := 2) (v := (.int .i64 cn)) rfl (by kernel_rfl) (by kernel_rfl) (by kernel_rfl) (fun _ _ _ h => h) (Or.inl ⟨by rfl, fun w hS => by obtain ⟨s0, s1, s2⟩ := hS; go_simp⟩) hS ?_
      refine wpAnyH_take (i := 3) (v := (.pointer (some ⟨p, 0, none⟩))) rfl (by kernel_rfl) (by kernel_rfl) (by kernel_rfl) (fun _ _ _ h => h) (Or.inl ⟨by rfl, fun w hS => by obtain ⟨s0, s1, s2⟩ := hS; go_simp⟩) hS ?_
      refine wpAnyH_take (i := 4) (v := (.string D)) rfl (by kernel_rfl) (by kernel_rfl) (by kernel_rfl) (fun _ _ _ h => h) (Or.inl ⟨by rfl, fun w hS => by obtain ⟨s0, s1, s2⟩ := hS; go_simp⟩) hS ?_
      refine wpAnyH_take (i := 5) (v := (.pointer (some ⟨wr.heap.size, 0, none⟩))) rfl (by kernel_rfl) (by kernel_rfl) (by kernel_rfl) (fun _ _ _ h => h) (Or.inl ⟨by rfl, fun w hS => by obtain ⟨s0, s1, s2⟩ := hS; go_simp⟩) hS ?_
      refine wpAnyH_take (i := 6) (v := (.int .i64 ti)) rfl (by kernel_rfl) (by kernel_rfl) (by kernel_rfl) (fun _ _ _ h => h) (Or.inl ⟨by rfl, fun w hS => by obtain ⟨s0, s1, s2⟩ := hS; go_simp⟩) hS ?_
      refine wpAnyH_take (i := 7) (v := (.pointer (some ⟨w.heap.size, 0, none⟩))) rfl (by kernel_rfl) (by kernel_rfl) (by kernel_rfl) (fun _ _ _ h => h) (Or.inl ⟨by rfl, fun w hS => by obtain ⟨s0, s1, s2⟩ := hS; go_simp⟩) hS ?_
      refine wpAnyH_take (i := 8) (v := (.int .i64 cn)) rfl (by kernel_rfl) (by kernel_rfl) (by kernel_rfl) (fun _ _ _ h => h) (Or.inl ⟨by rfl, fun w hS => by obtain ⟨s0, s1, s2⟩ := hS; go_simp⟩) hS ?_
      refine wpAnyH_take (i := 9) (v := (.pointer (some ⟨wr.heap.size, 3, none⟩))) rfl (by kernel_rfl) (by kernel_rfl) (by kernel_rfl) (fun _ _ _ h => h) (Or.inl ⟨by rfl, fun w hS => by obtain ⟨s0, s1, s2⟩ := hS; go_simp⟩) hS ?_
      refine wpAnyH_take (i := 10) (v := (.slice sp t.sides.length sc)) rfl (by kernel_rfl) (by kernel_rfl) (by kernel_rfl) (fun _ _ _ h => h) (Or.inl ⟨by rfl, fun w hS => by obtain ⟨s0, s1, s2⟩ := hS; go_simp⟩) hS ?_
      refine wpAnyH_take (i := 13) (v := (.string rt)) rfl (by kernel_rfl) (by kernel_rfl) (by kernel_rfl) (fun _ _ _ h => h) (Or.inl ⟨by rfl, fun w hS => by obtain ⟨s0, s1, s2⟩ := hS; go_simp⟩) hS ?_
      refine wpAnyH_ready (rs := [11]) (by kernel_rfl) (by simp) ?_
      refine AllReadyH.cons rfl (fun K hK => ?_) AllReadyH.nil
      go_simp
      refine Calls.mono HC.out ?_
      rintro e w5 ⟨a, T5, rfl, t5, G5⟩
      refine hK.out _ _ ⟨keepCell2 HB4.out G5.off hS.1, keepCell2 HB4.out G5.off hS.2.1, keepCell2 HB4.out G5.off hS.2.2⟩ (fun hS => ?_)
      clear hK
      refine wpAnyH_ready (rs := [12]) (by kernel_rfl) (by simp) ?_
      refine AllReadyH.cons rfl (fun K hK => ?_) AllReadyH.nil
      go_simp
      refine (HR.out a T5 _ t5 G5.book G5.len).mono ?_
      rintro e w6 A6
      obtain rfl := A6.ret
      obtain ⟨hLed, G6, x6, o6⟩ := HHE.out a T5 _ _ _ t5 G5 A6
      refine hK.out _ _ ⟨keepCell2 G5.book A6.off hS.1, keepCell2 G5.book A6.off hS.2.1, keepCell2 G5.book A6.off hS.2.2⟩ (fun hS => ?_)
      clear hK
      generalize dig (note T5 (rootT cn a)) (rootT cn a) = R at *
      clear A6 G5 t5
      by_cases hRt : R = rt
      · subst hRt
        refine wpAnyH_ready (rs := [14]) (by kernel_rfl) (by simp) ?_
        refine AllReadyH.cons rfl (fun K hK => ?_) AllReadyH.nil
        go_simp
        refine hK.out _ _ hS (fun hS => ?_)
        clear hK
        refine wpAnyH_done (by kernel_rfl) ?_ _
        go_wp2
        refine ⟨⟨k + 1, _, by omega, by norm_cast, HN.out _ x6 hLed, G6.le (by omega), o6⟩, ?_⟩
        simp [intOf]; omega
      · have dn : (R.toList == rt.toList) = false := by rw [strEq]; exact decide_eq_false hRt
        have dn2 : decide (R = rt) = false := decide_eq_false hRt
        refine wpAnyH_ready (rs := [14]) (by kernel_rfl) (by simp) ?_
        refine AllReadyH.cons rfl (fun K hK => ?_) AllReadyH.nil
        go_simp
        refine hK.out _ _ hS (fun hS => ?_)
        clear hK
        refine wpAnyH_done (by kernel_rfl) ?_ _
        go_wp2
        go_ret
        exact ⟨false, _, rfl, by simp, fun _ => Or.inr ⟨t, HM.out, R, (by rw [HCN.out]; exact hLed), fun e => hRt e.symm⟩, G6.le (by omega)⟩
    · have hd : decide ((k : Int) < (q.paths.length : Int)) = false := by simp only [decide_eq_false_iff_not]; omega
      obtain rfl : k = q.paths.length := by omega
      go_wp2
      go_ret
      refine ⟨true, T1, rfl, fun _ => ⟨fun e => by rw [e] at h0; simp at h0, ?_⟩, by simp, Gr.le (by omega)⟩
      have := hall.out
      rw [List.take_length] at this
      rw [HCN.out]
      exact this
theorem leads_calls (q : Pf) (lv : Value) (rt : ByteArray) (w : World) (hs : PtsC w lv q.paths) (hq : pfFits q = true) (h : Book w p b x y T S) (hT : T.length < 900000) :
    Calls Tryz.prog 62 #[.pointer (some ⟨p, 0, none⟩), .string rt, q.val lv] w (LeadsP x y p b T S w q rt) := by
  by_cases h0 : q.paths.length = 0
  · exact leads_none q lv rt w hs (List.length_eq_zero_iff.1 h0) h hT
  · exact leads_some q lv rt w hs (by omega) hq h hT
end Go.Proofs.YtpcafjbebhcilaaGreat
