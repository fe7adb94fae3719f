/- The library's DeleteFunc at a row of orders of one's own. -/
import Derived.Test.YtpekfpfhonechaaGreatWa22
namespace Go.Proofs.YtpekfpfhonechaaGreat.Cal
open Go.Shelf Go.RowKit Go.Lib Go.Sort
set_option linter.unusedSimpArgs false
set_option linter.unusedVariables false

/-- One element of a row written over. -/
theorem own_elem {w : World} {base g cap n : Nat} {t : TypeId} {X : List Od} (h : w.ownsRow base t 6 (.slice (some ⟨g, 0, none⟩) n cap) n (odL X)) (hX : X.length = n) (a : Nat) (o : Od) (ha : a < n) :
    ∃ W, (∀ P : Program, Sem.run P (storeCells ⟨g, a * 6, none⟩ (oC o) 0) w = .ok () W) ∧ W.ownsRow base t 6 (.slice (some ⟨g, 0, none⟩) n cap) n (odL (X.set a o)) ∧ Off g w W ∧ W.heap.size = w.heap.size := by
  rcases h.2 with ⟨h1, _⟩ | ⟨g', cap', cur, h1, hb, hB, hnc, hcm, hcs, ht⟩
  · cases h1
  · injection h1 with h1 h2 h3
    injection h1 with h1
    injection h1 with h1
    subst h1 h3
    have hB' : w.heap[g]? = some (.cells cur t (0, 0)) := hB
    have hle : n * 6 ≤ cap * 6 := Nat.mul_le_mul_right _ hnc
    refine ⟨w.setRow g (cur.toList.take (a * 6) ++ oC o ++ cur.toList.drop (a * 6 + 6)).toArray, fun P => ?_, ?_, (Off.refl _ _).setRow _, by simp⟩
    · have := run_storeCells_at (P := P) g (a * 6) t (oC o) 0 cur w hB' (by rw [oC_len]; omega) (oC_one o)
      rw [Nat.add_zero, oC_len] at this
      exact this
    · refine ⟨by rw [odL_len, List.length_set, hX], Or.inr ⟨g, cap, _, rfl, hb, setRow_heap w g cur _ t (0, 0) hB', hnc, hcm, ?_, ?_⟩⟩
      · simp only [List.size_toArray, List.length_append, List.length_take, List.length_drop, Array.length_toList, oC_len]
        omega
      · have e1 : X = X.take a ++ X.drop a := (List.take_append_drop a X).symm
        obtain ⟨A, y, C, hA, hAl⟩ := cut_at (l := X) (k := a) (by omega)
        have hset : X.set a o = A ++ o :: C := by rw [hA, ← hAl, List.set_append_right _ _ (Nat.le_refl _), Nat.sub_self, List.set_cons_zero]
        have hcur : cur.toList.take (n * 6) = odL A ++ oC y ++ odL C := by rw [ht, hA, odL_app, odL_cons, List.append_assoc]
        have hn : n = A.length + 1 + C.length := by rw [← hX, hA]; simp; omega
        rw [hset, odL_app, odL_cons]
        have t1 : cur.toList.take (a * 6) = odL A := by
          have : (cur.toList.take (n * 6)).take (a * 6) = odL A := by
            rw [hcur, List.append_assoc, List.take_left' (by rw [odL_len, hAl])]
          rwa [List.take_take, Nat.min_eq_left (by omega)] at this
        have t2 : (cur.toList.drop (a * 6 + 6)).take (C.length * 6) = odL C := by
          have : (cur.toList.take (n * 6)).drop (a * 6 + 6) = odL C := by
            rw [hcur, List.drop_left' (by rw [List.length_append, odL_len, oC_len, hAl])]
          rw [List.drop_take] at this
          rw [← this]
          congr 1
          omega
        show List.take (n * 6) (cur.toList.take (a * 6) ++ oC o ++ cur.toList.drop (a * 6 + 6)) = _
        rw [t1, List.take_append, List.take_of_length_le (by rw [List.length_append, odL_len, oC_len, hAl]; omega), List.length_append, odL_len, oC_len, hAl]
        rw [show n * 6 - (a * 6 + 6) = C.length * 6 by omega, t2]
        simp
set_option maxRecDepth 100000 in
/-- The rest of a row cleared: what is ahead stays. -/
theorem own_clear {w : World} {base g cap n : Nat} {X : List Od} (h : w.ownsRow base 51 6 (.slice (some ⟨g, 0, none⟩) n cap) n (odL X)) (hX : X.length = n) (a : Nat) (ha : a < n) (ty : TypeId) :
    ∃ W, (∀ c', (Builtin.clear_ #[48] ty #[.slice (some ⟨g, a * 6, none⟩) (n - a) c']).run Tryz.prog w = .ok (.tuple #[]) W) ∧ W.ownsRow base 51 6 (.slice (some ⟨g, 0, none⟩) a cap) a (odL (X.take a)) ∧ Off g w W := by
  obtain ⟨i0, hi, hz0, hz1, hz2⟩ := info_parts infoO
  rcases h.2 with ⟨h1, _⟩ | ⟨g', cap', cur, h1, hb, hB, hnc, hcm, hcs, ht⟩
  · cases h1
  · injection h1 with h1 h2 h3
    injection h1 with h1
    injection h1 with h1
    subst h1 h3
    have hB' : w.heap[g]? = some (.cells cur 51 (0, 0)) := hB
    have hle : n * 6 ≤ cap * 6 := Nat.mul_le_mul_right _ hnc
    obtain ⟨zs, hzs⟩ : ∃ zs, (Builtin.zeroCells #[.int .i64 0, .int .i64 0, .int .i64 0, .int .i64 0, .int .i64 0, .bool false] (n - a)).toList = zs := ⟨_, rfl⟩
    have hzl : zs.length = (n - a) * 6 := by rw [← hzs]; simp [Builtin.zeroCells]
    have hz1' : ∀ u ∈ zs, u.oneCell' = true := by
      intro u hu
      rw [← hzs] at hu
      simp only [Builtin.zeroCells, Array.toList_map, List.mem_map] at hu
      obtain ⟨q, _, rfl⟩ := hu
      have : q % 6 < 6 := Nat.mod_lt _ (by decide)
      have h6 : (#[Value.int .i64 0, .int .i64 0, .int .i64 0, .int .i64 0, .int .i64 0, .bool false] : Array Value).size = 6 := rfl
      rw [h6]
      generalize q % 6 = z at *
      match z, this with
      | 0, _ => rfl
      | 1, _ => rfl
      | 2, _ => rfl
      | 3, _ => rfl
      | 4, _ => rfl
      | 5, _ => rfl
    refine ⟨w.setRow g (cur.toList.take (a * 6) ++ zs ++ cur.toList.drop (a * 6 + zs.length)).toArray, fun c' => ?_, ?_, (Off.refl _ _).setRow _⟩
    · have hst := run_storeCells_at (P := Tryz.prog) g (a * 6) 51 zs 0 cur w hB' (by rw [hzl, hcs]; omega) hz1'
      rw [Nat.add_zero] at hst
      obtain ⟨m, hm⟩ : ∃ m, n - a = m + 1 := ⟨n - a - 1, by omega⟩
      have hv : ∀ w, (zeroValue 51).run Tryz.prog w = .ok (.agg #[.int .i64 0, .int .i64 0, .int .i64 0, .int .i64 0, .int .i64 0, .bool false]) w := by intro w; kernel_rfl
      rw [hm] at hzs ⊢
      simp [Builtin.clear_, run_underlying Tryz.underlying48, hv, Value.cells, hzs, hst]
    · refine ⟨by rw [odL_len, List.length_take]; congr 1; omega, Or.inr ⟨g, cap, _, rfl, hb, setRow_heap w g cur _ _ (0, 0) hB', by omega, hcm, ?_, ?_⟩⟩
      · simp only [List.size_toArray, List.length_append, List.length_take, List.length_drop, Array.length_toList, hzl]
        omega
      · show List.take (a * 6) (cur.toList.take (a * 6) ++ zs ++ _) = _
        have t1 : cur.toList.take (a * 6) = odL (X.take a) := by
          have : (cur.toList.take (n * 6)).take (a * 6) = odL (X.take a) := by
            rw [ht]
            conv => lhs; rw [← List.take_append_drop a X, odL_app]
            rw [List.take_left' (by rw [odL_len, List.length_take]; congr 1; omega)]
          rwa [List.take_take, Nat.min_eq_left (by omega)] at this
        rw [t1, List.append_assoc, List.take_left' (by rw [odL_len, List.length_take]; congr 1; omega)]
end Go.Proofs.YtpekfpfhonechaaGreat.Cal

namespace Go.Proofs.YtpekfpfhonechaaGreat.Cal
open Go.Shelf Go.RowKit Go.Lib Go.Sort
set_option linter.unusedSimpArgs false
set_option linter.unusedVariables false

theorem take_findIdx (f : Od → Bool) (l : List Od) : (l.take (l.findIdx f)).filter (fun o => !f o) = l.take (l.findIdx f) := by
  rw [List.filter_eq_self]
  intro o ho
  obtain ⟨i, hi, he⟩ := List.mem_take_iff_getElem.1 ho
  have := List.not_of_lt_findIdx (xs := l) (p := f) (i := i) (by omega)
  rw [← he]
  simpa using this
theorem filter_all (f : Od → Bool) (l : List Od) (h : ¬ l.findIdx f < l.length) : l.filter (fun o => !f o) = l := by
  rw [List.filter_eq_self]
  intro o ho
  cases hf : f o
  · rfl
  · exact absurd (List.findIdx_lt_length_of_exists ⟨o, ho, hf⟩) h
theorem run_ldO (P : Program) {w : World} {g o : Nat} {cs : List Value} {k : Nat} (hk : cs.length = k) (h : ∀ j u, cs[j]? = some u → w.cell? ⟨g, o + j, none⟩ = some u) :
    Sem.run P (loadCellsFrom ⟨g, o, none⟩ 0 k #[]) w = .ok cs.toArray w :=
  run_loadCellsFrom_list P _ _ cs k hk (fun i u hi => by rw [Addr.add_lit]; exact h i u hi)

set_option maxHeartbeats 8000000 in
set_option maxRecDepth 100000 in
theorem delFunc_calls (f : Od → Bool) (gf : Nat) (cb : Array Value) (base : Nat) (v : Value) (l : List Od) (w : World) (eg : ∀ args w, (callFunc gf args).run Tryz.prog w = .ok (.enter gf args) w)
    (hv : w.ownsRow base 51 6 v l.length (odL l)) (hn : l.length ≤ 1000000) (hB : base ≤ w.heap.size)
    (hf : ∀ o wx, Calls Tryz.prog gf (#[.agg (oC o).toArray] ++ cb) wx fun e w' => e = .returned (.bool (f o)) ∧ Below wx.heap.size wx w') :
    Calls Tryz.prog 118 #[v, .func (.func gf) #[] cb] w fun e w' => ∃ v', e = .returned v' ∧ w'.ownsRow base 51 6 v' (l.filter (fun o => !f o)).length (odL (l.filter (fun o => !f o))) ∧ v'.ownBlock = v.ownBlock ∧ (v.ownBlock = none → Below w.heap.size w w') ∧ (∀ r, v.ownBlock = some r → Off r w w') := by
  have HI : Hid _ := indexFunc_calls f gf cb v l w eg (ods_own hv) hn (fun o wx _ => hf o wx)
  by_cases hfi : l.findIdx f < l.length
  · have hix : ixf f l = (l.findIdx f : Int) := by unfold ixf; rw [if_pos hfi]
    rw [hix] at HI
    rcases hv.2 with ⟨_, h0⟩ | ⟨g, cap, cur, rfl, hgb, hBl, hnc, hcm, hcs, ht⟩
    · exfalso; omega
    have HV : Hid _ := hv
    have HF : Hid _ := hf
    have hgw : g < w.heap.size := (Array.getElem?_eq_some_iff.1 hBl).1
    have hcap : cap ≤ maxLen := hcm
    unfold maxLen at hcap
    obtain ⟨fi, hfie⟩ : ∃ fi, l.findIdx f = fi := ⟨_, rfl⟩
    have HD0 : Hid ((l.take (fi + 1)).filter (fun o => !f o) = l.take fi) := by
      show _ = _
      rw [← hfie, List.take_succ_eq_append_getElem hfi, List.filter_append, take_findIdx]
      have := List.findIdx_getElem (xs := l) (p := f) (w := hfi)
      simp [this]
    rw [hfie] at HI hfi
    have hfiz : ((fi : Int) == -1) = false := by rw [beq_eq_false_iff_ne]; omega
    have hfiz2 : ¬ (fi : Int) = -1 := by omega
    obtain ⟨k, hk⟩ : ∃ k, k = 6 := ⟨_, rfl⟩
    have aE := aggO
    have zE : ∀ w, (Go.sizeOf 51).run Tryz.prog w = .ok k w := by intro w; rw [hk]; exact sizO w
    have HK : Hid _ := hk
    have hkpos : 0 < k := by omega
    clear hv hf hix hfie hBl hcs ht hcm hk
    go_enter Tryz.func118, Tryz.ntmps118
    go_wp2_with fail
    refine Calls.mono HI.out ?_
    rintro e w1 ⟨rfl, b1⟩
    have HV1 : Hid _ := ownB HV.out b1
    go_wp2
    go_loopw [5, 6] (fun vi vj wr => ∃ (a j : Nat) (X : List Od), vi = .int .i64 a ∧ vj = .int .i64 j ∧ a < j ∧ j ≤ l.length ∧ Hid (X.length = l.length ∧ X.take a = (l.take j).filter (fun o => !f o) ∧ X.drop j = l.drop j ∧ wr.ownsRow base 51 6 (.slice (some ⟨g, 0, none⟩) l.length cap) l.length (odL X)) ∧ Off g w wr) (fun _ vj _ => l.length - (intOf vj).toNat)
    case atStart => exact ⟨fi, fi + 1, l, rfl, by go_num, by omega, by omega, ⟨rfl, HD0.out.symm, rfl, HV1.out⟩, Off.of_below b1⟩
    case round =>
      obtain ⟨a, j, X, rfl, rfl, haj, hjl, HX, ofr⟩ := hrel
      have hzr := ofr.size
      by_cases hlt : j < l.length
      · have hltz : (j : Int) < (l.length : Int) := by omega
        obtain ⟨o, ho⟩ : ∃ o, l[j]? = some o := ⟨l[j], by simp [hlt]⟩
        have hXo : X[j]? = some o := by
          have h1 := congrArg (fun q => q[0]?) HX.out.2.2.1
          simp only [List.getElem?_drop, Nat.add_zero] at h1
          rw [h1]; exact ho
        have l1 : Sem.run Tryz.prog (loadCellsFrom ⟨g, j * k, none⟩ 0 k #[]) wr = .ok (oC o).toArray wr := by
          have hc := HX.out.2.2.2.cells (g := g) rfl
          have h6 := HK.out
          refine run_ldO _ (by rw [oC_len, h6]) (fun q u hu => ?_)
          have := hc (j * 6 + q) u (odL_get X j q o u hXo hu)
          rw [Addr.add_lit, Nat.zero_add] at this
          rw [h6]; exact this
        obtain ⟨W1, s1, XM, B1, Z1⟩ : ∃ W1, Sem.run Tryz.prog (storeCells ⟨wr.heap.size, 0, none⟩ (oC o) 0) (wr.alloc (.cells #[.int .i64 0, .int .i64 0, .int .i64 0, .int .i64 0, .int .i64 0, .bool false] 51)) = .ok () W1 ∧ Blk W1 wr.heap.size (oC o).toArray 51 ∧ Below wr.heap.size wr W1 ∧ wr.heap.size < W1.heap.size := by
          have hx := blk_new wr wr.heap.size #[.int .i64 0, .int .i64 0, .int .i64 0, .int .i64 0, .int .i64 0, .bool false] 51 rfl
          have := run_storeCells_at (P := Tryz.prog) wr.heap.size 0 51 (oC o) 0 _ _ hx (by rw [oC_len]; simp) (oC_one o)
          rw [oC_len] at this
          refine ⟨_, this, ?_, ?_, ?_⟩
          · exact hx.setRow (oC o).toArray
          · exact below_setRow ((Below.refl _ _).alloc (Nat.le_refl _) _) _ _ (Nat.le_refl _)
          · simp
        have l2 : ∀ wx, Below W1.heap.size W1 wx → Sem.run Tryz.prog (loadCellsFrom ⟨wr.heap.size, 0, none⟩ 0 k #[]) wx = .ok (oC o).toArray wx := fun wx hx =>
          run_ldO _ (by rw [oC_len, HK.out]) (fun q u hu => by rw [Nat.zero_add]; exact (XM.below hx).cell (by simpa using hu))
        have l3 := l2 W1 (Below.refl _ _)
        have HL2 : Hid _ := l2
        have nO : (oC o).length = k := by rw [oC_len, HK.out]
        have HC : Hid _ := HF.out o W1
        have HT : Hid _ := take_odd ho
        have HO : Hid _ := ho
        have HX1 : Hid _ := ownB HX.out.2.2.2 B1
        have hjj : (j : Int) < 9223372036854775807 := by omega
        obtain ⟨cO, hcO⟩ : ∃ cO, oC o = cO := ⟨_, rfl⟩
        have HCO : Hid _ := hcO
        rw [hcO] at l1 s1 l3 nO HC
        clear l2 hXo ho hcO
        cases hfo : f o
        · rw [hfo] at HC
          go_wp2_with fail
          go_at_fn gf
          refine Calls.mono HC.out ?_
          rintro e w2 ⟨rfl, b2⟩
          have l4 := HL2.out w2 b2
          rw [HCO.out] at l4
          obtain ⟨W3, s3, own3, of3, z3⟩ := own_elem (ownB HX1.out b2) HX.out.1 a o (by omega)
          have s4 := s3 Tryz.prog
          rw [HCO.out, ← HK.out] at s4
          have HO3 : Hid _ := own3
          clear s1 l1 l3 s3 own3
          go_wp2
          refine ⟨⟨a + 1, j + 1, X.set a o, by go_num, by go_num, by omega, by omega, ⟨?_, ?_, ?_, HO3.out⟩, ?_⟩, by simp [intOf]; omega⟩
          · rw [List.length_set]; exact HX.out.1
          · have hal : a < X.length := by rw [HX.out.1]; omega
            rw [HT.out, List.filter_append, ← HX.out.2.1]
            simp only [List.filter_cons, hfo, Bool.not_false, if_true, List.filter_nil]
            rw [List.take_succ_eq_append_getElem (by rw [List.length_set]; exact hal), List.getElem_set_self, List.take_set_of_le (Nat.le_refl _)]
          · rw [List.drop_set_of_lt (by omega)]
            have := congrArg (List.drop 1) HX.out.2.2.1
            simpa [List.drop_drop] using this
          · exact (ofr.trans (Off.of_below B1)).trans ((Off.of_below b2).trans of3)
        · rw [hfo] at HC
          go_wp2_with fail
          go_at_fn gf
          refine Calls.mono HC.out ?_
          rintro e w2 ⟨rfl, b2⟩
          clear s1 l1 l3
          go_wp2
          refine ⟨⟨a, j + 1, X, rfl, by go_num, by omega, by omega, ⟨HX.out.1, ?_, ?_, ownB HX1.out b2⟩, ?_⟩, by simp [intOf]; omega⟩
          · rw [HT.out, List.filter_append, ← HX.out.2.1]
            simp [hfo]
          · have := congrArg (List.drop 1) HX.out.2.2.1
            simpa [List.drop_drop] using this
          · exact (ofr.trans (Off.of_below B1)).trans (Off.of_below b2)
      · have hltz : ¬ (j : Int) < (l.length : Int) := by omega
        have hal : a < l.length := by omega
        obtain ⟨W4, hcl, own4, of4⟩ := own_clear HX.out.2.2.2 HX.out.1 a hal 0
        have hcl2 : ∀ c', (Builtin.clear_ #[48] 0 #[.slice (some ⟨g, a * k, none⟩) (l.length - a) c']).run Tryz.prog wr = .ok (.tuple #[]) W4 := by
          intro c'; rw [HK.out]; exact hcl c'
        have HO4 : Hid _ := own4
        have HL : Hid (X.take a = l.filter (fun o => !f o)) := by
          show _ = _
          rw [HX.out.2.1, List.take_of_length_le (by omega)]
        have a1 : (a : Int) ≤ (l.length : Int) := by omega
        have a2 : (a : Int) ≤ (cap : Int) := by omega
        clear hcl own4
        go_wp2
        go_ret
        refine ⟨.slice (some ⟨g, 0, none⟩) a cap, rfl, ?_, rfl, (fun h => by cases h), fun r hr => ?_⟩
        · have hl : (l.filter (fun o => !f o)).length = a := by rw [← HL.out, List.length_take, HX.out.1]; omega
          rw [hl, ← HL.out]
          exact HO4.out
        · simp only [Value.ownBlock, Option.some.injEq] at hr
          rw [← hr]
          exact ofr.trans of4
  · have hix : ixf f l = -1 := by unfold ixf; rw [if_neg hfi]
    rw [hix] at HI
    rw [filter_all f l hfi]
    have HV : Hid _ := hv
    obtain ⟨oc, ocap, rfl⟩ := own_form hv
    clear hv hix hfi
    go_enter Tryz.func118, Tryz.ntmps118
    go_wp2_with fail
    refine Calls.mono HI.out ?_
    rintro e w1 ⟨rfl, b1⟩
    go_wp2
    go_ret
    exact ⟨_, rfl, ownB HV.out b1, rfl, fun _ => b1, fun r _ => Off.of_below b1⟩
end Go.Proofs.YtpekfpfhonechaaGreat.Cal

namespace Go.Proofs.YtpekfpfhonechaaGreat.Cal
open Go.Sort
set_option linter.unusedSimpArgs false
set_option linter.unusedVariables false

theorem insS_perm {α : Type} {lt : α → α → Bool} (x : α) : ∀ s : List α, (insS lt x s).Perm (x :: s)
  | [] => List.Perm.refl _
  | y :: t => by
    rw [insS]
    split
    · exact List.Perm.refl _
    · exact ((insS_perm x t).cons y).trans (List.Perm.swap x y t)
theorem stab_perm {α : Type} {lt : α → α → Bool} (l : List α) : (stab lt l).Perm l := by
  have key : ∀ (l s : List α), (l.foldl (fun acc x => insS lt x acc) s).Perm (s ++ l) := by
    intro l
    induction l with
    | nil => intro s; simp
    | cons x l ih =>
      intro s
      rw [List.foldl_cons]
      refine (ih _).trans ?_
      have h1 : ((insS lt x s) ++ l).Perm ((x :: s) ++ l) := (insS_perm x s).append_right l
      refine h1.trans ?_
      exact (List.perm_middle (l₁ := s) (l₂ := l) (a := x)).symm
  simpa [stab] using key l []
/-- What a client was filled of an Id. -/
def got : List Fi → Int → Int
  | [], _ => 0
  | f :: l, x => (if f.1 = x then f.2.2 else 0) + got l x
theorem got_app (a b : List Fi) (x : Int) : got (a ++ b) x = got a x + got b x := by
  induction a with
  | nil => simp [got]
  | cons f a ih => simp only [List.cons_append, got, ih]; omega
def lessAt (l : List Od) (f : Fi) : List Od := l.map fun o => if o.id = f.1 then o.setAm (o.am - f.2.2) else o
theorem setAm_self (o : Od) : o.setAm o.am = o := rfl
theorem less_fold (fs : List Fi) : ∀ os : List Od, fs.foldl lessAt os = os.map fun o => o.setAm (o.am - got fs o.id) := by
  induction fs with
  | nil => intro os; simp [got, setAm_self]
  | cons f fs ih =>
    intro os
    rw [List.foldl_cons, ih, lessAt, List.map_map]
    apply List.map_congr_left
    intro o _
    simp only [Function.comp, got]
    by_cases h : o.id = f.1
    · rw [if_pos h, if_pos h.symm]
      show (o.setAm (o.am - f.2.2)).setAm (o.am - f.2.2 - got fs o.id) = _
      show o.setAm (o.am - f.2.2 - got fs o.id) = _
      congr 1; omega
    · rw [if_neg h, if_neg (fun e => h e.symm)]
      congr 1; omega
theorem fll_mem : ∀ (s : List Od) (n : Int) (f : Fi), f ∈ fll s n → ∃ o ∈ s, f.1 = o.id ∧ f.2.1 = o.own ∧ 0 < f.2.2 ∧ f.2.2 ≤ o.am
  | [], n, f, h => by simp [fll] at h
  | o :: s, n, f, h => by
    rw [fll] at h
    split at h
    · cases h
    · rename_i hm
      rcases List.mem_cons.1 h with e | e
      · subst e
        exact ⟨o, List.mem_cons_self .., rfl, rfl, by show 0 < min o.am n; omega, by show min o.am n ≤ o.am; omega⟩
      · obtain ⟨q, hq, k⟩ := fll_mem s _ f e
        exact ⟨q, List.mem_cons_of_mem _ hq, k⟩
theorem fll_ids : ∀ (s : List Od) (n : Int), ((fll s n).map fun f => f.1).Sublist (s.map Od.id)
  | [], n => by simp [fll]
  | o :: s, n => by
    rw [fll]
    split
    · simp
    · simp only [List.map_cons]
      exact (fll_ids s _).cons_cons _
variable {B : Bo}
theorem jdg_book (h : BInv B) : jdg B.os = B.os := by
  unfold jdg
  rw [if_neg (by have := h.len; omega), List.filter_eq_self]
  exact h.may
theorem BInv.nodup (h : BInv B) : (B.os.map Od.id).Nodup := by
  unfold List.Nodup
  rw [List.pairwise_map]
  exact h.ids
theorem BInv.same (h : BInv B) {a b : Od} (ha : a ∈ B.os) (hb : b ∈ B.os) (e : a.id = b.id) : a = b := by
  have key : ∀ l : List Od, l.Pairwise (fun a b => a.id ≠ b.id) → a ∈ l → b ∈ l → a = b := by
    intro l
    induction l with
    | nil => intro _ h; cases h
    | cons x l ih =>
      intro hp h1 h2
      rw [List.pairwise_cons] at hp
      rcases List.mem_cons.1 h1 with e1 | e1 <;> rcases List.mem_cons.1 h2 with e2 | e2
      · rw [e1, e2]
      · exact absurd (by rw [← e1]; exact e) (hp.1 b e2)
      · exact absurd (by rw [← e2]; exact e.symm) (hp.1 a e1)
      · exact ih hp.2 e1 e2
  exact key B.os h.ids ha hb
/-- The fills of a book. -/
theorem fills_mem (h : BInv B) {p n : Int} {f : Fi} (hf : f ∈ fills B.os p n) : ∃ o ∈ B.os, f.1 = o.id ∧ f.2.1 = o.own ∧ 0 < f.2.2 ∧ f.2.2 ≤ o.am := by
  unfold fills at hf
  rw [jdg_book h] at hf
  rcases List.mem_append.1 hf with e | e
  · obtain ⟨o, ho, k⟩ := fll_mem _ _ _ e
    exact ⟨o, (List.mem_filter.1 ((stab_perm _).mem_iff.1 ho)).1, k⟩
  · obtain ⟨o, ho, k⟩ := fll_mem _ _ _ e
    exact ⟨o, (List.mem_filter.1 ((stab_perm _).mem_iff.1 ho)).1, k⟩
theorem stab_ids (h : BInv B) (f : Od → Bool) (lt : Od → Od → Bool) (n : Int) : ((fll (stab lt (B.os.filter f)) n).map fun f => f.1).Nodup := by
  have h1 : ((B.os.filter f).map Od.id).Nodup := h.nodup.sublist (List.filter_sublist.map _)
  have h2 : ((stab lt (B.os.filter f)).map Od.id).Nodup := ((stab_perm (lt := lt) (B.os.filter f)).map Od.id).nodup_iff.2 h1
  exact h2.sublist (fll_ids _ _)
theorem fills_nodup (h : BInv B) (p n : Int) : ((fills B.os p n).map fun f => f.1).Nodup := by
  unfold fills
  rw [jdg_book h, List.map_append, List.nodup_append]
  refine ⟨stab_ids h _ _ _, stab_ids h _ _ _, ?_⟩
  intro x hx y hy e
  obtain ⟨f, hf, rfl⟩ := List.mem_map.1 hx
  obtain ⟨f', hf', rfl⟩ := List.mem_map.1 hy
  obtain ⟨o, ho, k, _⟩ := fll_mem _ _ _ hf
  obtain ⟨o', ho', k', _⟩ := fll_mem _ _ _ hf'
  have m := List.mem_filter.1 ((stab_perm _).mem_iff.1 ho)
  have m' := List.mem_filter.1 ((stab_perm _).mem_iff.1 ho')
  have := h.same m.1 m'.1 (by rw [← k, ← k']; exact e)
  subst this
  have a1 := m.2
  have a2 := m'.2
  unfold bAt at a1
  unfold sAt at a2
  simp only [Bool.and_eq_true, Bool.not_eq_true'] at a1 a2
  rw [a1.1] at a2
  cases a2.1
theorem got_none : ∀ (l : List Fi) (x : Int), (∀ f ∈ l, f.1 ≠ x) → got l x = 0
  | [], _, _ => rfl
  | f :: l, x, h => by
    rw [got, if_neg (h f (List.mem_cons_self ..)), got_none l x (fun g hg => h g (List.mem_cons_of_mem _ hg))]
    rfl
theorem got_one : ∀ (l : List Fi) (f : Fi), (l.map fun f => f.1).Nodup → f ∈ l → got l f.1 = f.2.2
  | g :: l, f, hn, hf => by
    rw [List.map_cons, List.nodup_cons] at hn
    rcases List.mem_cons.1 hf with e | e
    · subst e
      rw [got, if_pos rfl, got_none l f.1 (fun g hg e => hn.1 (List.mem_map.2 ⟨g, hg, e⟩))]
      omega
    · rw [got, if_neg (fun k => hn.1 (by rw [k]; exact List.mem_map.2 ⟨f, e, rfl⟩)), got_one l f hn.2 e]
      omega
/-- An order is filled by no more than it has. -/
theorem got_bd (h : BInv B) (p n : Int) {o : Od} (ho : o ∈ B.os) : 0 ≤ got (fills B.os p n) o.id ∧ got (fills B.os p n) o.id ≤ o.am := by
  have ham := may_am (h.may o ho)
  by_cases hx : ∃ f ∈ fills B.os p n, f.1 = o.id
  · obtain ⟨f, hf, e⟩ := hx
    have h1 := got_one _ f (fills_nodup h p n) hf
    obtain ⟨q, hq, k1, k2, k3, k4⟩ := fills_mem h hf
    have := h.same hq ho (by rw [← k1]; exact e)
    subst this
    rw [← e, h1]
    omega
  · rw [got_none _ _ (fun f hf e => hx ⟨f, hf, e⟩)]
    omega
theorem got_pos : ∀ (l : List Fi), (∀ f ∈ l, 0 < f.2.2) → ∀ x, 0 ≤ got l x
  | [], _, x => by simp [got]
  | f :: l, h, x => by
    have h1 := h f (List.mem_cons_self ..)
    have h2 := got_pos l (fun g hg => h g (List.mem_cons_of_mem _ hg)) x
    rw [got]
    split <;> omega
theorem got_take (h : BInv B) (p n : Int) (k : Nat) {o : Od} (ho : o ∈ B.os) : 0 ≤ got ((fills B.os p n).take k) o.id ∧ got ((fills B.os p n).take k) o.id ≤ o.am := by
  have hp : ∀ f ∈ fills B.os p n, 0 < f.2.2 := fun f hf => by obtain ⟨_, _, _, _, k, _⟩ := fills_mem h hf; exact k
  have h1 := got_bd h p n ho
  have h2 := got_app ((fills B.os p n).take k) ((fills B.os p n).drop k) o.id
  rw [List.take_append_drop] at h2
  have h3 := got_pos ((fills B.os p n).drop k) (fun f hf => hp f (List.mem_of_mem_drop hf)) o.id
  have h4 := got_pos ((fills B.os p n).take k) (fun f hf => hp f (List.mem_of_mem_take hf)) o.id
  omega
/-- The book behind a clearing. -/
def Bo.fl (B : Bo) : List Fi := fills B.os (crs B.os).1 (crs B.os).2
def Bo.clr (B : Bo) : Bo := ⟨B.nx, (B.fl.foldl lessAt B.os).filter fun o => !(o.am == 0)⟩
theorem clr_os (B : Bo) : B.clr.os = (B.os.map fun o => o.setAm (o.am - got B.fl o.id)).filter fun o => !(o.am == 0) := by
  unfold Bo.clr
  rw [less_fold]
theorem BInv.clr (h : BInv B) : BInv B.clr := by
  have hs : B.clr.os.Sublist (B.os.map fun o => o.setAm (o.am - got B.fl o.id)) := by rw [clr_os]; exact List.filter_sublist
  have hm : ∀ o ∈ B.clr.os, ∃ q ∈ B.os, o = q.setAm (q.am - got B.fl q.id) ∧ o.am ≠ 0 := by
    intro o ho
    rw [clr_os] at ho
    obtain ⟨h1, h2⟩ := List.mem_filter.1 ho
    obtain ⟨q, hq, e⟩ := List.mem_map.1 h1
    exact ⟨q, hq, e.symm, by simpa using h2⟩
  refine ⟨h.nx1, h.nx2, ?_, ?_, ?_, ?_, ?_⟩
  · have := hs.length_le
    rw [List.length_map] at this
    exact Nat.le_trans this h.len
  · intro o ho
    obtain ⟨q, hq, rfl, hz⟩ := hm o ho
    have h1 := h.may q hq
    have h2 := got_bd h (crs B.os).1 (crs B.os).2 hq
    have h3 := may_am h1
    unfold mayB at h1 ⊢
    simp only [Bool.and_eq_true, decide_eq_true_eq] at h1 ⊢
    refine ⟨h1.1, ?_⟩
    have h4 : (q.setAm (q.am - got B.fl q.id)).am = q.am - got B.fl q.id := rfl
    rw [h4] at hz ⊢
    unfold Bo.fl at hz ⊢
    omega
  · refine List.Pairwise.sublist hs ?_
    rw [List.pairwise_map]
    exact h.ids
  · refine List.Pairwise.sublist hs ?_
    rw [List.pairwise_map]
    exact h.pls
  · intro o ho
    obtain ⟨q, hq, rfl, hz⟩ := hm o ho
    exact h.pl q hq
/-- The program's way: the one of that Id has less. -/
theorem less_set {l : List Od} (hp : l.Pairwise fun a b => a.id ≠ b.id) {i : Nat} {o : Od} (ho : l[i]? = some o) (f : Fi) (hf : o.id = f.1) : l.set i (o.setAm (o.am - f.2.2)) = lessAt l f := by
  induction l generalizing i with
  | nil => simp at ho
  | cons x l ih =>
    rw [List.pairwise_cons] at hp
    cases i with
    | zero =>
      have e : x = o := by simpa using ho
      subst e
      rw [List.set_cons_zero, lessAt, List.map_cons, if_pos hf]
      congr 1
      symm
      have e2 : (l.map fun o => if o.id = f.1 then o.setAm (o.am - f.2.2) else o) = l.map fun o => o := List.map_congr_left (fun o ho => by rw [if_neg (fun e => hp.1 o ho (by rw [e, hf]))])
      rw [e2, List.map_id']
    | succ i =>
      have ho' : l[i]? = some o := by simpa using ho
      have hm := List.mem_of_getElem? ho'
      rw [List.set_cons_succ, ih hp.2 ho', lessAt, lessAt, List.map_cons, if_neg (fun e => hp.1 o hm (by rw [e, hf]))]
theorem less_ids (l : List Od) (f : Fi) : (lessAt l f).map Od.id = l.map Od.id := by
  unfold lessAt
  rw [List.map_map]
  apply List.map_congr_left
  intro o _
  simp only [Function.comp]
  split <;> rfl
end Go.Proofs.YtpekfpfhonechaaGreat.Cal
