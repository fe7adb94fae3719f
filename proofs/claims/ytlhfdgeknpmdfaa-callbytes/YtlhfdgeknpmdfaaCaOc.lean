/- A book of bytes: the program's answer. -/
import Derived.Test.YtlhfdgeknpmdfaaCaOb
import Derived.Test.YtlhfdgeknpmdfaaCaOa
namespace Go.Proofs.Ytlhfdgeknpmdfaa
open Go.RowKit
set_option linter.unusedSimpArgs false
set_option linter.unusedVariables false

def cntN (ms : List Int) : Nat := (nAt ms 1).toNat
def GoodP (ms : List Int) : Prop := 2 ≤ ms.length ∧ (ms.length : Int) = 2 + 6 * nAt ms 1 ∧ (∀ j, j < cntN ms → okP ms j = true) ∧ 0 < nAt ms 0
def OfOk (s : ByteArray) : Prop := ∃ ms, nm s = some ms ∧ GoodP ms
theorem nm_fit {s : ByteArray} {ms : List Int} (h : nm s = some ms) : ms.length ≤ 386 ∧ ∀ i, 0 ≤ nAt ms i ∧ nAt ms i ≤ 9007199254740992 := by
  obtain ⟨_, h2, h3⟩ := nmF_canon 386 _ ms h
  refine ⟨h2, fun i => ?_⟩
  by_cases hi : i < ms.length
  · have := nAt_get hi
    exact h3 _ (List.mem_of_getElem? this)
  · unfold nAt
    rw [List.getD_eq_getElem?_getD, List.getElem?_eq_none (by omega)]
    decide
theorem ints_at {w : World} {base : Nat} {v : Value} {ms : List Int} (h : w.ownsRow base 3 1 v ms.length (iLu ms)) {g cap : Nat} (hv : v = .slice (some ⟨g, 0, none⟩) ms.length cap) (i : Nat) (hi : i < ms.length) : w.cell? ⟨g, i, none⟩ = some (.int .i64 (nAt ms i)) := by
  subst hv
  rw [h.cellAt i (by omega)]
  unfold iLu
  rw [List.getElem?_map, nAt_get hi]
  rfl
theorem neq_of_types {w : World} {base base' z z' n n' : Nat} {e e' : TypeId} {u v : Value} {xs xs' : List Value} (h : w.ownsRow base e z u n xs) (h' : w.ownsRow base' e' z' v n' xs') (he : e ≠ e') : u.ownBlock = none ∨ u.ownBlock ≠ v.ownBlock := by
  rcases h.2 with ⟨q, _⟩ | ⟨g, c, cur, q, _, hB, _⟩
  · rw [q]; exact Or.inl rfl
  · refine Or.inr (fun e2 => ?_)
    rcases h'.2 with ⟨q', _⟩ | ⟨g', c', cur', q', _, hB', _⟩
    · rw [q, q'] at e2; cases e2
    · rw [q, q'] at e2
      have e3 : g = g' := Option.some.inj e2
      rw [e3, hB'] at hB
      injection hB with hB
      injection hB with _ hB
      exact he hB.symm
theorem infoOd6 : (Try.prog.info? 28).map (fun i => (i.zero, i.size, i.bytes)) = some (some (.agg #[.int .i64 0, .int .i64 0, .int .i64 0, .int .i64 0, .int .i64 0, .bool false]), 6, 48) := by kernel_rfl
theorem oC_oneO (o : Od) : ∀ u ∈ oC o, u.oneCell' = true := by
  intro u hu
  unfold oC at hu
  simp only [List.mem_cons, List.not_mem_nil, or_false] at hu
  rcases hu with rfl | rfl | rfl | rfl | rfl | rfl <;> rfl
theorem odL_snocO (l : List Od) (o : Od) : odL (l ++ [o]) = odL l ++ oC o := by simp [odL]
theorem six_new (w : World) (o : Od) (t : TypeId) : ∀ j q, (oC o)[j]? = some q → (w.alloc (.cells (oC o).toArray t)).cell? ((⟨w.heap.size, 0, none⟩ : Addr).add j) = some q := fun j q hj => by
  rw [Addr.add_lit, Nat.zero_add]
  exact (blk_new w _ _ _ rfl).cell (by simpa using hj)
set_option maxRecDepth 100000 in
theorem madeW_calls (nx : Int) (p : Nat) (v : Value) (w : World) (h : Blk w p #[.int .i64 nx, v] 54) : Calls Try.prog 19 #[.pointer (some ⟨p, 0, none⟩)] w fun e w' => e = .returned (.bool (decide (0 < nx))) ∧ w' = w := by
  have c0 : w.cell? ⟨p, 0, none⟩ = some (.int .i64 nx) := h.cell rfl
  go_enter Try.func19, Try.ntmps19
  go_wp2
  go_ret
  exact ⟨rfl, rfl⟩
theorem offBy {k : Nat} {w w' : World} (h : Off k w w') : w.grownBy w' (some k) := ⟨h.os, h.tape, h.output, h.size, fun j hj hn => h.block j hj (fun e => hn (by rw [e]))⟩
theorem ownsRow_weakO {w : World} {base base2 n z : Nat} {t : TypeId} {v : Value} {xs : List Value} (h : w.ownsRow base t z v n xs) (hb : base2 ≤ base) : w.ownsRow base2 t z v n xs := by
  refine ⟨h.1, ?_⟩
  rcases h.2 with h2 | ⟨g, cap, cur, h1, h2, h3⟩
  · exact Or.inl h2
  · exact Or.inr ⟨g, cap, cur, h1, by omega, h3⟩
/-- What is true behind so many orders. -/
structure OfI (w0 w : World) (ms : List Int) (v : Value) (p : Nat) (j : Nat) (lv : Value) : Prop where
  ok : ∀ i, i < j → okP ms i = true
  ints : w.ownsRow w0.heap.size 3 1 v ms.length (iLu ms)
  blk : Blk w p #[.int .i64 (nAt ms 0), lv] 54
  row : w.ownsRow (p + 1) 28 6 lv (rdK ms j).length (odL (rdK ms j))
  lo : Below w0.heap.size w0 w
theorem OfI.below {w0 w w' : World} {ms : List Int} {v : Value} {p j : Nat} {lv : Value} (h : OfI w0 w ms v p j lv) (hb : Below w.heap.size w w') : OfI w0 w' ms v p j lv :=
  ⟨h.ok, ownB h.ints hb, h.blk.below hb, ownB h.row hb, h.lo.trans (hb.mono h.lo.size)⟩

set_option maxHeartbeats 8000000 in
set_option maxRecDepth 100000 in
theorem of_calls (s : ByteArray) (w : World) (hs : s.size ≤ 140737488351232) :
    Calls Try.prog 7 #[.string s] w fun e w' => Below w.heap.size w w' ∧ ((¬ OfOk s ∧ e = .returned (.tuple #[.pointer none, .int .i64 92])) ∨ ∃ ms p v, nm s = some ms ∧ GoodP ms ∧ e = .returned (.tuple #[.pointer (some ⟨p, 0, none⟩), .int .i64 0]) ∧ Bk w' w.heap.size p v ⟨nAt ms 0, rdK ms (cntN ms)⟩) := by
  obtain ⟨i0, hi, hz0, hz1, hz2⟩ := info_parts infoOd6
  go_enter Try.func7, Try.ntmps7
  go_wp2_with fail
  refine (numbersOf_calls s w hs).mono ?_
  rintro e w1 ⟨b1, ⟨hn, rfl⟩ | ⟨ms, v, hn, rfl, ho⟩⟩
  · have HN : Hid _ := hn
    clear hn
    go_wp2
    go_ret2
    exact ⟨b1, Or.inl ⟨fun ⟨ms, h1, _⟩ => (by rw [HN.out] at h1; cases h1), rfl⟩⟩
  · have HN : Hid _ := hn
    obtain ⟨hlen, hfit⟩ := nm_fit hn
    obtain ⟨va, vc, rfl⟩ := own_form ho
    have HO : Hid _ := ho
    have HB1 : Hid _ := b1
    have HNO : Hid (¬ GoodP ms → ¬ OfOk s) := fun hg ⟨m2, h1, h2⟩ => by
      rw [HN.out] at h1
      cases h1
      exact hg h2
    clear hn ho
    by_cases h2 : ms.length < 2
    · have d2 : decide ((ms.length : Int) < 2) = true := decide_eq_true (by omega)
      have d2' : (ms.length : Int) < 2 := by omega
      have HG : Hid (¬ GoodP ms) := fun h => by have := h.1; omega
      clear hfit
      go_wp2
      go_ret2
      exact ⟨b1, Or.inl ⟨HNO.out HG.out, rfl⟩⟩
    · have d2 : decide ((ms.length : Int) < 2) = false := decide_eq_false (by omega)
      have d2' : ¬ (ms.length : Int) < 2 := by omega
      obtain ⟨g, rfl, hgc⟩ : ∃ g, va = some ⟨g, 0, none⟩ ∧ ms.length ≤ vc ∧ vc ≤ 9223372036854775807 := by
        rcases (HO.out).2 with ⟨q, q2⟩ | ⟨g, cap, cur, q, _, _, q3, q4, _⟩
        · omega
        · injection q with q1 _ q2
          subst q2
          exact ⟨g, q1, q3, by unfold maxLen at q4; omega⟩
      obtain ⟨hvc, hvm⟩ := hgc
      have HC : Hid (∀ wx : World, wx.ownsRow w.heap.size 3 1 (.slice (some ⟨g, 0, none⟩) ms.length vc) ms.length (iLu ms) → ∀ i, i < ms.length → wx.cell? ⟨g, i, none⟩ = some (.int .i64 (nAt ms i))) := fun wx h i hi => ints_at h rfl i hi
      have c0 : w1.cell? ⟨g, 0, none⟩ = some (.int .i64 (nAt ms 0)) := HC.out w1 HO.out 0 (by omega)
      have c1 : w1.cell? ⟨g, 1, none⟩ = some (.int .i64 (nAt ms 1)) := HC.out w1 HO.out 1 (by omega)
      have f0 := hfit 0
      have f1 := hfit 1
      have hw6 : IntKind.i64.wrap (6 * nAt ms 1) = 6 * nAt ms 1 := by rw [IntKind.wrap_i64]; omega
      have hw2 : IntKind.i64.wrap (2 + 6 * nAt ms 1) = 2 + 6 * nAt ms 1 := by rw [IntKind.wrap_i64]; omega
      have hl1 : (1 : Int) < (ms.length : Int) := by omega
      have hl0 : (0 : Int) < (ms.length : Int) := by omega
      by_cases h3 : (ms.length : Int) = 2 + 6 * nAt ms 1
      · have d3 : ((ms.length : Int) == 2 + 6 * nAt ms 1) = true := by simpa using h3
        have d3n : ((ms.length : Int) != 2 + 6 * nAt ms 1) = false := by simp [h3]
        have H3 : Hid _ := h3
        have hcn : ms.length = 2 + 6 * cntN ms := by unfold cntN; omega
        have hc64 : cntN ms ≤ 64 := by omega
        obtain ⟨W2, hW2, X2, B2⟩ : ∃ W2, w1.alloc (.cells #[.int .i64 (nAt ms 0), .slice none 0 0] 54) = W2 ∧ Blk W2 w1.heap.size #[.int .i64 (nAt ms 0), .slice none 0 0] 54 ∧ Below w1.heap.size w1 W2 := ⟨_, rfl, blk_new _ _ _ _ rfl, by go_grown⟩
        have I2 : OfI w W2 ms (.slice (some ⟨g, 0, none⟩) ms.length vc) w1.heap.size 0 (.slice none 0 0) := ⟨fun i hi => by omega, ownB HO.out B2, X2, World.ownsRow_nil _ _ _ _, b1.trans (B2.mono b1.size)⟩
        have HI2 : Hid _ := I2
        have HNX : Hid _ := f0
        have HCN : Hid _ := hcn
        obtain ⟨nx, HNXE⟩ : ∃ nx, Hid (nAt ms 0 = nx) := ⟨_, rfl⟩
        have hws : w.heap.size ≤ w1.heap.size := b1.size
        obtain ⟨pp, HPP⟩ : ∃ pp, Hid (w1.heap.size = pp) := ⟨_, rfl⟩
        have hpp : w.heap.size ≤ pp := by rw [← HPP.out]; exact hws
        clear I2 f1 f0 h3 hcn hfit
        go_wp2_with fail
        go_loopw [7] (fun i wr => ∃ (j t : Nat) (lv : Value), j ≤ cntN ms ∧ i = .int .i64 t ∧ Hid (t = 2 + 6 * j ∧ OfI w wr ms (.slice (some ⟨g, 0, none⟩) ms.length vc) w1.heap.size j lv)) (fun i _ => ms.length + 6 - (intOf i).toNat)
        case atStart => exact ⟨0, 2, _, Nat.zero_le _, rfl, rfl, HI2.out⟩
        case round =>
          obtain ⟨j, t, lv, hj, rfl, HI⟩ := hrel
          by_cases hjc : j < cntN ms
          · have htl : t + 6 ≤ ms.length := by rw [HI.out.1, HCN.out]; omega
            have d4 : decide ((t : Int) < (ms.length : Int)) = true := decide_eq_true (by omega)
            have d4' : (t : Int) < (ms.length : Int) := by omega
            have I := HI.out.2
            have HT : Hid _ := HI.out.1
            have cc : ∀ i, i < ms.length → wr.cell? ⟨g, i, none⟩ = some (.int .i64 (nAt ms i)) := HC.out wr I.ints
            have e0 : wr.cell? ⟨g, t, none⟩ = some (.int .i64 (nAt ms t)) := cc t (by omega)
            have e1 : wr.cell? ⟨g, t + 1, none⟩ = some (.int .i64 (nAt ms (t + 1))) := cc _ (by omega)
            have e2 : wr.cell? ⟨g, t + 2, none⟩ = some (.int .i64 (nAt ms (t + 2))) := cc _ (by omega)
            have e3 : wr.cell? ⟨g, t + 3, none⟩ = some (.int .i64 (nAt ms (t + 3))) := cc _ (by omega)
            have e4 : wr.cell? ⟨g, t + 4, none⟩ = some (.int .i64 (nAt ms (t + 4))) := cc _ (by omega)
            have e5 : wr.cell? ⟨g, t + 5, none⟩ = some (.int .i64 (nAt ms (t + 5))) := cc _ (by omega)
            have hOA : oAt ms j = odI (nAt ms t) (nAt ms (t + 1)) (nAt ms (t + 2)) (nAt ms (t + 3)) (nAt ms (t + 4)) (nAt ms (t + 5)) ∧ nAt ms (4 + 6 * j) = nAt ms (t + 2) := by
              rw [HT.out]
              unfold oAt
              refine ⟨?_, by congr 1; omega⟩
              rw [show 3 + 6 * j = 2 + 6 * j + 1 by omega, show 4 + 6 * j = 2 + 6 * j + 2 by omega, show 5 + 6 * j = 2 + 6 * j + 3 by omega, show 6 + 6 * j = 2 + 6 * j + 4 by omega, show 7 + 6 * j = 2 + 6 * j + 5 by omega]
            obtain ⟨o, HOE⟩ : ∃ o, Hid (oAt ms j = o) := ⟨_, rfl⟩
            obtain ⟨qb, HQB⟩ : ∃ qb, Hid ((nAt ms (4 + 6 * j) == sdN (oAt ms j)) = qb) := ⟨_, rfl⟩
            have HOR : Hid (∀ cp, Calls Try.prog 22 #[.slice (some ⟨g, t, none⟩) 6 cp] wr fun e w' => e = .returned (.tuple #[.agg #[.int .i64 o.id, .int .i64 o.own, .int .i64 o.pr, .int .i64 o.am, .int .i64 o.pl, .bool o.by], .bool qb]) ∧ Below wr.heap.size wr w') := fun cp => by
              refine (orderOf_calls g t cp _ _ _ _ _ _ wr e0 e1 e2 e3 e4 e5).mono ?_
              rintro e w' ⟨rfl, hb⟩
              refine ⟨?_, hb⟩
              rw [← HQB.out, hOA.2, ← HOE.out, hOA.1]
              rfl
            have HII : Hid _ := I
            have hw7 : IntKind.i64.wrap ((t : Int) + 6) = (t : Int) + 6 := by rw [IntKind.wrap_i64]; omega
            have hv1 : (t : Int) ≤ (t : Int) + 6 := by omega
            have hv2 : (t : Int) + 6 ≤ (vc : Int) := by omega
            have hv3 : ((t : Int) + 6).toNat = t + 6 := by omega
            have hv4 : ¬ (vc = t) := by omega
            have hv5 : t + 6 - t = 6 := by omega
            have hv6 : (0 : Int) ≤ (t : Int) + 6 := by omega
            clear cc I HI e0 e1 e2 e3 e4 e5
            clear hOA
            have HBAD : Hid (okP ms j = false → ¬ GoodP ms) := fun hb hG => by have := hG.2.2.1 j hjc; rw [hb] at this; cases this
            go_wp2_with fail
            refine Calls.mono (HOR.out _) ?_
            rintro e w3 ⟨rfl, b3⟩
            obtain ⟨W4, hW4, X4, B4⟩ : ∃ W4, w3.alloc (.cells #[.int .i64 o.id, .int .i64 o.own, .int .i64 o.pr, .int .i64 o.am, .int .i64 o.pl, .bool o.by] 28) = W4 ∧ Blk W4 w3.heap.size #[.int .i64 o.id, .int .i64 o.own, .int .i64 o.pr, .int .i64 o.am, .int .i64 o.pl, .bool o.by] 28 ∧ Below w3.heap.size w3 W4 := ⟨_, rfl, blk_new _ _ _ _ rfl, by go_grown⟩
            have I4 : OfI w W4 ms (.slice (some ⟨g, 0, none⟩) ms.length vc) w1.heap.size j lv := (OfI.below HII.out b3).below B4
            cases qb
            · have HG : Hid (¬ GoodP ms) := HBAD.out (by unfold okP; rw [HQB.out]; rfl)
              have HI4 : Hid _ := I4
              clear I4
              go_wp2
              go_ret2
              exact ⟨(HI4.out).lo, Or.inl ⟨HNO.out HG.out, rfl⟩⟩
            · have x0 : W4.cell? ⟨w3.heap.size, 0, none⟩ = some (.int .i64 o.id) := X4.cell rfl
              have x1 : W4.cell? ⟨w3.heap.size, 1, none⟩ = some (.int .i64 o.own) := X4.cell rfl
              have x2 : W4.cell? ⟨w3.heap.size, 2, none⟩ = some (.int .i64 o.pr) := X4.cell rfl
              have x3 : W4.cell? ⟨w3.heap.size, 3, none⟩ = some (.int .i64 o.am) := X4.cell rfl
              have x4 : W4.cell? ⟨w3.heap.size, 4, none⟩ = some (.int .i64 o.pl) := X4.cell rfl
              have x5 : W4.cell? ⟨w3.heap.size, 5, none⟩ = some (.bool o.by) := X4.cell rfl
              have HTK : Hid _ := takes_calls (nAt ms 0) (rdK ms j) o W4 I4.blk I4.row (by rw [rdK_len]; omega)
              have HI4 : Hid _ := I4
              have HX4 : Hid _ := X4
              obtain ⟨tk, HTE⟩ : ∃ tk, Hid (tkB (nAt ms 0) (rdK ms j) o = tk) := ⟨_, rfl⟩
              rw [HTE.out] at HTK
              have HOKE : Hid (okP ms j = tk) := by
                show _ = _
                unfold okP
                rw [HQB.out, HOE.out, HTE.out]
                rfl
              clear I4 X4
              go_wp2_with fail
              refine Calls.mono HTK.out ?_
              rintro e w5 ⟨rfl, b5⟩
              cases tk
              · have HG : Hid (¬ GoodP ms) := HBAD.out HOKE.out
                have HI5 : Hid _ := OfI.below HI4.out b5
                go_wp2
                go_ret2
                exact ⟨(HI5.out).lo, Or.inl ⟨HNO.out HG.out, rfl⟩⟩
              · have I5 := OfI.below HI4.out b5
                have X5 := Blk.below HX4.out b5
                obtain ⟨la, lc, rfl⟩ := own_form I5.row
                have c5 : w5.cell? ⟨w1.heap.size, 1, none⟩ = some (.slice la (rdK ms j).length lc) := I5.blk.cell rfl
                have y0 : w5.cell? ⟨w3.heap.size, 0, none⟩ = some (.int .i64 o.id) := X5.cell rfl
                have y1 : w5.cell? ⟨w3.heap.size, 1, none⟩ = some (.int .i64 o.own) := X5.cell rfl
                have y2 : w5.cell? ⟨w3.heap.size, 2, none⟩ = some (.int .i64 o.pr) := X5.cell rfl
                have y3 : w5.cell? ⟨w3.heap.size, 3, none⟩ = some (.int .i64 o.am) := X5.cell rfl
                have y4 : w5.cell? ⟨w3.heap.size, 4, none⟩ = some (.int .i64 o.pl) := X5.cell rfl
                have y5 : w5.cell? ⟨w3.heap.size, 5, none⟩ = some (.bool o.by) := X5.cell rfl
                have hrl : (rdK ms j).length ≤ 64 := by rw [rdK_len]; omega
                obtain ⟨W6, hW6, B6⟩ : ∃ W6, w5.drew.alloc (.cells #[.int .i64 o.id, .int .i64 o.own, .int .i64 o.pr, .int .i64 o.am, .int .i64 o.pl, .bool o.by] 28) = W6 ∧ Below w5.heap.size w5 W6 := ⟨_, rfl, ((Below.refl _ _).drew).alloc (Nat.le_refl _) _⟩
                have I6 := I5.below B6
                have c6 : W6.cell? ⟨w1.heap.size, 1, none⟩ = some (.slice la (rdK ms j).length lc) := I6.blk.cell rfl
                have HN6 : Hid (∀ jj u, (oC o)[jj]? = some u → W6.cell? ((⟨w5.heap.size, 0, none⟩ : Addr).add jj) = some u) := by
                  rw [← hW6]; exact six_new w5.drew o _
                have HI6 : Hid _ := I6
                have hb6 : w1.heap.size + 1 ≤ W6.heap.size := I6.blk.lt
                clear I5 X5 I6 x0 x1 x2 x3 x4 x5 hW4 hv1 hv2 hv3 hv4 hv5 hv6 hw7 HII HOR
                clear c0 c1 hw6 hw2 hl1 hl0 d3 hW2 X2 B2 HI2 b5 HTK b3 B4
                go_wp2_with fail
                refine wp_region_any (by kernel_rfl) ?_
                change wpAny _ _ _ _ _ _ _ (World.drew _)
                refine wpAny_take (i := 0) (v := (.pointer (some ⟨w1.heap.size, 0, none⟩))) rfl (by kernel_rfl) (by kernel_rfl) (by kernel_rfl) (fun _ _ _ h => h) (Or.inl ⟨by rfl, fun w => by go_simp⟩) ?_
                refine wpAny_take (i := 1) (v := (.pointer (some ⟨w1.heap.size, 0, none⟩))) rfl (by kernel_rfl) (by kernel_rfl) (by kernel_rfl) (fun _ _ _ h => h) (Or.inl ⟨by rfl, fun w => by go_simp⟩) ?_
                refine wpAny_take (i := 2) (v := (.pointer (some ⟨w1.heap.size, 0, none⟩))) rfl (by kernel_rfl) (by kernel_rfl) (by kernel_rfl) (fun _ _ _ h => h) (Or.inl ⟨by rfl, fun w => by go_simp⟩) ?_
                refine wpAny_take (i := 3) (v := (.pointer (some ⟨w1.heap.size, 1, none⟩))) rfl (by kernel_rfl) (by kernel_rfl) (by kernel_rfl) (fun _ _ _ h => h) (Or.inl ⟨by rfl, fun w => by go_simp⟩) ?_
                refine wpAny_ready (rs := [4, 5]) (by kernel_rfl) (by simp) ?_
                refine AllReady.cons rfl (fun K hK => ?_) (AllReady.cons rfl (fun K hK => ?_) AllReady.nil)
                · go_simp
                  refine hK _ _ ?_
                  clear hK
                  refine wpAny_ready (rs := [5]) (by kernel_rfl) (by simp) ?_
                  refine AllReady.cons rfl (fun K hK => ?_) AllReady.nil
                  go_simp
                  refine hK _ _ ?_
                  clear hK
                  refine wpAny_ready (rs := [6]) (by kernel_rfl) (by simp) ?_
                  refine AllReady.cons rfl (fun K hK => ?_) AllReady.nil
                  go_simp
                  refine hK _ _ ?_
                  clear hK
                  refine wpAny_ready (rs := [7]) (by kernel_rfl) (by simp) ?_
                  refine AllReady.cons rfl (fun K hK => ?_) AllReady.nil
                  refine step_ifB rfl ?_
                  refine wp_append_own _ (.tmp 64) (.tmp 66) 25 rfl (w1.heap.size + 1) 28 i0 (.agg #[.int .i64 0, .int .i64 0, .int .i64 0, .int .i64 0, .int .i64 0, .bool false]) 6 48 Try.underlying25 hi hz0 hz1 hz2 rfl (by decide) (.slice la (rdK ms j).length lc) (rdK ms j).length (odL (rdK ms j)) rfl (OfI.row HI6.out) ⟨w5.heap.size, 0, none⟩ 1 1 (oC o) rfl rfl HN6.out (oC_oneO o) (by unfold maxLen; omega) (by omega) hb6 ?_
                  intro v' w7 own' gr' _
                  obtain ⟨oa', oc', rfl⟩ := own_form own'
                  have X7 : Blk w7 w1.heap.size #[.int .i64 (nAt ms 0), .slice la (rdK ms j).length lc] 54 := (gr'.block w1.heap.size (OfI.blk HI6.out).lt (fun q => by have := ((OfI.row HI6.out).lt _ q.symm).1; omega)).trans (OfI.blk HI6.out)
                  have f7 : w7.frozen? ⟨w1.heap.size, 1, none⟩ = false := X7.frozen
                  have c7 : w7.cell? ⟨w1.heap.size, 1, none⟩ = some (.slice la (rdK ms j).length lc) := X7.cell rfl
                  have in7 := World.ownsRow.kept (OfI.ints HI6.out) gr' (neq_of_types (OfI.ints HI6.out) (OfI.row HI6.out) (by decide))
                  have lo7 : Below w.heap.size w w7 := below_grownU (OfI.lo HI6.out) gr' (fun q hq => by have := ((OfI.row HI6.out).lt q hq).1; omega) (OfI.lo HI6.out).size
                  have HN8 : Hid (OfI w (w7.setCell ⟨w1.heap.size, 1, none⟩ (.slice oa' ((rdK ms j).length + 1) oc')) ms (.slice (some ⟨g, 0, none⟩) ms.length vc) w1.heap.size (j + 1) (.slice oa' ((rdK ms j).length + 1) oc')) := by
                    have gs : w7.grownBy (w7.setCell ⟨w1.heap.size, 1, none⟩ (.slice oa' ((rdK ms j).length + 1) oc')) (some w1.heap.size) := offBy (Off.setCell (Off.refl w1.heap.size w7) (p := ⟨w1.heap.size, 1, none⟩) rfl _)
                    refine ⟨fun i hi => ?_, World.ownsRow.kept in7 gs ?_, X7.set 1 _, ?_, below_grownU lo7 gs (fun q hq => by have := Option.some.inj hq; omega) lo7.size⟩
                    · rcases Nat.lt_or_ge i j with h | h
                      · exact OfI.ok HI6.out i h
                      · have : i = j := by omega
                        rw [this]; exact HOKE.out
                    · refine Or.inr (fun q => ?_)
                      rcases in7.2 with ⟨q1, _⟩ | ⟨g', c', cur', q1, _, hB', _⟩
                      · cases q1
                      · injection q1 with q1 _ _
                        injection q1 with q1
                        injection q1 with q1
                        have hq : g = w1.heap.size := Option.some.inj q
                        have := X7
                        unfold Blk at this
                        rw [← hq, q1, hB'] at this
                        injection this with this
                        injection this with _ this
                        exact absurd this (by decide)
                    · rw [rdK_succ, HOE.out, odL_snocO, List.length_append]
                      refine World.ownsRow.kept own' gs (Or.inr (fun q => ?_))
                      have := (own'.lt _ q).1
                      omega
                  clear own' gr' X7 in7 lo7
                  refine hK _ _ ?_
                  clear hK
                  refine wpAny_ready (rs := [8]) (by kernel_rfl) (by simp) ?_
                  refine AllReady.cons rfl (fun K hK => ?_) AllReady.nil
                  go_simp
                  refine hK _ _ ?_
                  clear hK
                  refine wpAny_ready (rs := [9]) (by kernel_rfl) (by simp) ?_
                  refine AllReady.cons rfl (fun K hK => ?_) AllReady.nil
                  go_simp
                  refine hK _ _ ?_
                  clear hK
                  refine wpAny_ready (rs := [10]) (by kernel_rfl) (by simp) ?_
                  refine AllReady.cons rfl (fun K hK => ?_) AllReady.nil
                  go_simp
                  refine hK _ _ ?_
                  clear hK
                  refine wpAny_done (by kernel_rfl) ?_ _
                  go_wp2
                  refine ⟨⟨j + 1, t + 6, _, by omega, by norm_cast, ?_, HN8.out⟩, ?_⟩
                  · have := HT.out; omega
                  · simp [intOf]; omega
                · go_simp
                  refine hK _ _ ?_
                  clear hK
                  refine wpAny_ready (rs := [4, 6]) (by kernel_rfl) (by simp) ?_
                  refine AllReady.cons rfl (fun K hK => ?_) (AllReady.cons rfl (fun K hK => ?_) AllReady.nil)
                  · go_simp
                    refine hK _ _ ?_
                    clear hK
                    refine wpAny_ready (rs := [6]) (by kernel_rfl) (by simp) ?_
                    refine AllReady.cons rfl (fun K hK => ?_) AllReady.nil
                    go_simp
                    refine hK _ _ ?_
                    clear hK
                    refine wpAny_ready (rs := [7]) (by kernel_rfl) (by simp) ?_
                    refine AllReady.cons rfl (fun K hK => ?_) AllReady.nil
                    refine step_ifB rfl ?_
                    refine wp_append_own _ (.tmp 64) (.tmp 66) 25 rfl (w1.heap.size + 1) 28 i0 (.agg #[.int .i64 0, .int .i64 0, .int .i64 0, .int .i64 0, .int .i64 0, .bool false]) 6 48 Try.underlying25 hi hz0 hz1 hz2 rfl (by decide) (.slice la (rdK ms j).length lc) (rdK ms j).length (odL (rdK ms j)) rfl (OfI.row HI6.out) ⟨w5.heap.size, 0, none⟩ 1 1 (oC o) rfl rfl HN6.out (oC_oneO o) (by unfold maxLen; omega) (by omega) hb6 ?_
                    intro v' w7 own' gr' _
                    obtain ⟨oa', oc', rfl⟩ := own_form own'
                    have X7 : Blk w7 w1.heap.size #[.int .i64 (nAt ms 0), .slice la (rdK ms j).length lc] 54 := (gr'.block w1.heap.size (OfI.blk HI6.out).lt (fun q => by have := ((OfI.row HI6.out).lt _ q.symm).1; omega)).trans (OfI.blk HI6.out)
                    have f7 : w7.frozen? ⟨w1.heap.size, 1, none⟩ = false := X7.frozen
                    have c7 : w7.cell? ⟨w1.heap.size, 1, none⟩ = some (.slice la (rdK ms j).length lc) := X7.cell rfl
                    have in7 := World.ownsRow.kept (OfI.ints HI6.out) gr' (neq_of_types (OfI.ints HI6.out) (OfI.row HI6.out) (by decide))
                    have lo7 : Below w.heap.size w w7 := below_grownU (OfI.lo HI6.out) gr' (fun q hq => by have := ((OfI.row HI6.out).lt q hq).1; omega) (OfI.lo HI6.out).size
                    have HN8 : Hid (OfI w (w7.setCell ⟨w1.heap.size, 1, none⟩ (.slice oa' ((rdK ms j).length + 1) oc')) ms (.slice (some ⟨g, 0, none⟩) ms.length vc) w1.heap.size (j + 1) (.slice oa' ((rdK ms j).length + 1) oc')) := by
                      have gs : w7.grownBy (w7.setCell ⟨w1.heap.size, 1, none⟩ (.slice oa' ((rdK ms j).length + 1) oc')) (some w1.heap.size) := offBy (Off.setCell (Off.refl w1.heap.size w7) (p := ⟨w1.heap.size, 1, none⟩) rfl _)
                      refine ⟨fun i hi => ?_, World.ownsRow.kept in7 gs ?_, X7.set 1 _, ?_, below_grownU lo7 gs (fun q hq => by have := Option.some.inj hq; omega) lo7.size⟩
                      · rcases Nat.lt_or_ge i j with h | h
                        · exact OfI.ok HI6.out i h
                        · have : i = j := by omega
                          rw [this]; exact HOKE.out
                      · refine Or.inr (fun q => ?_)
                        rcases in7.2 with ⟨q1, _⟩ | ⟨g', c', cur', q1, _, hB', _⟩
                        · cases q1
                        · injection q1 with q1 _ _
                          injection q1 with q1
                          injection q1 with q1
                          have hq : g = w1.heap.size := Option.some.inj q
                          have := X7
                          unfold Blk at this
                          rw [← hq, q1, hB'] at this
                          injection this with this
                          injection this with _ this
                          exact absurd this (by decide)
                      · rw [rdK_succ, HOE.out, odL_snocO, List.length_append]
                        refine World.ownsRow.kept own' gs (Or.inr (fun q => ?_))
                        have := (own'.lt _ q).1
                        omega
                    clear own' gr' X7 in7 lo7
                    refine hK _ _ ?_
                    clear hK
                    refine wpAny_ready (rs := [8]) (by kernel_rfl) (by simp) ?_
                    refine AllReady.cons rfl (fun K hK => ?_) AllReady.nil
                    go_simp
                    refine hK _ _ ?_
                    clear hK
                    refine wpAny_ready (rs := [9]) (by kernel_rfl) (by simp) ?_
                    refine AllReady.cons rfl (fun K hK => ?_) AllReady.nil
                    go_simp
                    refine hK _ _ ?_
                    clear hK
                    refine wpAny_ready (rs := [10]) (by kernel_rfl) (by simp) ?_
                    refine AllReady.cons rfl (fun K hK => ?_) AllReady.nil
                    go_simp
                    refine hK _ _ ?_
                    clear hK
                    refine wpAny_done (by kernel_rfl) ?_ _
                    go_wp2
                    refine ⟨⟨j + 1, t + 6, _, by omega, by norm_cast, ?_, HN8.out⟩, ?_⟩
                    · have := HT.out; omega
                    · simp [intOf]; omega
                  · go_simp
                    refine hK _ _ ?_
                    clear hK
                    refine wpAny_ready (rs := [4]) (by kernel_rfl) (by simp) ?_
                    refine AllReady.cons rfl (fun K hK => ?_) AllReady.nil
                    go_simp
                    refine hK _ _ ?_
                    clear hK
                    refine wpAny_ready (rs := [7]) (by kernel_rfl) (by simp) ?_
                    refine AllReady.cons rfl (fun K hK => ?_) AllReady.nil
                    refine step_ifB rfl ?_
                    refine wp_append_own _ (.tmp 64) (.tmp 66) 25 rfl (w1.heap.size + 1) 28 i0 (.agg #[.int .i64 0, .int .i64 0, .int .i64 0, .int .i64 0, .int .i64 0, .bool false]) 6 48 Try.underlying25 hi hz0 hz1 hz2 rfl (by decide) (.slice la (rdK ms j).length lc) (rdK ms j).length (odL (rdK ms j)) rfl (OfI.row HI6.out) ⟨w5.heap.size, 0, none⟩ 1 1 (oC o) rfl rfl HN6.out (oC_oneO o) (by unfold maxLen; omega) (by omega) hb6 ?_
                    intro v' w7 own' gr' _
                    obtain ⟨oa', oc', rfl⟩ := own_form own'
                    have X7 : Blk w7 w1.heap.size #[.int .i64 (nAt ms 0), .slice la (rdK ms j).length lc] 54 := (gr'.block w1.heap.size (OfI.blk HI6.out).lt (fun q => by have := ((OfI.row HI6.out).lt _ q.symm).1; omega)).trans (OfI.blk HI6.out)
                    have f7 : w7.frozen? ⟨w1.heap.size, 1, none⟩ = false := X7.frozen
                    have c7 : w7.cell? ⟨w1.heap.size, 1, none⟩ = some (.slice la (rdK ms j).length lc) := X7.cell rfl
                    have in7 := World.ownsRow.kept (OfI.ints HI6.out) gr' (neq_of_types (OfI.ints HI6.out) (OfI.row HI6.out) (by decide))
                    have lo7 : Below w.heap.size w w7 := below_grownU (OfI.lo HI6.out) gr' (fun q hq => by have := ((OfI.row HI6.out).lt q hq).1; omega) (OfI.lo HI6.out).size
                    have HN8 : Hid (OfI w (w7.setCell ⟨w1.heap.size, 1, none⟩ (.slice oa' ((rdK ms j).length + 1) oc')) ms (.slice (some ⟨g, 0, none⟩) ms.length vc) w1.heap.size (j + 1) (.slice oa' ((rdK ms j).length + 1) oc')) := by
                      have gs : w7.grownBy (w7.setCell ⟨w1.heap.size, 1, none⟩ (.slice oa' ((rdK ms j).length + 1) oc')) (some w1.heap.size) := offBy (Off.setCell (Off.refl w1.heap.size w7) (p := ⟨w1.heap.size, 1, none⟩) rfl _)
                      refine ⟨fun i hi => ?_, World.ownsRow.kept in7 gs ?_, X7.set 1 _, ?_, below_grownU lo7 gs (fun q hq => by have := Option.some.inj hq; omega) lo7.size⟩
                      · rcases Nat.lt_or_ge i j with h | h
                        · exact OfI.ok HI6.out i h
                        · have : i = j := by omega
                          rw [this]; exact HOKE.out
                      · refine Or.inr (fun q => ?_)
                        rcases in7.2 with ⟨q1, _⟩ | ⟨g', c', cur', q1, _, hB', _⟩
                        · cases q1
                        · injection q1 with q1 _ _
                          injection q1 with q1
                          injection q1 with q1
                          have hq : g = w1.heap.size := Option.some.inj q
                          have := X7
                          unfold Blk at this
                          rw [← hq, q1, hB'] at this
                          injection this with this
                          injection this with _ this
                          exact absurd this (by decide)
                      · rw [rdK_succ, HOE.out, odL_snocO, List.length_append]
                        refine World.ownsRow.kept own' gs (Or.inr (fun q => ?_))
                        have := (own'.lt _ q).1
                        omega
                    clear own' gr' X7 in7 lo7
                    refine hK _ _ ?_
                    clear hK
                    refine wpAny_ready (rs := [8]) (by kernel_rfl) (by simp) ?_
                    refine AllReady.cons rfl (fun K hK => ?_) AllReady.nil
                    go_simp
                    refine hK _ _ ?_
                    clear hK
                    refine wpAny_ready (rs := [9]) (by kernel_rfl) (by simp) ?_
                    refine AllReady.cons rfl (fun K hK => ?_) AllReady.nil
                    go_simp
                    refine hK _ _ ?_
                    clear hK
                    refine wpAny_ready (rs := [10]) (by kernel_rfl) (by simp) ?_
                    refine AllReady.cons rfl (fun K hK => ?_) AllReady.nil
                    go_simp
                    refine hK _ _ ?_
                    clear hK
                    refine wpAny_done (by kernel_rfl) ?_ _
                    go_wp2
                    refine ⟨⟨j + 1, t + 6, _, by omega, by norm_cast, ?_, HN8.out⟩, ?_⟩
                    · have := HT.out; omega
                    · simp [intOf]; omega
          · have hje : j = cntN ms := by omega
            have HJ : Hid _ := hje
            have d4 : decide ((t : Int) < (ms.length : Int)) = false := decide_eq_false (by have := HI.out.1; have := HCN.out; omega)
            have d4' : ¬ (t : Int) < (ms.length : Int) := of_decide_eq_false d4
            have HMD : Hid _ := madeW_calls (nAt ms 0) w1.heap.size lv wr HI.out.2.blk
            have HI3 : Hid _ := HI.out.2
            clear HI hje
            by_cases hx : 0 < nAt ms 0
            · rw [decide_eq_true hx] at HMD
              have HX : Hid _ := hx
              clear hx
              go_wp2_with fail
              refine Calls.mono HMD.out ?_
              rintro e w6 ⟨rfl, rfl⟩
              go_wp2
              go_ret2
              have hJ := HJ.out
              subst hJ
              have I := HI3.out
              have hg : GoodP ms := ⟨by omega, H3.out, I.ok, HX.out⟩
              have hrow := I.row
              rw [rdK_len] at hrow
              refine ⟨I.lo, Or.inr ⟨ms, w1.heap.size, lv, HN.out, hg, rfl, ⟨I.blk, ?_, hws, fun q => ?_, binv_of I.ok HX.out HNX.out.2 hc64⟩⟩⟩
              · exact ownsRow_weakO I.row (by omega)
              · have := (I.row.lt _ q).1; omega
            · rw [decide_eq_false hx] at HMD
              have HG : Hid (¬ GoodP ms) := fun h => hx h.2.2.2
              clear hx
              go_wp2_with fail
              refine Calls.mono HMD.out ?_
              rintro e w6 ⟨rfl, rfl⟩
              go_wp2
              go_ret2
              exact ⟨(HI3.out).lo, Or.inl ⟨HNO.out HG.out, rfl⟩⟩
      · have d3 : ((ms.length : Int) == 2 + 6 * nAt ms 1) = false := by simpa using h3
        have d3n : ((ms.length : Int) != 2 + 6 * nAt ms 1) = true := by simp [h3]
        have HG : Hid (¬ GoodP ms) := fun h => h3 h.2.1
        clear hfit h3
        go_wp2
        go_ret2
        exact ⟨b1, Or.inl ⟨HNO.out HG.out, rfl⟩⟩
end Go.Proofs.Ytlhfdgeknpmdfaa
