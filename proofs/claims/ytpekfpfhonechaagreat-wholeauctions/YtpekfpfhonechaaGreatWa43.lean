/- The house: endRound. -/
import Derived.Test.YtpekfpfhonechaaGreatWa42
import Derived.Test.YtpekfpfhonechaaGreatWa38
import Derived.Deep.DeepCutAuto
import Derived.Deep.CutBlock
import Derived.Test.YtpekfpfhonechaaGreatWa39
import Derived.Test.YtpekfpfhonechaaGreatWa25
namespace Go.Proofs.YtpekfpfhonechaaGreat
open Go.RowKit
set_option linter.unusedSimpArgs false
set_option linter.unusedVariables false
variable {base : Nat}

set_option maxRecDepth 100000 in
set_option maxHeartbeats 1500000 in
theorem endRound_hs (w : World) {X : Ad} {H : Hs} (h : Hm w base X H) (hB : base ≤ w.heap.size) {i : Nat} {x : Clo.Au × Int} (hx : H.ss[i]? = some (some x)) (hst : x.1.state = 0) :
    Calls Tryz.prog 69 #[.pointer (some ⟨X.p, 0, none⟩), .int .i64 i] w fun e w' => e = .returned (.tuple #[]) ∧ ∃ X', Hm w' base X' (endR H i) ∧ Hst w w' X X' ∧ X'.p = X.p := by
  obtain ⟨a, hi⟩ : ∃ a, X.sl[i]? = some (some a) := by
    obtain ⟨y, hy⟩ := get_both hx (h.sls.ns.trans h.sls.nn.symm)
    cases y with
    | none => have := (h.sls.non i).1 hy; rw [hx] at this; cases this
    | some a => exact ⟨a, hy⟩
  obtain ⟨k1, k2, k3⟩ := h.sls.sal i a x hi hx
  obtain ⟨d2, d3, d4⟩ := h.ds i x hx
  have hlen := k2.inv.len
  have hil : i < H.g := by have := (List.getElem?_eq_some_iff.1 hi).1; have := h.sls.ns; omega
  have hg4 := h.ha.lg.inv.g4
  have hii : (i : Int) < (H.g : Int) := by omega
  have c3 : w.cell? ⟨X.p, 3, none⟩ = some (.slice (some ⟨X.qs, 0, none⟩) H.g H.g) := h.ha.blk.cell rfl
  have cs : w.cell? ⟨X.qs, i, none⟩ = some (.pointer (some ⟨a.1, 0, none⟩)) := h.sls.row.cell (by simp [hi, ptrS])
  have hn0 : w.cell? ⟨X.p, 0, none⟩ = some (.int .i64 (H.l.length : Int)) := h.ha.blk.cell rfl
  have hmk := Clo.make_ints H.l.length (by omega) w
  obtain ⟨W1, hW1, X1, B1⟩ : ∃ W1, w.alloc (.cells (Clo.iC (List.replicate H.l.length 0)) 3) = W1 ∧ Blk W1 w.heap.size (Clo.iC (List.replicate H.l.length 0)) 3 ∧ Below w.heap.size w W1 := ⟨_, rfl, blk_new _ _ _ _ rfl, by go_grown⟩
  rw [hW1] at hmk
  have HX1 : Hid _ := X1
  have HB1 : Hid _ := B1
  have HH : Hid _ := h
  have Hi : Hid _ := hi
  have Hx : Hid _ := hx
  have HK1 : Hid _ := k1
  have HK2 : Hid _ := k2
  clear h hi hx k1 k2 k3 X1 B1
  go_enter Tryz.func69, Tryz.ntmps69
  go_wp2_with fail
  have HHd : Hid (∀ wx, Below w.heap.size w wx → ∀ k, k < H.l.length → _) := fun wx hx k hk => holds_hs wx (Blk.below HK1.out hx) (HK2.out.below hx) k (by omega)
  generalize hn : H.l.length = n at *
  have hws : w.heap.size < W1.heap.size := Blk.lt HX1.out
  go_loopw [25] (fun iv wr => ∃ k : Nat, k ≤ n ∧ iv = .int .i64 k ∧ Hid (Blk wr w.heap.size (Clo.iC (Clo.over (List.replicate n 0) (hldM x.1) k)) 3 ∧ Below w.heap.size w wr)) (fun iv _ => n - (intOf iv).toNat)
  case atStart => exact ⟨0, Nat.zero_le _, rfl, HX1.out, HB1.out⟩
  case round =>
    obtain ⟨k, hk, rfl, HR⟩ := hrel
    by_cases hlt : k < n
    · have hdd : decide ((k : Int) < (n : Int)) = true := by simp only [decide_eq_true_eq]; omega
      have hd' : (k : Int) < (n : Int) := by omega
      have HHk : Hid _ := HHd.out wr HR.out.2 k hlt
      go_wp2_with fail
      refine Calls.mono HHk.out ?_
      rintro e w2 ⟨rfl, b2⟩
      have hz := HR.out.2.size
      have hwr : w.heap.size < wr.heap.size := Blk.lt HR.out.1
      have X2 := Blk.below HR.out.1 b2
      have x0 : w2.cell? ⟨w.heap.size, k, none⟩ = some (.int .i64 0) := by
        have := X2.cell (Clo.iC_get (i := k) (by rw [Clo.over_len]; simpa using hlt))
        rw [Clo.over_at _ _ _ _ (by simpa using hlt), if_neg (by omega), Clo.gAt_rep] at this
        exact this
      have f0 : w2.frozen? ⟨w.heap.size, k, none⟩ = false := X2.frozen
      obtain ⟨W3, hW3, HF⟩ : ∃ W3, w2.setCell ⟨w.heap.size, k, none⟩ (.int .i64 (hldM x.1 k)) = W3 ∧ Hid (Blk W3 w.heap.size (Clo.iC (Clo.over (List.replicate n 0) (hldM x.1) (k + 1))) 3 ∧ Below w.heap.size w W3) := by
        refine ⟨_, rfl, ?_, ?_⟩
        · have R1 := X2.set k (.int .i64 (hldM x.1 k))
          rw [Clo.iC_set] at R1
          exact R1
        · exact (HR.out.2.trans (b2.mono hz)).setCell (p := ⟨w.heap.size, k, none⟩) (Nat.le_refl _) _
      clear X2 b2 HHk HR
      go_wp2
      exact ⟨⟨k + 1, by omega, by norm_cast, HF⟩, by simp [intOf]; omega⟩
    · have hdd : decide ((k : Int) < (n : Int)) = false := by simp only [decide_eq_false_iff_not]; omega
      have hkn : k = n := by omega
      rw [hkn] at HR
      have HT : Hid (Clo.over (List.replicate n 0) (hldM x.1) n = Clo.tab n (hldM x.1)) := by
        have := Clo.over_all (List.replicate n 0) (hldM x.1)
        rw [List.length_replicate] at this
        exact this
      rw [HT.out] at HR
      have hwr : w.heap.size < wr.heap.size := Blk.lt HR.out.1
      have e0 : wr.cell? ⟨a.1, 0, none⟩ = some (.pointer (some ⟨a.2.1, 0, none⟩)) := (Blk.below HK1.out HR.out.2).cell rfl
      have HN : Hid _ := Clo.next_calls wr (HK2.out.below HR.out.2) _ rfl
      rw [hkn]
      clear hdd hkn hlt
      have hdd : decide ((n : Int) < (n : Int)) = false := by simp only [decide_eq_false_iff_not]; omega
      clear c3 cs hn0 hmk hW1 HX1 HB1
      go_wp2_with fail
      refine Calls.mono HN.out ?_
      rintro e w2 ⟨rfl, L2, o2⟩
      have HhB : Hid (Blk w2 w.heap.size (Clo.iC (Clo.tab n (hldM x.1))) 3) := by
        have q := HK2.out.below HR.out.2
        have c : Chg (fun k => k = a.2.1 ∨ k = a.2.2) wr w2 := Chg.of_ofc o2 (Or.inl rfl) (Or.inr rfl)
        exact Blk.chg HR.out.1 c (Elsw.two (ts := [3]) q.blk (by decide) q.row (by decide) _ _ _ HR.out.1 (by simp))
      have hnl : x.1.next.2.2.ds.length = x.1.ds.length := by
        unfold Clo.Au.next
        split
        · rfl
        · split
          · rfl
          · split
            · rfl
            · simp [Clo.Au.begin, Clo.roll_len]
      have HM2 : Hid _ := (HH.out.below HR.out.2).sal Hi.out Hx.out L2 o2 hnl
      clear L2 o2
      have hsl : i < H.ss.length := (List.getElem?_eq_some_iff.1 Hx.out).1
      have hB2 : base ≤ w2.heap.size := by have h1 := HR.out.2.size; have h2 := HM2.out.2.chg.size; omega
      have HHB : Hid (∀ k, k < n → 0 ≤ hldM x.1 k ∧ hldM x.1 k ≤ 1152921504606846976) := fun k hk => (hld_bd HK2.out.inv (who := k) (by omega)).2.2
      by_cases hov : x.1.next.1 = true
      · rw [hov]
        have hln : (x.1.next.2.2, x.2).1.ds.length = n := hnl.trans d2
        have HC := close_hs w2 HM2.out.1 hB2 Hi.out (x := (x.1.next.2.2, x.2)) (by simp [hsl]) (next_over hov).1 (hb := w.heap.size) (hd := hldM x.1) (by rw [hln]; exact HhB.out) (by rw [hln]; exact HHB.out)
        rw [hln] at HC
        have HCC : Hid _ := HC
        have HE : Hid (endR H i = { H with l := closeL H.g H.l i (x.1.next.2.2, x.2) (hldM x.1), ss := H.ss.set i none }) := by
          show _ = _
          unfold endR
          rw [Hx.out]
          simp only [hov, if_true]
        clear HC HN e0 hnl
        go_wp2_with fail
        refine Calls.mono HCC.out ?_
        rintro e w3 ⟨rfl, M3, T3⟩
        have HM3 : Hid _ := M3
        have HT3 : Hid _ := T3
        clear M3 T3 HCC
        go_wp2
        refine bodyPost_ret (v := .tuple #[]) (results_none (by kernel_rfl) _ _ _) rfl ?_
        refine ⟨rfl, { X with sl := X.sl.set i none }, ?_, ((Hst.of_below HR.out.2).trans HM2.out.2).trans HT3.out, rfl⟩
        rw [HE.out]
        simpa [List.set_set] using HM3.out
      · have hov' : x.1.next.1 = false := by simpa using hov
        rw [hov']
        obtain ⟨hp1, hs0⟩ := next_open HK2.out.inv hst hov'
        obtain ⟨G, hG⟩ : ∃ G : Hs, { H with ss := H.ss.set i (some (x.1.next.2.2, x.2)) } = G := ⟨_, rfl⟩
        have he : endR H i = cutN G i (hldM x.1) n := by
          unfold endR
          rw [Hx.out]
          simp [hov', d2, hG]
        have HE : Hid _ := he
        have hGi : G.ss[i]? = some (some (x.1.next.2.2, x.2)) := by rw [← hG]; simp [hsl]
        have HGi : Hid _ := hGi
        have hGl : G.l.length = n := by rw [← hG]; exact hn
        rw [hG] at HM2
        have HI : Hid (Hm w2 base X (cutN G i (hldM x.1) 0) ∧ Hst w2 w2 X X) := ⟨HM2.out.1, Hst.of_below (Below.refl _ _)⟩
        clear hG he hGi HN e0 hnl
        go_wp2_with fail
        go_loopw [50] (fun iv wx => ∃ k : Nat, k ≤ n ∧ iv = .int .i64 k ∧ Hid (Hm wx base X (cutN G i (hldM x.1) k) ∧ Hst w2 wx X X)) (fun iv _ => n - (intOf iv).toNat)
        case atStart => exact ⟨0, Nat.zero_le _, rfl, HI⟩
        case round =>
          clear HI
          obtain ⟨j, hj, rfl, HJ⟩ := hrel
          by_cases hjl : j < n
          · have hdj : decide ((j : Int) < (n : Int)) = true := by simp only [decide_eq_true_eq]; omega
            have hdj' : (j : Int) < (n : Int) := by omega
            have hnf : ¬ X.foot w.heap.size := fun e => by have := HH.out.foot_lt _ e; omega
            have g1 : wr.cell? ⟨w.heap.size, j, none⟩ = some (.int .i64 (hldM x.1 j)) := HJ.out.2.chg.cell (a := ⟨w.heap.size, j, none⟩) (Blk.cell HhB.out (by rw [Clo.iC_get (by rw [Clo.tab_len]; exact hjl), Clo.tab_at _ hjl])) hnf
            obtain ⟨⟨A, q1, q2, q3, q4⟩, q5, q6, q7⟩ := cutN_at HGi.out (hldM x.1) j
            have hzx := HJ.out.2.chg.size
            have HC : Hid _ := cut_hs wr HJ.out.1 (by omega) Hi.out q1 j (by omega) (hldM x.1 j) (HHB.out j hjl) (by rw [q2]; exact hp1)
            clear q1 q2 q3 q4
            go_wp2_with fail
            refine Calls.mono HC.out ?_
            rintro e w4 ⟨rfl, M4, T4⟩
            have HF : Hid (Hm w4 base X (cutN G i (hldM x.1) (j + 1)) ∧ Hst w2 w4 X X) := ⟨M4, HJ.out.2.trans T4⟩
            clear M4 T4 HC HJ g1
            go_wp2
            exact ⟨⟨j + 1, by omega, by norm_cast, HF⟩, by simp [intOf]; omega⟩
          · have hdj : decide ((j : Int) < (n : Int)) = false := by simp only [decide_eq_false_iff_not]; omega
            have hjn : j = n := by omega
            go_wp2_with fail
            go_end0
            refine ⟨rfl, X, ?_, ((Hst.of_below HR.out.2).trans HM2.out.2).trans HJ.out.2, rfl⟩
            rw [HE.out, ← hjn]
            exact HJ.out.1
end Go.Proofs.YtpekfpfhonechaaGreat

namespace Go.Proofs.YtpekfpfhonechaaGreat
open Go.RowKit
set_option linter.unusedSimpArgs false
set_option linter.unusedVariables false
variable {base g qs : Nat} {sl : List (Option (Nat × Nat × Nat))} {ss : List (Option (Clo.Au × Int))}

theorem Hm.sal_lt {w : World} {X : Ad} {H : Hs} (h : Hm w base X H) {j : Nat} {c : Nat × Nat × Nat} (hc : X.sl[j]? = some (some c)) : c.1 < w.heap.size ∧ c.2.1 < w.heap.size ∧ c.2.2 < w.heap.size := by
  obtain ⟨y, hy⟩ := get_both hc (h.sls.nn.trans h.sls.ns.symm)
  cases y with
  | none => have := (h.sls.non j).2 hy; rw [hc] at this; cases this
  | some y =>
    obtain ⟨m1, m2, m3⟩ := h.sls.sal j c y hc hy
    exact ⟨m1.lt, m2.blk.lt, m2.row.lt⟩
theorem Sls.add {w : World} {i : Nat} {a : Nat × Nat × Nat} {x : Clo.Au × Int} (h : Sls w base g qs sl ss) (hi : i < g)
    (hs : Blk w a.1 #[.pointer (some ⟨a.2.1, 0, none⟩), .int .i64 x.2] 66) (hL : Clo.Lc w a.2.1 a.2.2 x.1) (hb : base ≤ a.2.1 ∧ base ≤ a.2.2)
    (hf : ∀ (j : Nat) c, sl[j]? = some (some c) → a.1 ≠ c.1 ∧ a.2.1 ≠ c.2.1 ∧ a.2.2 ≠ c.2.2) :
    Sls (w.setCell ⟨qs, i, none⟩ (.pointer (some ⟨a.1, 0, none⟩))) base g qs (sl.set i (some a)) (ss.set i (some x)) := by
  have c : Chg (fun k => k = qs) w (w.setCell ⟨qs, i, none⟩ (.pointer (some ⟨a.1, 0, none⟩))) := chg_gone _
  have he := fun ts (h1 : 57 ∉ ts) => Elsw.one (ts := ts) h.row h1
  have hl := h.ns
  have hn := h.nn
  refine ⟨by simpa using h.ns, by simpa using h.nn, ?_, fun j => ?_, fun j b y hb1 hy => ?_, fun j k b c hb1 hc hjk => ?_⟩
  · have k := h.row.set i (.pointer (some ⟨a.1, 0, none⟩))
    have e : (sl.map ptrS).toArray.setIfInBounds i (.pointer (some ⟨a.1, 0, none⟩)) = ((sl.set i (some a)).map ptrS).toArray := by
      rw [List.map_set]
      simp [ptrS]
    rwa [e] at k
  · rw [List.getElem?_set, List.getElem?_set]
    split
    · simp [hl, hn, hi]
    · exact h.non j
  · rw [List.getElem?_set] at hb1 hy
    split at hb1
    · next e =>
      subst e
      rw [if_pos rfl] at hy
      simp only [hl, hn, hi, if_true, Option.some.injEq] at hb1 hy
      subst hb1 hy
      exact ⟨hs.chg c (he [66] (by decide) _ _ _ hs (by simp)), hL.chg c (he [80] (by decide) _ _ _ hL.blk (by simp)) (he [83] (by decide) _ _ _ hL.row (by simp)), hb⟩
    · next e =>
      rw [if_neg e] at hy
      obtain ⟨m1, m2, m3⟩ := h.sal j b y hb1 hy
      exact ⟨m1.chg c (he [66] (by decide) _ _ _ m1 (by simp)), m2.chg c (he [80] (by decide) _ _ _ m2.blk (by simp)) (he [83] (by decide) _ _ _ m2.row (by simp)), m3⟩
  · rw [List.getElem?_set] at hb1 hc
    split at hb1
    · next e =>
      subst e
      rw [if_neg hjk] at hc
      simp only [hl, hi, if_true, Option.some.injEq] at hb1
      subst hb1
      exact hf k c hc
    · split at hc
      · next e =>
        subst e
        simp only [hl, hi, if_true, Option.some.injEq] at hc
        subst hc
        have := hf j b hb1
        exact ⟨this.1.symm, this.2.1.symm, this.2.2.symm⟩
      · exact h.dis j k b c hb1 hc hjk
/-- The whole behind a sale that is new. -/
theorem Hm.add {w0 w : World} {X : Ad} {H : Hs} {i : Nat} {a : Nat × Nat × Nat} {x : Clo.Au × Int} (h : Hm w base X H) (hi : i < H.g)
    (hs : Blk w a.1 #[.pointer (some ⟨a.2.1, 0, none⟩), .int .i64 x.2] 66) (hL : Clo.Lc w a.2.1 a.2.2 x.1) (hb : base ≤ a.2.1 ∧ base ≤ a.2.2)
    (hf : ∀ (j : Nat) c, X.sl[j]? = some (some c) → a.1 ≠ c.1 ∧ a.2.1 ≠ c.2.1 ∧ a.2.2 ≠ c.2.2) (hx : x.1.ds.length = H.l.length ∧ 0 ≤ x.2 ∧ x.2 < H.l.length)
    (t : Hst w0 w X X) (ha : w0.heap.size ≤ a.2.1 ∧ w0.heap.size ≤ a.2.2) :
    Hm (w.setCell ⟨X.qs, i, none⟩ (.pointer (some ⟨a.1, 0, none⟩))) base { X with sl := X.sl.set i (some a) } { H with ss := H.ss.set i (some x) } ∧ Hst w0 (w.setCell ⟨X.qs, i, none⟩ (.pointer (some ⟨a.1, 0, none⟩))) X { X with sl := X.sl.set i (some a) } := by
  have c : Chg (fun k => k = X.qs) w (w.setCell ⟨X.qs, i, none⟩ (.pointer (some ⟨a.1, 0, none⟩))) := chg_gone _
  have he := fun ts (h1 : 57 ∉ ts) => Elsw.one (ts := ts) h.sls.row h1
  refine ⟨⟨h.ha.chg c (he _ (by decide)), h.mks.chg c (he _ (by decide)), h.sls.add hi hs hL hb hf, h.b0, h.n0, fun j y hy => ?_⟩,
    ⟨t.chg.trans (fun k hk => Or.inl (Or.inr (Or.inr (Or.inl hk)))) c, fun k hk => ?_⟩⟩
  · simp only at hy
    rw [List.getElem?_set] at hy
    split at hy
    · next e => subst e; simp only [h.sls.nn, hi, if_true, Option.some.injEq] at hy; subst hy; exact hx
    · exact h.ds j y hy
  · rcases hk with e | e | e | e | ⟨b, hb1, e⟩
    · exact Or.inl (Or.inl e)
    · exact Or.inl (Or.inr (Or.inl e))
    · exact Or.inl (Or.inr (Or.inr (Or.inl e)))
    · exact Or.inl (Or.inr (Or.inr (Or.inr (Or.inl e))))
    · rcases List.mem_or_eq_of_mem_set hb1 with m | m
      · exact Or.inl (Or.inr (Or.inr (Or.inr (Or.inr ⟨b, m, e⟩))))
      · simp only [Option.some.injEq] at m
        subst m
        rcases e with e | e
        · exact Or.inr (by rw [e]; exact ha.1)
        · exact Or.inr (by rw [e]; exact ha.2)
end Go.Proofs.YtpekfpfhonechaaGreat

namespace Go.Proofs.YtpekfpfhonechaaGreat
open Go.RowKit
set_option linter.unusedSimpArgs false
set_option linter.unusedVariables false
variable {base : Nat}

/-- Each auction runs, and is such as one can have. -/
def Pst (H : Hs) : Prop := ∀ (i : Nat) x, H.ss[i]? = some (some x) → x.1.state = 0 ∧ Clo.Inv x.1
theorem Pst.set {H : Hs} (h : Pst H) (i : Nat) (x : Clo.Au × Int) (hx : x.1.state = 0 ∧ Clo.Inv x.1) {l : Ks} {ms : List Cal.Bo} {n : Int} : Pst { H with l := l, ms := ms, now := n, ss := H.ss.set i (some x) } := by
  intro j y hy
  simp only at hy
  rw [List.getElem?_set] at hy
  split at hy
  · split at hy
    · simp only [Option.some.injEq] at hy
      rw [← hy]; exact hx
    · cases hy
  · exact h j y hy
theorem Pst.none {H : Hs} (h : Pst H) (i : Nat) {l : Ks} {ms : List Cal.Bo} {n : Int} : Pst { H with l := l, ms := ms, now := n, ss := H.ss.set i none } := by
  intro j y hy
  simp only at hy
  rw [List.getElem?_set] at hy
  split at hy
  · split at hy
    · simp at hy
    · cases hy
  · exact h j y hy
theorem cutA_inv {l : Ks} {A : Clo.Au} (h : Clo.Inv A) (who : Nat) (held : Int) : Clo.Inv (cutA l A who held) := by
  unfold cutA; split
  · exact h.bid _ _
  · exact h
theorem cutR_pst {H : Hs} (h : Pst H) (i who : Nat) (held : Int) : Pst (cutR H i who held) := by
  unfold cutR
  split
  · next x hx =>
    obtain ⟨h0, h1⟩ := h i x hx
    exact h.set i _ ⟨(cutA_keeps _ _ _ _).1.trans h0, cutA_inv h1 _ _⟩
  · exact h
theorem cutR_g (H : Hs) (i who : Nat) (held : Int) : (cutR H i who held).g = H.g := by
  unfold cutR; split <;> rfl
theorem cutN_pst {H : Hs} (h : Pst H) (i : Nat) (hd : Nat → Int) : ∀ k, Pst (cutN H i hd k)
  | 0 => h
  | k + 1 => cutR_pst (cutN_pst h i hd k) i k (hd k)
theorem cutN_g (H : Hs) (i : Nat) (hd : Nat → Int) : ∀ k, (cutN H i hd k).g = H.g
  | 0 => rfl
  | k + 1 => (cutR_g _ _ _ _).trans (cutN_g H i hd k)
theorem endR_g (H : Hs) (i : Nat) : (endR H i).g = H.g := by
  unfold endR
  split
  · split
    · rfl
    · exact cutN_g _ _ _ _
  · rfl
theorem endR_pst {H : Hs} (h : Pst H) (i : Nat) : Pst (endR H i) := by
  unfold endR
  split
  · next x hx =>
    obtain ⟨h0, h1⟩ := h i x hx
    split
    · exact h.none i
    · next hn =>
      refine cutN_pst ?_ _ _ _
      exact h.set i _ ⟨(next_open h1 h0 (by simpa using hn)).2, h1.next⟩
  · exact h
theorem clr1_pst {H : Hs} (h : Pst H) (i : Nat) : Pst (clr1 H i) := h
theorem tick1_pst {H : Hs} (h : Pst H) (i : Nat) : Pst (tick1 endR H i) := by
  unfold tick1
  split
  · exact endR_pst (clr1_pst h i) i
  · exact clr1_pst h i
theorem tickN_pst {H : Hs} (h : Pst H) : ∀ k, Pst (tickN endR H k)
  | 0 => h
  | k + 1 => tick1_pst (tickN_pst h k) k
theorem tickR_pst {H : Hs} (h : Pst H) : Pst (tickR endR H).2 := by
  unfold tickR
  split
  · exact h
  · exact tickN_pst (H := { H with now := H.now + 1 }) h _
theorem tickE_hs (w : World) {X : Ad} {H : Hs} (h : Hm w base X H) (hB : base ≤ w.heap.size) (hp : Pst H) (who : Int) (o : Oo) :
    Calls Tryz.prog 54 #[.pointer (some ⟨X.p, 0, none⟩), .int .i64 who, o.val] w (Deed base X w (tickR endR H)) :=
  tick_hs endR Pst (fun H n h => h) (fun H i h => h) (fun H i h => endR_pst h i) endR_g
    (fun wx X H i a hm hb hi hP ha => endRound_hs wx hm hb ha (hP i a ha).1) w h hB hp who o
end Go.Proofs.YtpekfpfhonechaaGreat

namespace Go.Proofs.YtpekfpfhonechaaGreat
open Go.RowKit
set_option linter.unusedSimpArgs false
set_option linter.unusedVariables false
variable {base : Nat}

theorem may_bd {o : Cal.Od} (h : Cal.mayB o = true) : (0 ≤ o.pr ∧ o.pr ≤ 1099511627776) ∧ (1 ≤ o.am ∧ o.am ≤ 1048576) ∧ (0 ≤ bndN o ∧ bndN o ≤ 1152921504606846976) ∧ IntKind.i64.wrap (o.pr * o.am) = o.pr * o.am := by
  have hp := may_pr h
  have ha : 1 ≤ o.am ∧ o.am ≤ 1048576 := by
    unfold Cal.mayB at h
    simp only [Bool.and_eq_true, decide_eq_true_eq] at h
    omega
  have hmb := mul_bd (a := o.pr) (f := o.am) (by omega) hp.2 (by omega) ha.2
  have hm0 : 0 ≤ o.pr * o.am := Int.mul_nonneg hp.1 (by omega)
  refine ⟨hp, ha, ?_, by rw [IntKind.wrap_i64]; omega⟩
  unfold bndN
  split <;> omega
def cancelR (H : Hs) (who : Int) (o : Oo) : Int × Hs :=
  if ¬ (0 ≤ o.g ∧ o.g ≤ (H.g : Int) - 1) then (1, H) else if 1048576 < o.i then (1, H)
  else if (Cal.gtB (H.book o.g.toNat).os (16 * o.i + who)).2 = false then (3, H)
  else (0, { H with l := bindL H.g H.l who (bndT o.g (Cal.gtB (H.book o.g.toNat).os (16 * o.i + who)).1) (-(bndN (Cal.gtB (H.book o.g.toNat).os (16 * o.i + who)).1)),
                    ms := H.ms.set o.g.toNat ((H.book o.g.toNat).cancel (Cal.gtB (H.book o.g.toNat).os (16 * o.i + who)).1.id who).2 })

set_option maxRecDepth 100000 in
set_option maxHeartbeats 4000000 in
theorem cancel_hs (w : World) {X : Ad} {H : Hs} (h : Hm w base X H) (hB : base ≤ w.heap.size) (who : Int) (hw0 : 0 ≤ who) (hw1 : who < H.l.length) (o : Oo) (ho : o.good) :
    Calls Tryz.prog 63 #[.pointer (some ⟨X.p, 0, none⟩), .int .i64 who, o.val] w (Deed base X w (cancelR H who o)) := by
  have hlen := h.ha.lg.inv.len
  have hg4 := h.ha.lg.inv.g4
  obtain ⟨⟨g0, g1⟩, ⟨o0, o1⟩, ⟨s0, s1⟩, ⟨i0, i1⟩, hpr⟩ := ho
  obtain ⟨W0, hW0, O0, B0⟩ : ∃ W0, (w.alloc (.cells #[.int .i64 o.k, .int .i64 o.g, .int .i64 o.a, .int .i64 o.d, .int .i64 o.i, .float .f64 o.pr] 39)) = W0 ∧ Blk W0 w.heap.size #[.int .i64 o.k, .int .i64 o.g, .int .i64 o.a, .int .i64 o.d, .int .i64 o.i, .float .f64 o.pr] 39 ∧ Below w.heap.size w W0 := ⟨_, rfl, blk_new _ _ _ _ rfl, by go_grown⟩
  have a1 : W0.cell? ⟨w.heap.size, 1, none⟩ = some (.int .i64 o.g) := O0.cell rfl
  have a4 : W0.cell? ⟨w.heap.size, 4, none⟩ = some (.int .i64 o.i) := O0.cell rfl
  have c2 : W0.cell? ⟨X.p, 2, none⟩ = some (.slice (some ⟨X.qm, 0, none⟩) H.g X.cm) := (h.below B0).ha.blk.cell rfl
  have HHS : Hid _ := has_hs W0 (h.below B0).ha o.g
  have HH : Hid _ := h
  have HB0 : Hid _ := B0
  have HO0 : Hid _ := O0
  obtain ⟨R, hR⟩ : ∃ R, cancelR H who o = R := ⟨_, rfl⟩
  rw [hR]
  unfold cancelR at hR
  have HR : Hid _ := hR
  unfold Oo.val
  clear h O0 hR
  obtain ⟨ok, og, oa, od, oi, opr⟩ := o
  simp only at HHS HR a1 a4 hW0 HO0 g0 g1 i0 i1 ⊢
  clear s0 s1 o0 o1 hpr
  by_cases hgd : 0 ≤ og ∧ og ≤ (H.g : Int) - 1
  · rw [decide_eq_true hgd] at HHS
    have hR1 := HR.out
    rw [if_neg (fun h => h hgd)] at hR1
    by_cases hid : 1048576 < oi
    · have hd : decide (1048576 < oi) = true := decide_eq_true hid
      rw [if_pos hid] at hR1
      subst hR1
      clear hgd hid
      go_enter Tryz.func63, Tryz.ntmps63
      go_wp2_with fail
      refine Calls.mono HHS.out ?_
      rintro e w1 ⟨rfl, hw1'⟩
      subst w1
      go_wp2
      go_ret
      exact ⟨rfl, X, HH.out.below HB0.out, Hst.of_below HB0.out, rfl⟩
    · have hd : decide (1048576 < oi) = false := decide_eq_false hid
      rw [if_neg hid] at hR1
      have HR1 : Hid _ := hR1
      clear hR1 HR
      obtain ⟨i, rfl⟩ := Int.eq_ofNat_of_zero_le g0
      have hml : i < H.ms.length := by rw [HH.out.mks.nm]; omega
      obtain ⟨B, hBk⟩ : ∃ B, H.ms[i]? = some B := ⟨H.ms[i], by simp [hml]⟩
      obtain ⟨b, hb⟩ := get_both hBk (HH.out.mks.nb.trans HH.out.mks.nm.symm)
      have hbook : H.book (i : Int).toNat = B := by unfold Hs.book; rw [Int.toNat_natCast, hBk]; rfl
      rw [hbook, Int.toNat_natCast] at HR1
      have H0 := HH.out.below HB0.out
      have hkb0 := HH.out.mks.bk i b B hb hBk
      have hkb := H0.mks.bk i b B hb hBk
      obtain ⟨cs, hr, hr2⟩ := H0.mks.row
      have cq : W0.cell? ⟨X.qm, i, none⟩ = some (.pointer (some ⟨b.1, 0, none⟩)) := hr.cell (hr2 i b hb)
      have HNu : Hid _ := fun wx => numberOf_hs who oi wx hw0 (by omega) i0 i1
      have HGt : Hid (∀ wx, Below W0.heap.size W0 wx → _) := fun wx hx => Cal.get_calls (16 * oi + who) wx (hkb.below hx)
      have hii : (i : Int) < (H.g : Int) := by omega
      have HBk : Hid _ := hBk
      have Hb : Hid _ := hb
      have hmay := hkb.inv.may
      have hkbd := hkb.blk.lt
      have hkr := hkb.row
      have z0 := HB0.out.size
      have n3 : ¬ (w.heap.size = b.1 ∨ b.2.ownBlock = some w.heap.size) := by
        intro e; rcases e with e | e
        · have := hkb0.blk.lt; omega
        · have := (hkb0.row.lt _ e).2; omega
      have n4 : ∀ j, W0.heap.size ≤ j → ¬ (j = b.1 ∨ b.2.ownBlock = some j) := by
        intro j hj e; rcases e with e | e
        · omega
        · have := (hkr.lt _ e).2; omega
      have Hn : Hid _ := And.intro n3 n4
      clear hbook hml hBk hb hr hr2 hkb hkb0 hkr hkbd H0 n3 n4
      rcases Cal.fnd_cases B.os (16 * oi + who) with ⟨f1, f2⟩ | ⟨j, q, f1, f2, f3, f4⟩
      · rw [Cal.gtB_none f2] at HGt HR1
        have hR2 := HR1.out
        rw [if_pos rfl] at hR2
        subst hR2
        clear f1 f2 HR1
        go_enter Tryz.func63, Tryz.ntmps63
        go_wp2_with fail
        refine Calls.mono HHS.out ?_
        rintro e w1 ⟨rfl, hw1'⟩
        subst w1
        go_wp2_with fail
        go_region
        go_wp2_with fail
        refine Calls.mono (HNu.out _) ?_
        rintro e w1 ⟨rfl, hw1'⟩
        subst w1
        go_wp2_with fail
        refine Calls.mono (HGt.out _ ((Below.refl _ _).drew)) ?_
        rintro e w2 ⟨rfl, b2'⟩
        have b2 : Below W0.heap.size W0 w2 := ((Below.refl W0.heap.size W0).drew).trans b2'
        clear b2'
        obtain ⟨W2, hW2, X2, B2⟩ : ∃ W2, (w2.alloc (.cells #[.int .i64 0, .int .i64 0, .int .i64 0, .int .i64 0, .int .i64 0, .bool false] 51)) = W2 ∧ Blk W2 w2.heap.size (Cal.oC zOd).toArray 51 ∧ Below w2.heap.size w2 W2 := ⟨_, rfl, blk_new _ _ _ _ rfl, by go_grown⟩
        obtain ⟨W3, hW3, X3, B3⟩ : ∃ W3, W2.setRow w2.heap.size (Cal.oC zOd).toArray = W3 ∧ Blk W3 w2.heap.size (Cal.oC zOd).toArray 51 ∧ Below w2.heap.size w2 W3 := ⟨_, rfl, Blk.setRow X2 _, below_setRow B2 _ _ (Nat.le_refl _)⟩
        have z1 := b2.size
        have HBW : Hid (Below w.heap.size w W3) := HB0.out.trans ((b2.trans (B3.mono z1)).mono z0)
        clear B2 X3 B3 b2
        go_wp2_with ((with_reducible refine st_row (ty := 51) (cs' := (Cal.oC zOd).toArray) X2 (Cal.infoO6 _) (Cal.oCA_same _ _) (Cal.oCA_one _) hW3 ?_ ?_ ?_); rfl; rfl)
        go_ret
        exact ⟨rfl, X, HH.out.below HBW.out, Hst.of_below HBW.out, rfl⟩
      · rw [Cal.gtB_some f1 f2 f3] at HGt HR1
        have hR2 := HR1.out
        rw [if_neg (fun h => by cases h)] at hR2
        simp only at hR2 HGt
        have HR2 : Hid _ := hR2
        obtain ⟨hp, ha, hbn, hwr⟩ := may_bd (hmay q (List.mem_of_getElem? f2))
        have HBi : Hid _ := fun wx => binds_hs (i : Int) q wx hwr
        have hth : bndT (i : Int) q = -1 ∨ 0 ≤ bndT (i : Int) q ∧ bndT (i : Int) q < 4 := by
          unfold bndT; split
          · exact Or.inl rfl
          · exact Or.inr ⟨by omega, by omega⟩
        obtain ⟨th, hth1⟩ : ∃ th, bndT (i : Int) q = th := ⟨_, rfl⟩
        obtain ⟨nn, hnn1⟩ : ∃ nn, bndN q = nn := ⟨_, rfl⟩
        obtain ⟨rc, hrc⟩ : ∃ rc, B.cancel q.id who = rc := ⟨_, rfl⟩
        rw [hth1, hnn1, hrc] at HR2
        rw [hth1, hnn1] at HBi
        rw [hth1] at hth
        rw [hnn1] at hbn
        have HRC : Hid _ := hrc
        have hwn : IntKind.i64.wrap (-nn) = -nn := by rw [IntKind.wrap_i64]; omega
        have hun := Tryz.underlying51
        have h6 := Cal.infoO6 q
        clear hR2 HR1 f1 f2 f3 f4 hmay hp ha hwr hth1 hnn1 hrc
        go_enter Tryz.func63, Tryz.ntmps63
        go_wp2_with fail
        refine Calls.mono HHS.out ?_
        rintro e w1 ⟨rfl, hw1'⟩
        subst w1
        go_wp2_with fail
        go_region
        go_wp2_with fail
        refine Calls.mono (HNu.out _) ?_
        rintro e w1 ⟨rfl, hw1'⟩
        subst w1
        go_wp2_with fail
        refine Calls.mono (HGt.out _ ((Below.refl _ _).drew)) ?_
        rintro e w2 ⟨rfl, b2'⟩
        have b2 : Below W0.heap.size W0 w2 := ((Below.refl W0.heap.size W0).drew).trans b2'
        clear b2'
        obtain ⟨W2, hW2, X2, B2⟩ : ∃ W2, (w2.alloc (.cells #[.int .i64 0, .int .i64 0, .int .i64 0, .int .i64 0, .int .i64 0, .bool false] 51)) = W2 ∧ Blk W2 w2.heap.size (Cal.oC zOd).toArray 51 ∧ Below w2.heap.size w2 W2 := ⟨_, rfl, blk_new _ _ _ _ rfl, by go_grown⟩
        obtain ⟨W3, hW3, X3, B3⟩ : ∃ W3, W2.setRow w2.heap.size (Cal.oC q).toArray = W3 ∧ Blk W3 w2.heap.size (Cal.oC q).toArray 51 ∧ Below w2.heap.size w2 W3 := ⟨_, rfl, Blk.setRow X2 _, below_setRow B2 _ _ (Nat.le_refl _)⟩
        have z1 := b2.size
        have B03 : Below W0.heap.size W0 W3 := b2.trans (B3.mono z1)
        have HBW : Hid (Below w.heap.size w W3) := HB0.out.trans (B03.mono z0)
        have H3 : Hid _ := HH.out.below HBW.out
        have a1' : W3.cell? ⟨w.heap.size, 1, none⟩ = some (.int .i64 i) := (B03.cell (p := ⟨w.heap.size, 1, none⟩) (World.block_lt_of_cell? _ _ a1)).trans a1
        have q0 : W3.cell? ⟨w2.heap.size, 0, none⟩ = some (.int .i64 q.id) := X3.cell rfl
        have HX3 : Hid _ := X3
        have hkb3 := H3.out.mks.bk i b B Hb.out HBk.out
        have HCa : Hid _ := Cal.cancel_calls q.id who W3 hkb3 rc HRC.out
        have hn4 := Hn.out.2 w2.heap.size z1
        clear B2 X3 B3 b2 B03 hkb3 a4
        go_wp2_with ((with_reducible refine st_row (ty := 51) (cs' := (Cal.oC q).toArray) X2 (Cal.infoO6 _) (Cal.oCA_same _ _) (Cal.oCA_one _) hW3 ?_ ?_ ?_); rfl; rfl)
        refine Calls.mono HCa.out ?_
        rintro e w6 ⟨rfl, v', ST⟩
        have hC6 : Chg (fun k => k = b.1 ∨ b.2.ownBlock = some k) W3 w6 := Chg.of_ofb ST.of (Or.inl rfl) (fun k hk => Or.inr hk)
        have HM6 : Hid _ := H3.out.mkt Hb.out ST
        have H06 : Hid (Hst w w6 X { X with bs := X.bs.set i (b.1, v') }) := (Hst.of_below HBW.out).trans HM6.out.2
        have a6 : w6.cell? ⟨w.heap.size, 1, none⟩ = some (.int .i64 i) := Chg.cell hC6 a1' Hn.out.1
        have XR : Blk w6 w2.heap.size (Cal.oC q).toArray 51 := Blk.chg HX3.out hC6 hn4
        clear ST hC6 HCa q0 a1' hW2 hW3 X2 hn4 HX3
        go_wp2_with ((with_reducible refine rd_row (ty := 51) XR hun rfl h6 ?_ ?_); rfl)
        refine (HBi.out _).mono ?_
        rintro e w7 ⟨rfl, b7⟩
        have HM7 : Hid _ := HM6.out.1.below b7
        have H07 : Hid _ := H06.out.trans (Hst.of_below b7)
        have HBd : Hid _ := bind_hs w7 HM7.out.ha who th (-nn) (by omega) (by omega)
        clear b7 XR a6 HBi
        go_wp2_with fail
        refine Calls.mono HBd.out ?_
        rintro e w8 ⟨rfl, L8, o8⟩
        have C8 : Chg (fun k => k = X.bl) w7 w8 := Chg.of_off o8 rfl
        have HF := HM7.out.acc (Ha.wide HM7.out.ha L8 C8 (bindL_len _ _ _ _ _)) C8 (bindL_len _ _ _ _ _)
        have HFF : Hid _ := HF
        clear HF L8 o8 C8
        have hR3 := HR2.out
        subst hR3
        go_wp2
        go_ret
        exact ⟨rfl, _, HFF.out.1, H07.out.trans HFF.out.2, rfl⟩
  · rw [decide_eq_false hgd] at HHS
    have hR1 := HR.out
    rw [if_pos hgd] at hR1
    subst hR1
    clear hgd
    go_enter Tryz.func63, Tryz.ntmps63
    go_wp2_with fail
    refine Calls.mono HHS.out ?_
    rintro e w1 ⟨rfl, hw1'⟩
    subst w1
    go_wp2
    go_ret
    exact ⟨rfl, X, HH.out.below HB0.out, Hst.of_below HB0.out, rfl⟩
end Go.Proofs.YtpekfpfhonechaaGreat
