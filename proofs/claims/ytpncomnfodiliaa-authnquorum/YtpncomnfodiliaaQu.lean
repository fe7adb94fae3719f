/- AuthnQuorum for every input: what it answers. -/
import Derived.Test.YtpncomnfodiliaaVq
namespace Go.Proofs.Ytpncomnfodiliaa
open Go.RowKit
set_option linter.unusedSimpArgs false
set_option linter.unusedVariables false

theorem sgs_of_sgC {w : World} {base : Nat} {v : Value} {l : List Sg} (h : w.ownsRow base 51 3 v l.length (sgC l)) (hz : ∀ m ∈ l, m.body.size ≤ maxLen ∧ m.sig.size ≤ maxLen) : Sgs w v l :=
  sgs_of_own (show w.ownsRow base 51 3 v l.length (sgCells l) from h) hz
theorem vMsg_sizes (S : List (Int × ByteArray)) (v : Vt) : (vMsg S v).body.size ≤ maxLen ∧ (vMsg S v).sig.size ≤ maxLen := by
  have h1 : (sealR S v.who v.bd).1.body.size ≤ 1048576 := by
    unfold sealR
    split
    · split
      · exact byS_size _
      · exact (by decide : zeroSg.body.size ≤ 1048576)
    · exact (by decide : zeroSg.body.size ≤ 1048576)
  have h2 := sealR_sig S v.who v.bd
  unfold vMsg spoil maxLen
  split
  · refine ⟨?_, ?_⟩
    · show (sealR S v.who v.bd).1.body.size ≤ _; omega
    · show ((sealR S v.who v.bd).1.sig ++ _).size ≤ _; rw [size_app1]; omega
  · split
    · refine ⟨?_, ?_⟩
      · show (sealR S v.who v.bd).1.body.size ≤ _; omega
      · show (sealR S v.who v.bd).1.sig.size ≤ _; omega
    · exact ⟨by omega, by omega⟩
theorem vMs_sizes : ∀ (l : List Vt) (S : List (Int × ByteArray)), ∀ m ∈ vMs l S, m.body.size ≤ maxLen ∧ m.sig.size ≤ maxLen
  | [], _, m, h => by cases h
  | v :: l, S, m, h => by
    rcases List.mem_cons.1 h with rfl | h
    · exact vMsg_sizes S v
    · exact vMs_sizes l _ m h
theorem boC_at (l : List Vt) (n k : Nat) (hk : k < n) (hl : k < l.length) : (boC (l.take n))[k]? = some (.bool (vOk l[k])) := by
  simp [boC, hk, hl]

set_option maxHeartbeats 4000000 in
set_option maxRecDepth 100000 in
theorem quorumLaw_calls (v : Value) (l : List Vt) (kind view seq : Int) (dg : ByteArray) (below : Int) (w : World) (hl : Vts w v l) (hll : l.length * 56 ≤ 140737488351232) :
    Calls Try.prog 8 #[v, .int .i64 kind, .int .i64 view, .int .i64 seq, .string dg, .int .i64 below] w fun e w' => e = .returned (.bool true) ∧ Below w.heap.size w w' := by
  have HN : Hid _ := newBook_calls
  have HA : Hid _ := awake_calls
  obtain ⟨hz0, hz1⟩ := zero_of_info infoCnt
  have hl0 := hl
  have HL0 : Hid _ := hl0
  obtain ⟨a, cap, rfl, hc⟩ := hl.any
  have HC : Hid _ := hc
  clear hc hl hl0
  have hrd := fun wx => round_calls kind 2 wx (by decide) (by decide)
  have hrb := rnd_bounds kind 2 (by decide) (by decide)
  obtain ⟨hr0, hr1⟩ := hrb
  have HR0 : Hid _ := hrd
  clear hrd
  go_enter Try.func8, Try.ntmps8
  go_wp2_with fail
  refine (HN.out _).mono ?_
  rintro e w1 ⟨p, b, x, y, rfl, K1, b1, hp, hb, hx, hy⟩
  go_wp2_with fail
  refine (HR0.out _).mono ?_
  rintro e w1 ⟨rfl, rfl⟩
  go_wp2_with fail
  refine (sealed_calls _ l w _ HL0.out hll K1 b1 hx hy).mono ?_
  rintro e w3 ⟨ov, gv, rfl, K3, oo, og, b3⟩
  have z3 := b3.size
  obtain ⟨K, hK⟩ : ∃ K, 3 + rnd kind 2 = K := ⟨_, rfl⟩
  rw [hK]
  clear hK hr0 hr1 HR0
  obtain ⟨N, hN⟩ : ∃ N, (l.take 60).length = N := ⟨_, rfl⟩
  have hN60 : N ≤ 60 := by rw [← hN]; simp; omega
  have hNl : N ≤ l.length := by rw [← hN]; simp; omega
  have hSl : (vSt (l.take 60)).length ≤ 60 := Nat.le_trans (vSt_len _) (by simp; omega)
  have hcnt := count_same (l.take 60) [] (vSt (l.take 60)) K view seq dg below [] rfl (by omega)
  have hml : (vMs (l.take 60) []).length = N := by rw [vMs_len, hN]
  have hQ := fun wx (hb : Below w3.heap.size w3 wx) => quorum_calls (S := vSt (l.take 60)) ov (vMs (l.take 60) []) K view seq dg below wx (K3.below hb) (by omega) (sgs_of_sgC (by rw [hml, ← hN]; exact own_below oo hb) (vMs_sizes _ _)) (by omega)
  have hqe : (qset (vote (vSt (l.take 60)) K view seq dg) below (vMs (l.take 60) [])).length = ((l.take N).foldl (lstep K view seq dg below) []).length := by
    unfold qset
    rw [hcnt]
    have : l.take N = l.take 60 := by
      rw [← hN]
      rcases Nat.lt_or_ge 60 l.length with h | h
      · rw [List.length_take, Nat.min_eq_left (by omega)]
      · rw [List.length_take, Nat.min_eq_right h, List.take_of_length_le (Nat.le_refl _), List.take_of_length_le h]
    rw [this]
  rw [hqe] at hQ
  have HQ : Hid _ := hQ
  obtain ⟨po, co, rfl⟩ : ∃ po co, ov = .slice po N co := by
    have := sgs_of_own' oo
    rw [hN] at this
    exact this
  have hgat : ∀ k (hk : k < N), ∃ g2 cap2, gv = .slice (some ⟨g2, 0, none⟩) N cap2 ∧ w3.cell? ⟨g2, k, none⟩ = some (.bool (vOk (l[k]'(Nat.lt_of_lt_of_le hk hNl)))) := fun k hk => by
    obtain ⟨g2, cap2, h1, _, _, h2⟩ := own_at og (by omega)
    rw [hN] at h1
    exact ⟨g2, cap2, h1, h2 k _ (boC_at l 60 k (by omega) (by omega))⟩
  have HG : Hid _ := hgat
  clear hgat hQ hqe hcnt oo og hSl hml hN
  go_wp2_with fail
  go_loopw [18, 19] (fun c i wr => ∃ k : Nat, k ≤ N ∧ i = .int .i64 k ∧ (c = .int .i64 ((l.take k).foldl (lstep K view seq dg below) []).length ∧ ((l.take k).foldl (lstep K view seq dg below) []).length ≤ k) ∧ Blk wr w3.heap.size (cntA (marks ((l.take k).foldl (lstep K view seq dg below) []))) 63 ∧ Below w3.heap.size w3 wr) (fun _ i _ => N - (intOf i).toNat)
  case atStart => exact ⟨0, Nat.zero_le _, rfl, ⟨rfl, Nat.le_refl _⟩, blk_new _ _ _ _ rfl, (Below.refl _ _).alloc (Nat.le_refl _) _⟩
  case round =>
    obtain ⟨k, hk, rfl, ⟨rfl, hal⟩, hB, hb⟩ := hrel
    have hz := hb.size
    have hBl := hB.lt
    by_cases hlt : k < N
    · have hd : decide ((k : Int) < (N : Int)) = true := by simp only [decide_eq_true_eq]; omega
      have hkl : k < l.length := by omega
      obtain ⟨g, off, hga, _, hg, hcel, hfit⟩ := HC.out k hkl
      subst hga
      obtain ⟨g2, cap2, rfl, hgc⟩ := HG.out k hlt
      have hB3 : Below w.heap.size w wr := b3.trans (hb.mono z3)
      have d0 : wr.cell? ⟨g, off + k * 6, none⟩ = some (.int .i64 l[k].who) := keepCell hB3 (hcel 0 _ rfl)
      have d1 := keepCell hB3 (hcel 1 _ rfl)
      have d2 := keepCell hB3 (hcel 2 _ rfl)
      have d3 := keepCell hB3 (hcel 3 _ rfl)
      have d4 := keepCell hB3 (hcel 4 _ rfl)
      have d5 := keepCell hB3 (hcel 5 _ rfl)
      have ht : (l.take (k + 1)).foldl (lstep K view seq dg below) [] = lstep K view seq dg below ((l.take k).foldl (lstep K view seq dg below) []) l[k] := by
        rw [List.take_succ_eq_append_getElem hkl, List.foldl_append]; rfl
      have H2 : Hid _ := ht
      clear ht
      generalize (l.take k).foldl (lstep K view seq dg below) [] = acc at *
      generalize hA : l[k] = vt at *
      obtain ⟨W1, hW1, XV, B1, Z1⟩ : ∃ W1, (wr.alloc (.cells #[.int .i64 vt.who, .int .i64 vt.kind, .int .i64 vt.view, .int .i64 vt.seq, .int .i64 vt.spoilt, .string vt.dg] 65)) = W1 ∧ Blk W1 wr.heap.size #[.int .i64 vt.who, .int .i64 vt.kind, .int .i64 vt.view, .int .i64 vt.seq, .int .i64 vt.spoilt, .string vt.dg] 65 ∧ Below wr.heap.size wr W1 ∧ W1.heap.size = wr.heap.size + 1 :=
        ⟨_, rfl, blk_new _ _ _ _ rfl, by go_grown, by simp⟩
      have c0 : W1.cell? ⟨wr.heap.size, 0, none⟩ = some (.int .i64 vt.who) := XV.cell rfl
      have c1 : W1.cell? ⟨wr.heap.size, 1, none⟩ = some (.int .i64 vt.kind) := XV.cell rfl
      have c2 : W1.cell? ⟨wr.heap.size, 2, none⟩ = some (.int .i64 vt.view) := XV.cell rfl
      have c3 : W1.cell? ⟨wr.heap.size, 3, none⟩ = some (.int .i64 vt.seq) := XV.cell rfl
      have c5 : W1.cell? ⟨wr.heap.size, 5, none⟩ = some (.string vt.dg) := XV.cell rfl
      have g1 : W1.cell? ⟨g2, k, none⟩ = some (.bool (vOk vt)) := keepCell B1 (keepCell hb hgc)
      have C1 := hB.below B1
      have HRD : Hid _ := fun wx => round_calls vt.kind 2 wx (by decide) (by decide)
      obtain ⟨hr0, hr1⟩ := rnd_bounds vt.kind 2 (by decide) (by decide)
      clear XV
      cases hok : vOk vt
      · rw [hok] at g1
        have hq : lstep K view seq dg below acc vt = acc := by unfold lstep; rw [if_neg (by rw [hok]; simp)]
        go_wp2
        refine ⟨⟨k + 1, by omega, by norm_cast, ?_, ?_, ?_⟩, ?_⟩
        · rw [H2.out, hq]; exact ⟨rfl, by omega⟩
        · rw [H2.out, hq]; exact C1
        · exact hb.trans (B1.mono hz)
        · simp [intOf]; omega
      · rw [hok] at g1
        obtain ⟨f, hf, hf2⟩ : ∃ f : Nat, vt.who = (f : Int) ∧ f < 256 := by
          unfold vOk isSg at hok
          simp only [Bool.and_eq_true, decide_eq_true_eq] at hok
          exact ⟨vt.who.toNat, by omega, by omega⟩
        have hfv : Hid (vt.who = (f : Int)) := hf
        have hmk : W1.cell? ⟨w3.heap.size, f, none⟩ = some (.bool (marks acc f)) := C1.cell (cntA_get _ f hf2)
        have hfz : W1.frozen? ⟨w3.heap.size, f, none⟩ = false := C1.frozen
        rw [hf] at c0 hW1 d0
        by_cases h2 : (f : Int) < below
        · have e2 : decide ((f : Int) < below) = true := decide_eq_true h2
          by_cases h3 : 3 + rnd vt.kind 2 = K
          · have e3 : decide (3 + rnd vt.kind 2 = K) = true := decide_eq_true h3
            have e3' : (3 + rnd vt.kind 2 == K) = true := e3
            have H3 : Hid _ := h3
            clear h3
            by_cases h4 : vt.view = view
            · have e4 : decide (vt.view = view) = true := decide_eq_true h4
              have e4' : (vt.view == view) = true := e4
              have H4 : Hid _ := h4
              clear h4
              by_cases h5 : vt.seq = seq
              · have e5 : decide (vt.seq = seq) = true := decide_eq_true h5
                have e5' : (vt.seq == seq) = true := e5
                have H5 : Hid _ := h5
                clear h5
                by_cases h6 : vt.dg = dg
                · have e6 : (vt.dg.toList == dg.toList) = true := by rw [strEq]; exact decide_eq_true h6
                  have H6 : Hid _ := h6
                  clear h6
                  cases hmm : marks acc f
                  · rw [hmm] at hmk
                    have hni : vt.who ∉ acc := by rw [hfv.out]; unfold marks at hmm; simpa using hmm
                    have hq : lstep K view seq dg below acc vt = acc ++ [vt.who] := by unfold lstep; rw [if_pos ⟨hok, by rw [hfv.out]; exact h2, H3.out, H4.out, H5.out, H6.out, hni⟩]
                    go_wp2_with fail
                    refine (HRD.out _).mono ?_
                    rintro e w9 ⟨rfl, rfl⟩
                    go_wp2
                    refine ⟨⟨k + 1, by omega, by norm_cast, ?_, ?_, ?_⟩, ?_⟩
                    · rw [H2.out, hq]; exact ⟨by simp, by simp; omega⟩
                    · rw [H2.out, hq, marks_snoc acc f vt.who hfv.out, ← cntA_set]; exact C1.set f _
                    · exact (hb.trans (B1.mono hz)).setCell (p := ⟨w3.heap.size, f, none⟩) (Nat.le_refl _) _
                    · simp [intOf]; omega
                  · rw [hmm] at hmk
                    have hni : vt.who ∈ acc := by rw [hfv.out]; unfold marks at hmm; simpa using hmm
                    have hq : lstep K view seq dg below acc vt = acc := by unfold lstep; rw [if_neg (by rintro ⟨_, _, _, _, _, _, h⟩; exact h hni)]
                    go_wp2_with fail
                    refine (HRD.out _).mono ?_
                    rintro e w9 ⟨rfl, rfl⟩
                    go_wp2
                    refine ⟨⟨k + 1, by omega, by norm_cast, ?_, ?_, ?_⟩, ?_⟩
                    · rw [H2.out, hq]; exact ⟨rfl, by omega⟩
                    · rw [H2.out, hq]; exact C1
                    · exact hb.trans (B1.mono hz)
                    · simp [intOf]; omega
                · have e6 : (vt.dg.toList == dg.toList) = false := by rw [strEq]; exact decide_eq_false h6
                  have hq : lstep K view seq dg below acc vt = acc := by unfold lstep; rw [if_neg (by rintro ⟨_, _, _, _, _, h, _⟩; exact h6 h)]
                  go_wp2_with fail
                  refine (HRD.out _).mono ?_
                  rintro e w9 ⟨rfl, rfl⟩
                  go_wp2
                  refine ⟨⟨k + 1, by omega, by norm_cast, ?_, ?_, ?_⟩, ?_⟩
                  · rw [H2.out, hq]; exact ⟨rfl, by omega⟩
                  · rw [H2.out, hq]; exact C1
                  · exact hb.trans (B1.mono hz)
                  · simp [intOf]; omega
              · have e5 : decide (vt.seq = seq) = false := decide_eq_false h5
                have e5' : (vt.seq == seq) = false := e5
                have hq : lstep K view seq dg below acc vt = acc := by unfold lstep; rw [if_neg (by rintro ⟨_, _, _, _, h, _, _⟩; exact h5 h)]
                go_wp2_with fail
                refine (HRD.out _).mono ?_
                rintro e w9 ⟨rfl, rfl⟩
                go_wp2
                refine ⟨⟨k + 1, by omega, by norm_cast, ?_, ?_, ?_⟩, ?_⟩
                · rw [H2.out, hq]; exact ⟨rfl, by omega⟩
                · rw [H2.out, hq]; exact C1
                · exact hb.trans (B1.mono hz)
                · simp [intOf]; omega
            · have e4 : decide (vt.view = view) = false := decide_eq_false h4
              have e4' : (vt.view == view) = false := e4
              have hq : lstep K view seq dg below acc vt = acc := by unfold lstep; rw [if_neg (by rintro ⟨_, _, _, h, _, _, _⟩; exact h4 h)]
              go_wp2_with fail
              refine (HRD.out _).mono ?_
              rintro e w9 ⟨rfl, rfl⟩
              go_wp2
              refine ⟨⟨k + 1, by omega, by norm_cast, ?_, ?_, ?_⟩, ?_⟩
              · rw [H2.out, hq]; exact ⟨rfl, by omega⟩
              · rw [H2.out, hq]; exact C1
              · exact hb.trans (B1.mono hz)
              · simp [intOf]; omega
          · have e3 : decide (3 + rnd vt.kind 2 = K) = false := decide_eq_false h3
            have e3' : (3 + rnd vt.kind 2 == K) = false := e3
            have hq : lstep K view seq dg below acc vt = acc := by unfold lstep; rw [if_neg (by rintro ⟨_, _, h, _, _, _, _⟩; exact h3 h)]
            go_wp2_with fail
            refine (HRD.out _).mono ?_
            rintro e w9 ⟨rfl, rfl⟩
            go_wp2
            refine ⟨⟨k + 1, by omega, by norm_cast, ?_, ?_, ?_⟩, ?_⟩
            · rw [H2.out, hq]; exact ⟨rfl, by omega⟩
            · rw [H2.out, hq]; exact C1
            · exact hb.trans (B1.mono hz)
            · simp [intOf]; omega
        · have e2 : decide ((f : Int) < below) = false := decide_eq_false h2
          have hq : lstep K view seq dg below acc vt = acc := by unfold lstep; rw [if_neg (by rintro ⟨_, h, _, _, _, _, _⟩; rw [hfv.out] at h; exact h2 h)]
          go_wp2
          refine ⟨⟨k + 1, by omega, by norm_cast, ?_, ?_, ?_⟩, ?_⟩
          · rw [H2.out, hq]; exact ⟨rfl, by omega⟩
          · rw [H2.out, hq]; exact C1
          · exact hb.trans (B1.mono hz)
          · simp [intOf]; omega
    · have hd : decide ((k : Int) < (N : Int)) = false := by simp only [decide_eq_false_iff_not]; omega
      obtain rfl : k = N := by omega
      go_wp2_with fail
      refine (HQ.out _ hb).mono ?_
      rintro e w8 ⟨rfl, b8⟩
      have B8 : Below w.heap.size w w8 := (b3.trans (hb.mono z3)).trans (b8.mono (by omega))
      go_wp2_with fail
      refine (HA.out _).mono ?_
      rintro e w9 ⟨rfl, b9⟩
      go_wp2
      go_ret
      exact ⟨rfl, B8.trans (b9.mono B8.size)⟩
end Go.Proofs.Ytpncomnfodiliaa
