/- A house of three clients and two goods behind some requests. -/
import Derived.Test.YtgofjheoebabeaaGreatHx48
import Derived.Deep.DeepCutAuto
import Derived.Deep.CutBlock
import Derived.Deep.RegionHeld3
import Derived.Deep.RegionHeld
import Derived.Test.YtgofjheoebabeaaGreatHx41
import Derived.Test.YtgofjheoebabeaaGreatHx26
namespace Go.Proofs.YtgofjheoebabeaaGreat
open Go.RowKit
set_option linter.unusedSimpArgs false
set_option linter.unusedVariables false
variable {base : Nat}

def stepR (H : Hs) (a : Rq) : Hs := (doR H a.who a.stamp a.text).2.2
def runsR (H : Hs) (l : List Rq) : Hs := l.foldl stepR H
theorem runsR_take (H : Hs) (l : List Rq) (k : Nat) (h : k < l.length) : runsR H (l.take (k + 1)) = (doR (runsR H (l.take k)) l[k].who l[k].stamp l[k].text).2.2 := by
  unfold runsR
  rw [List.take_succ_eq_append_getElem h, List.foldl_append]; rfl
theorem new_pst (c g : Nat) : Pst (Hs.new c g) := by
  intro i x hx
  simp only [Hs.new, List.getElem?_replicate] at hx
  split at hx
  · cases hx
  · cases hx
theorem runsR_pst {H : Hs} (h : Pst H) : ∀ l : List Rq, Pst (runsR H l) := by
  intro l
  unfold runsR
  induction l generalizing H with
  | nil => exact h
  | cons a l ih => exact ih (doR_pst h _ _ _)
theorem text_size (a : Rq) (h : a.txt.size ≤ 140737488351232) : a.text.size ≤ maxLen := by
  have hm : 140737488351232 ≤ maxLen := by unfold maxLen; omega
  unfold Rq.text
  split
  · omega
  · split
    · have h1 := ints_take_len a.op 5
      have e8 : (le8 a.op.pr).length = 8 := leN_len _ _
      have : (opB a.op).length ≤ 58 := by
        unfold opB
        rw [List.length_append, e8]
        have e : a.op.ints.take 5 = a.op.ints := List.take_of_length_le (by rw [ints_len]; omega)
        rw [e] at h1
        omega
      show (opB a.op).toArray.size ≤ maxLen
      rw [List.size_toArray]
      omega
    · exact Nat.zero_le _
def h32 : Hs := Hs.new 3 2
theorem keepCellH {w w' : World} {k o : Nat} {v : Value} (hb : Below k w w') {c : Nat} (h : w.cell? ⟨c, o, none⟩ = some v) (hc : c < k) : w'.cell? ⟨c, o, none⟩ = some v := (hb.cell (p := ⟨c, o, none⟩) hc).trans h
set_option maxRecDepth 100000 in
set_option maxHeartbeats 4000000 in
theorem begun_hs (v : Value) (ls : List Rq) (w : World) (hl : Rqs w v ls) (hz : ls.length * 88 ≤ 140737488351232) :
    Calls Tryz.prog 7 #[v] w fun e w' => ∃ X, e = .returned (.pointer (some ⟨X.p, 0, none⟩)) ∧ Hm w' w.heap.size X (runsR h32 (ls.take 60)) ∧ Below w.heap.size w w' := by
  have HN : Hid _ := new_hs 3 2 w (by omega) (by omega) (by omega) (by omega)
  obtain ⟨a, cap, rfl, hc⟩ := hl.any
  have HC : Hid _ := hc
  obtain ⟨n, hn⟩ : ∃ n, ls.length = n := ⟨_, rfl⟩
  rw [hn] at hz ⊢
  have HLn : Hid _ := hn
  clear hc hl hn
  go_enter Tryz.func7, Tryz.ntmps7
  go_wp2_with fail
  refine Calls.mono HN.out ?_
  rintro e w1 ⟨X, rfl, hm, b1⟩
  have HI : Hid (∃ X', Hm w1 w.heap.size X' (runsR h32 (ls.take 0)) ∧ X'.p = X.p ∧ Below w.heap.size w w1) := ⟨X, hm, rfl, b1⟩
  clear hm b1 HN
  go_wp2_with fail
  go_loopw [5] (fun i wr => ∃ k : Nat, k ≤ n ∧ k ≤ 60 ∧ i = .int .i64 k ∧ Hid (∃ X', Hm wr w.heap.size X' (runsR h32 (ls.take k)) ∧ X'.p = X.p ∧ Below w.heap.size w wr)) (fun i _ => n - (intOf i).toNat)
  case atStart => exact ⟨0, Nat.zero_le _, by omega, rfl, HI⟩
  case round =>
    clear HI
    obtain ⟨k, hk, hk1, rfl, HR⟩ := hrel
    by_cases hgo : k < n ∧ k < 60
    · obtain ⟨hlt, hlt1⟩ := hgo
      have hd1 : decide ((k : Int) < n) = true := by simp only [decide_eq_true_eq]; omega
      have hd2 : decide ((k : Int) < 60) = true := by simp only [decide_eq_true_eq]; omega
      have hlt' : k < ls.length := by rw [HLn.out]; exact hlt
      obtain ⟨q, off, hga, _, hg, hcel, hfit, hsz⟩ := HC.out k hlt'
      subst hga
      obtain ⟨X1, m1, p1, br⟩ := HR.out
      clear HR
      have d0 := keepCellH br (hcel 0 _ rfl) hg
      have d1 := keepCellH br (hcel 1 _ rfl) hg
      have d2 := keepCellH br (hcel 2 _ rfl) hg
      have d3 := keepCellH br (hcel 3 _ rfl) hg
      have d4 := keepCellH br (hcel 4 _ rfl) hg
      have d5 := keepCellH br (hcel 5 _ rfl) hg
      have d6 := keepCellH br (hcel 6 _ rfl) hg
      have d7 := keepCellH br (hcel 7 _ rfl) hg
      have d8 := keepCellH br (hcel 8 _ rfl) hg
      have d9 := keepCellH br (hcel 9 _ rfl) hg
      rw [Nat.add_zero] at d0
      have hrt := runsR_take h32 ls k hlt'
      have HTx : Hid _ := fun wx => text_hs ls[k] wx hfit
      have HDo : Hid _ := fun wx hm hB => do_calls (base := w.heap.size) wx (X := X1) (H := runsR h32 (ls.take k)) hm hB (runsR_pst (new_pst 3 2) _) ls[k].who ls[k].stamp ls[k].text (text_size _ hsz)
      rw [p1] at HDo
      have hnf : ¬ X1.foot q := fun e => by have := m1.foot_base q e; omega
      have hzr := br.size
      have HM : Hid (Hm wr w.heap.size X1 (runsR h32 (ls.take k))) := m1
      have HX : Hid (X1.p = X.p ∧ Below w.heap.size w wr) := ⟨p1, br⟩
      have HHC : Hid _ := HC.out
      obtain ⟨D, hD⟩ : ∃ D, doR (runsR h32 (ls.take k)) ls[k].who ls[k].stamp ls[k].text = D := ⟨_, rfl⟩
      rw [hD] at hrt HDo
      have HRT : Hid _ := hrt
      obtain ⟨rq, hrq⟩ : ∃ rq, ls[k] = rq := ⟨_, rfl⟩
      rw [hrq] at HTx HDo d0 d1 d2 d3 d4 d5 d6 d7 d8 d9
      generalize rq.text = tx at *
      unfold Rq.val Rq.cells at HTx
      obtain ⟨o, ho⟩ : ∃ o, off + k * 10 = o := ⟨_, rfl⟩
      rw [ho] at d0 d1 d2 d3 d4 d5 d6 d7 d8 d9
      have HIx : Hid _ := ho
      clear ho
      generalize rq.who = aw at *
      generalize rq.stamp = as_ at *
      generalize rq.op.k = ok at *
      generalize rq.op.g = og at *
      generalize rq.op.a = oa at *
      generalize rq.op.d = od at *
      generalize rq.op.i = oi at *
      generalize rq.op.pr = op at *
      generalize rq.raw = ar at *
      generalize rq.txt = at_ at *
      clear hrq hrt hD m1 p1 br hcel hfit hsz hlt'
      go_wp2_with fail
      go_upto_region 7 with fail
      refine wp_region_held_drew (S := (fun wx => Chg X1.foot wr wx)) (by kernel_rfl) (Chg.of_below (Below.refl wr.heap.size wr) : Chg X1.foot wr wr).drew (fun hS => ?_)
      refine wpAnyH_take (i := 0) (v := .pointer (some ⟨X.p, 0, none⟩)) rfl (by kernel_rfl) (by kernel_rfl) (by kernel_rfl) (fun _ _ _ h => h) (Or.inl ⟨by kernel_rfl, fun w3 hS => by go_simp⟩) hS ?_
      refine wpAnyH_take (i := 1) (v := .slice (some ⟨q, off, none⟩) n cap) rfl (by kernel_rfl) (by kernel_rfl) (by kernel_rfl) (fun _ _ _ h => h) (Or.inl ⟨by kernel_rfl, fun w3 hS => by go_simp⟩) hS ?_
      refine wpAnyH_take (i := 2) (v := .int .i64 k) rfl (by kernel_rfl) (by kernel_rfl) (by kernel_rfl) (fun _ _ _ h => h) (Or.inl ⟨by kernel_rfl, fun w3 hS => by go_simp⟩) hS ?_
      refine wpAnyH_take (i := 3) (v := .pointer (some ⟨q, o, none⟩)) rfl (by kernel_rfl) (by kernel_rfl) (by kernel_rfl) (fun _ _ _ h => h) (Or.inl ⟨by kernel_rfl, fun w3 hS => by go_simp; exact HIx.out⟩) hS ?_
      refine wpAnyH_take (i := 4) (v := .pointer (some ⟨q, o, none⟩)) rfl (by kernel_rfl) (by kernel_rfl) (by kernel_rfl) (fun _ _ _ h => h) (Or.inl ⟨by kernel_rfl, fun w3 hS => by go_simp⟩) hS ?_
      refine wpAnyH_take (i := 5) (v := .int .i64 aw) rfl (by kernel_rfl) (by kernel_rfl) (by kernel_rfl) (fun _ _ _ h => h) (Or.inl ⟨by kernel_rfl, fun w3 hS => by have f0 : w3.cell? ⟨q, o, none⟩ = some (.int .i64 aw) := Chg.cell hS d0 hnf; have f1 : w3.cell? ⟨q, o + 1, none⟩ = some (.int .i64 as_) := Chg.cell hS d1 hnf; have f2 : w3.cell? ⟨q, o + 2, none⟩ = some (.int .i64 ok) := Chg.cell hS d2 hnf; have f3 : w3.cell? ⟨q, o + 3, none⟩ = some (.int .i64 og) := Chg.cell hS d3 hnf; have f4 : w3.cell? ⟨q, o + 4, none⟩ = some (.int .i64 oa) := Chg.cell hS d4 hnf; have f5 : w3.cell? ⟨q, o + 5, none⟩ = some (.int .i64 od) := Chg.cell hS d5 hnf; have f6 : w3.cell? ⟨q, o + 6, none⟩ = some (.int .i64 oi) := Chg.cell hS d6 hnf; have f7 : w3.cell? ⟨q, o + 7, none⟩ = some (.float .f64 op) := Chg.cell hS d7 hnf; have f8 : w3.cell? ⟨q, o + 8, none⟩ = some (.bool ar) := Chg.cell hS d8 hnf; have f9 : w3.cell? ⟨q, o + 9, none⟩ = some (.string at_) := Chg.cell hS d9 hnf; go_simp⟩) hS ?_
      refine wpAnyH_take (i := 6) (v := .slice (some ⟨q, off, none⟩) n cap) rfl (by kernel_rfl) (by kernel_rfl) (by kernel_rfl) (fun _ _ _ h => h) (Or.inl ⟨by kernel_rfl, fun w3 hS => by go_simp⟩) hS ?_
      refine wpAnyH_take (i := 7) (v := .int .i64 k) rfl (by kernel_rfl) (by kernel_rfl) (by kernel_rfl) (fun _ _ _ h => h) (Or.inl ⟨by kernel_rfl, fun w3 hS => by go_simp⟩) hS ?_
      refine wpAnyH_take (i := 8) (v := .pointer (some ⟨q, o, none⟩)) rfl (by kernel_rfl) (by kernel_rfl) (by kernel_rfl) (fun _ _ _ h => h) (Or.inl ⟨by kernel_rfl, fun w3 hS => by go_simp; exact HIx.out⟩) hS ?_
      refine wpAnyH_take (i := 9) (v := .pointer (some ⟨q, o + 1, none⟩)) rfl (by kernel_rfl) (by kernel_rfl) (by kernel_rfl) (fun _ _ _ h => h) (Or.inl ⟨by kernel_rfl, fun w3 hS => by go_simp⟩) hS ?_
      refine wpAnyH_take (i := 10) (v := .int .i64 as_) rfl (by kernel_rfl) (by kernel_rfl) (by kernel_rfl) (fun _ _ _ h => h) (Or.inl ⟨by kernel_rfl, fun w3 hS => by have f0 : w3.cell? ⟨q, o, none⟩ = some (.int .i64 aw) := Chg.cell hS d0 hnf; have f1 : w3.cell? ⟨q, o + 1, none⟩ = some (.int .i64 as_) := Chg.cell hS d1 hnf; have f2 : w3.cell? ⟨q, o + 2, none⟩ = some (.int .i64 ok) := Chg.cell hS d2 hnf; have f3 : w3.cell? ⟨q, o + 3, none⟩ = some (.int .i64 og) := Chg.cell hS d3 hnf; have f4 : w3.cell? ⟨q, o + 4, none⟩ = some (.int .i64 oa) := Chg.cell hS d4 hnf; have f5 : w3.cell? ⟨q, o + 5, none⟩ = some (.int .i64 od) := Chg.cell hS d5 hnf; have f6 : w3.cell? ⟨q, o + 6, none⟩ = some (.int .i64 oi) := Chg.cell hS d6 hnf; have f7 : w3.cell? ⟨q, o + 7, none⟩ = some (.float .f64 op) := Chg.cell hS d7 hnf; have f8 : w3.cell? ⟨q, o + 8, none⟩ = some (.bool ar) := Chg.cell hS d8 hnf; have f9 : w3.cell? ⟨q, o + 9, none⟩ = some (.string at_) := Chg.cell hS d9 hnf; go_simp⟩) hS ?_
      refine wpAnyH_take (i := 11) (v := .slice (some ⟨q, off, none⟩) n cap) rfl (by kernel_rfl) (by kernel_rfl) (by kernel_rfl) (fun _ _ _ h => h) (Or.inl ⟨by kernel_rfl, fun w3 hS => by go_simp⟩) hS ?_
      refine wpAnyH_take (i := 12) (v := .int .i64 k) rfl (by kernel_rfl) (by kernel_rfl) (by kernel_rfl) (fun _ _ _ h => h) (Or.inl ⟨by kernel_rfl, fun w3 hS => by go_simp⟩) hS ?_
      refine wpAnyH_take (i := 13) (v := .pointer (some ⟨q, o, none⟩)) rfl (by kernel_rfl) (by kernel_rfl) (by kernel_rfl) (fun _ _ _ h => h) (Or.inl ⟨by kernel_rfl, fun w3 hS => by go_simp; exact HIx.out⟩) hS ?_
      refine wpAnyH_take (i := 14) (v := .agg #[.int .i64 aw, .int .i64 as_, .int .i64 ok, .int .i64 og, .int .i64 oa, .int .i64 od, .int .i64 oi, .float .f64 op, .bool ar, .string at_]) rfl (by kernel_rfl) (by kernel_rfl) (by kernel_rfl) (fun _ _ _ h => h) (Or.inl ⟨by kernel_rfl, fun w3 hS => by have f0 : w3.cell? ⟨q, o, none⟩ = some (.int .i64 aw) := Chg.cell hS d0 hnf; have f1 : w3.cell? ⟨q, o + 1, none⟩ = some (.int .i64 as_) := Chg.cell hS d1 hnf; have f2 : w3.cell? ⟨q, o + 2, none⟩ = some (.int .i64 ok) := Chg.cell hS d2 hnf; have f3 : w3.cell? ⟨q, o + 3, none⟩ = some (.int .i64 og) := Chg.cell hS d3 hnf; have f4 : w3.cell? ⟨q, o + 4, none⟩ = some (.int .i64 oa) := Chg.cell hS d4 hnf; have f5 : w3.cell? ⟨q, o + 5, none⟩ = some (.int .i64 od) := Chg.cell hS d5 hnf; have f6 : w3.cell? ⟨q, o + 6, none⟩ = some (.int .i64 oi) := Chg.cell hS d6 hnf; have f7 : w3.cell? ⟨q, o + 7, none⟩ = some (.float .f64 op) := Chg.cell hS d7 hnf; have f8 : w3.cell? ⟨q, o + 8, none⟩ = some (.bool ar) := Chg.cell hS d8 hnf; have f9 : w3.cell? ⟨q, o + 9, none⟩ = some (.string at_) := Chg.cell hS d9 hnf; go_simp⟩) hS ?_
      refine wpAnyH_ready (rs := [15]) (by kernel_rfl) (by simp) ?_
      refine AllReadyH.cons rfl (fun K hK => ?_) AllReadyH.nil
      go_simp
      refine (HTx.out _).mono ?_
      rintro e w2 ⟨rfl, b2⟩
      have b2' : Below wr.heap.size wr w2 := ⟨b2.os, b2.tape, b2.output, b2.size, b2.block⟩
      have C2 : Chg X1.foot wr w2 := Chg.of_below b2'
      refine hK.out _ _ C2 (fun hS => ?_)
      clear hK
      refine wpAnyH_ready (rs := [16]) (by kernel_rfl) (by simp) ?_
      refine AllReadyH.cons rfl (fun K hK => ?_) AllReadyH.nil
      go_simp
      refine (HDo.out w2 (HM.out.below b2') (Nat.le_trans hzr b2'.size)).mono ?_
      rintro e w3 ⟨rfl, X3, m3, t3, p3⟩
      have C3 : Chg X1.foot wr w3 := C2.trans (fun q hq => Or.inl hq) t3.chg
      refine hK.out _ _ C3 (fun hS => ?_)
      clear hK
      refine wpAnyH_done (by kernel_rfl) ?_ _
      have HF : Hid (∃ X', Hm w3 w.heap.size X' (runsR h32 (ls.take (k + 1))) ∧ X'.p = X.p ∧ Below w.heap.size w w3) :=
        ⟨X3, by rw [HRT.out]; exact m3, p3, below_chg HX.out.2 hzr C3 (fun q hq => HM.out.foot_base q hq)⟩
      clear m3 t3 p3 C3 C2 b2 b2' HDo HTx HX HM hnf d0 d1 d2 d3 d4 d5 d6 d7 d8 d9 HRT
      go_wp2
      exact ⟨⟨k + 1, by omega, by omega, by norm_cast, HF⟩, by simp [intOf]; omega⟩
    · have htk : ls.take k = ls.take 60 := by
        by_cases h1 : k < n
        · have : k = 60 := by omega
          rw [this]
        · have hl := HLn.out
          rw [List.take_of_length_le (by omega), List.take_of_length_le (by omega)]
      have HE : Hid (∃ X', Hm wr w.heap.size X' (runsR h32 (ls.take 60)) ∧ X'.p = X.p ∧ Below w.heap.size w wr) := by rw [← htk]; exact HR
      clear HR htk
      by_cases h1 : k < n
      · have hd1 : decide ((k : Int) < n) = true := by simp only [decide_eq_true_eq]; omega
        have hd2 : decide ((k : Int) < 60) = false := by simp only [decide_eq_false_iff_not]; omega
        go_wp2
        go_ret
        obtain ⟨X', m, p, b⟩ := HE.out
        exact ⟨X', by rw [p]; rfl, m, b⟩
      · have hd1 : decide ((k : Int) < n) = false := by simp only [decide_eq_false_iff_not]; omega
        go_wp2
        go_ret
        obtain ⟨X', m, p, b⟩ := HE.out
        exact ⟨X', by rw [p]; rfl, m, b⟩
end Go.Proofs.YtgofjheoebabeaaGreat

namespace Go.Proofs.YtgofjheoebabeaaGreat
open Go.RowKit
set_option linter.unusedSimpArgs false
set_option linter.unusedVariables false

theorem accA_get (k : Led.Kt) (q : Nat) (h : q < 10) : (Led.accA k)[q]? = some (.int .i64 (k.n q)) := by
  have : q = 0 ∨ q = 1 ∨ q = 2 ∨ q = 3 ∨ q = 4 ∨ q = 5 ∨ q = 6 ∨ q = 7 ∨ q = 8 ∨ q = 9 := by omega
  rcases this with rfl | rfl | rfl | rfl | rfl | rfl | rfl | rfl | rfl | rfl <;> rfl
theorem doR_len {H : Hs} (hg : H.g ≤ 4) (who stamp : Int) (op : ByteArray) : (doR H who stamp op).2.2.l.length = H.l.length ∧ (doR H who stamp op).2.2.g = H.g ∧ (doR H who stamp op).2.2.ms.length = H.ms.length := by
  unfold doR
  split
  · next hr =>
    unfold reqR
    split
    · next o _ =>
      have := (deedR_dps hg who o).done (V := valR H who op) hr
      exact ⟨this.len, this.g, this.nms⟩
    · exact ⟨markR_len, rfl, rfl⟩
  · exact ⟨rfl, rfl, rfl⟩
theorem runsR_len {H : Hs} (hg : H.g ≤ 4) : ∀ l : List Rq, (runsR H l).l.length = H.l.length ∧ (runsR H l).g = H.g ∧ (runsR H l).ms.length = H.ms.length := by
  intro l
  unfold runsR
  induction l generalizing H with
  | nil => exact ⟨rfl, rfl, rfl⟩
  | cons a l ih =>
    have h1 := doR_len hg a.who a.stamp a.text
    have h2 := ih (H := stepR H a) (by unfold stepR; rw [h1.2.1]; exact hg)
    exact ⟨h2.1.trans h1.1, h2.2.1.trans h1.2.1, h2.2.2.trans h1.2.2⟩
theorem runs3 (l : List Rq) : (runsR h32 l).l.length = 3 ∧ (runsR h32 l).g = 2 ∧ (runsR h32 l).ms.length = 2 := by
  have h := runsR_len (H := h32) (by decide) l
  exact ⟨h.1.trans (by kernel_rfl), h.2.1.trans (by kernel_rfl), h.2.2.trans (by kernel_rfl)⟩
set_option maxRecDepth 100000 in
set_option maxHeartbeats 2000000 in
theorem sound_hs (v : Value) (ls : List Rq) (w : World) (hl : Rqs w v ls) (hz : ls.length * 88 ≤ 140737488351232) :
    Calls Tryz.prog 4 #[v] w fun e w' => e = .returned (.bool true) ∧ Below w.heap.size w w' := by
  have HB : Hid _ := begun_hs v ls w hl hz
  have HA : Hid _ := awake_calls
  have hlen := (runs3 (ls.take 60)).1
  generalize runsR h32 (ls.take 60) = H at *
  go_enter Tryz.func4, Tryz.ntmps4
  go_wp2_with fail
  refine Calls.mono HB.out ?_
  rintro e w1 ⟨X, rfl, m1, b1⟩
  clear HB hl hz
  have HT : Hid _ := totals_hs w1 m1.ha
  unfold Led.totV Led.gC at HT
  go_wp2_with fail
  refine Calls.mono HT.out ?_
  rintro e w2 ⟨rfl, b2⟩
  clear HT
  obtain ⟨W3, hW3, X3, B3⟩ : ∃ W3, (w2.alloc (.cells #[.int .i64 (Led.tot H.l 2), .int .i64 (Led.tot H.l 3), .int .i64 (Led.tot H.l 4), .int .i64 (Led.tot H.l 5)] 30)) = W3 ∧ Blk W3 w2.heap.size (Led.gC (Led.tot H.l)) 30 ∧ Below w2.heap.size w2 W3 := ⟨_, rfl, blk_new _ _ _ _ rfl, by go_grown⟩
  have L3 := (m1.below b2).below B3
  have z1 := b1.size
  have z2 := b2.size
  have z3 := B3.size
  have BB : Below w.heap.size w W3 := (b1.trans (b2.mono (by omega))).trans (B3.mono (by omega))
  have inv := L3.ha.lg.inv
  have t0 := inv.all 0 1 Led.part0
  have hd1 : decide (1099511627776 < Led.tot H.l 0) = false := decide_eq_false (by omega)
  have HI : Hid _ := inv
  have HL3 : Hid (Hm W3 w.heap.size X H) := L3
  clear inv m1 b1 b2 B3 L3
  go_wp2
  go_loopw [6] (fun i wr => ∃ k : Nat, k ≤ 3 ∧ i = .int .i64 k ∧ Hid (Hm wr w.heap.size X H) ∧ Blk wr w2.heap.size (Led.gC (Led.tot H.l)) 30 ∧ Below w.heap.size w wr) (fun i _ => 3 - (intOf i).toNat)
  case atStart => exact ⟨0, by omega, rfl, HL3, X3, BB⟩
  case round =>
    clear HL3 BB
    obtain ⟨k, hk, rfl, Lr, Xr, br⟩ := hrel
    by_cases hlt : k < 3
    · have hd : decide ((k : Int) < 3) = true := by simp only [decide_eq_true_eq]; omega
      have hac := account_hs wr Lr.out.ha k (by omega) (by omega)
      rw [Int.toNat_natCast] at hac
      have hi0 := HI.out.held k (by omega) 0 1 Led.part0
      have HH : Hid (∀ q, q < 4 → 0 ≤ (Led.kAt H.l k).n (6 + q) ∧ (Led.kAt H.l k).n (6 + q) ≤ (Led.kAt H.l k).n (2 + q) ∧ Led.tot H.l (2 + q) ≤ 1099511627776) := fun q hq => by
        have h1 := HI.out.held k (by omega) _ _ (partGd hq)
        have h2 := HI.out.all _ _ (partGd hq)
        exact ⟨h1.1, h1.2, h2⟩
      have HG : Hid (∀ q, q < 10 → (Led.accA (Led.kAt H.l k))[q]? = some (.int .i64 ((Led.kAt H.l k).n q))) := fun q hq => accA_get _ q hq
      generalize Led.kAt H.l k = ka at *
      have HAC : Hid _ := hac
      clear hac
      unfold Led.accV at HAC
      have hA : Led.accA ka = #[.int .i64 (ka.n 0), .int .i64 (ka.n 1), .int .i64 (ka.n 2), .int .i64 (ka.n 3), .int .i64 (ka.n 4), .int .i64 (ka.n 5), .int .i64 (ka.n 6), .int .i64 (ka.n 7), .int .i64 (ka.n 8), .int .i64 (ka.n 9)] := rfl
      have HAA : Hid _ := hA
      rw [hA] at HAC
      clear hA
      go_wp2_with fail
      refine Calls.mono HAC.out ?_
      rintro e w4 ⟨rfl, b4⟩
      clear HAC
      obtain ⟨W5, hW5, X5, B5⟩ : ∃ W5, (w4.alloc (.cells #[.int .i64 (ka.n 0), .int .i64 (ka.n 1), .int .i64 (ka.n 2), .int .i64 (ka.n 3), .int .i64 (ka.n 4), .int .i64 (ka.n 5), .int .i64 (ka.n 6), .int .i64 (ka.n 7), .int .i64 (ka.n 8), .int .i64 (ka.n 9)] 42)) = W5 ∧ Blk W5 w4.heap.size (Led.accA ka) 42 ∧ Below w4.heap.size w4 W5 := ⟨_, rfl, blk_new _ _ _ _ rfl, by go_grown⟩
      have c0 : W5.cell? ⟨w4.heap.size, 0, none⟩ = some (.int .i64 (ka.n 0)) := X5.cell rfl
      have c1 : W5.cell? ⟨w4.heap.size, 1, none⟩ = some (.int .i64 (ka.n 1)) := X5.cell rfl
      have L5 : Hid (Hm W5 w.heap.size X H) := (Lr.out.below b4).below B5
      have Y5 := (Xr.below b4).below B5
      have q4 := b4.size
      have q5 := B5.size
      have zr := br.size
      have BW : Below w.heap.size w W5 := (br.trans (b4.mono (by omega))).trans (B5.mono (by omega))
      have e0 : decide (ka.n 1 < 0) = false := decide_eq_false (by omega)
      have e1 : decide (ka.n 0 < ka.n 1) = false := decide_eq_false (by omega)
      clear B5 b4 br Lr Xr
      go_wp2
      rename World => wq
      go_loopw [9] (fun i wr => ∃ j : Nat, j ≤ 4 ∧ i = .int .i64 j ∧ Hid (Hm wr w.heap.size X H) ∧ Blk wr w2.heap.size (Led.gC (Led.tot H.l)) 30 ∧ Blk wr w4.heap.size (Led.accA ka) 42 ∧ Below w.heap.size w wr) (fun i _ => 4 - (intOf i).toNat)
      case atStart => exact ⟨0, by omega, rfl, L5, Y5, X5, BW⟩
      case round =>
        obtain ⟨j, hj, rfl, Lq, Yq, Xq, bq⟩ := hrel
        by_cases hjt : j < 4
        · have hdj : decide ((j : Int) < 4) = true := by simp only [decide_eq_true_eq]; omega
          obtain ⟨f1, f2, f3⟩ := HH.out j hjt
          have g1 := Xq.cell (HG.out (6 + j) (by omega))
          have g2 := Xq.cell (HG.out (2 + j) (by omega))
          have g3 := Yq.cell (Led.gC_get (Led.tot H.l) j hjt)
          have i1 : decide (ka.n (6 + j) < 0) = false := decide_eq_false (by omega)
          have i2 : decide (ka.n (2 + j) < ka.n (6 + j)) = false := decide_eq_false (by omega)
          have i3 : decide (1099511627776 < Led.tot H.l (2 + j)) = false := decide_eq_false (by omega)
          generalize ka.n (6 + j) = x at *
          generalize Led.tot H.l (2 + j) = t at *
          generalize ka.n (2 + j) = y at *
          go_wp2
          go_quiet (fail)
          go_wp2
          refine ⟨⟨j + 1, by omega, by norm_cast, ?_⟩, ?_⟩
          · exact ⟨Lq.out.below (Led.drewN_below _ _ _), Yq.below (Led.drewN_below _ _ _), Xq.below (Led.drewN_below _ _ _), bq.trans (Led.drewN_below _ _ _)⟩
          · simp [intOf]; omega
        · have hdj : decide ((j : Int) < 4) = false := by simp only [decide_eq_false_iff_not]; omega
          go_wp2
          refine ⟨⟨k + 1, by omega, by norm_cast, Lq, Yq, bq⟩, ?_⟩
          simp [intOf]; omega
    · have hd : decide ((k : Int) < 3) = false := by simp only [decide_eq_false_iff_not]; omega
      go_wp2_with fail
      refine (HA.out _).mono ?_
      rintro e w6 ⟨rfl, b6⟩
      go_wp2
      go_ret
      exact ⟨rfl, br.trans (b6.mono br.size)⟩
end Go.Proofs.YtgofjheoebabeaaGreat

namespace Go.Proofs.YtgofjheoebabeaaGreat
open Go.RowKit
set_option linter.unusedSimpArgs false
set_option linter.unusedVariables false

theorem ofNat_zero {n : Nat} (h : n < 256) : UInt8.ofNat n = 0 ↔ n = 0 := by
  constructor
  · intro e
    have := congrArg UInt8.toNat e
    simpa [Nat.mod_eq_of_lt h] using this
  · intro e; subst e; rfl
theorem enc_head {n : Nat} : ∃ (b : UInt8) (r : List UInt8), enc n = b :: r ∧ (b = 0 ↔ n = 0) := by
  unfold enc encF
  split
  · next h => exact ⟨_, _, rfl, ofNat_zero (by omega)⟩
  · next h => exact ⟨_, _, rfl, (ofNat_zero (by omega)).trans ⟨fun e => by omega, fun e => by omega⟩⟩
theorem layR_head {c V : Int} (hc : 0 ≤ c) : ∃ (b : UInt8) (r : List UInt8), layR c V = ⟨(b :: r).toArray⟩ ∧ (b = 0 ↔ c = 0) := by
  obtain ⟨b, r, h1, h2⟩ := enc_head (n := c.toNat)
  refine ⟨b, r ++ enc V.toNat, ?_, h2.trans ⟨fun e => by omega, fun e => by omega⟩⟩
  unfold layR
  rw [h1]
  apply ByteArray.ext
  simp [ByteArray.data_append]
theorem doR_rps {H : Hs} (hg : H.g ≤ 4) {who stamp : Int} {op : ByteArray} (hr : refR H.l who stamp = 0) {o : Oo} (ho : ofOpR op = .ok o) : Rps H (doR H who stamp op).2.2 (reqR H who op).1 o := by
  unfold doR
  rw [if_pos hr]
  have e : reqR H who op = deedR H who o := by unfold reqR; rw [ho]
  have h := (deedR_dps hg who o).done (V := valR H who op) hr
  rw [e]
  exact h
theorem doR_now {H : Hs} (hg : H.g ≤ 4) (who stamp : Int) (op : ByteArray) : (doR H who stamp op).2.2.now = H.now ∨ (doR H who stamp op).2.2.now = H.now + 1 := by
  by_cases hr : refR H.l who stamp = 0
  · cases ho : ofOpR op with
    | ok o =>
      rw [(doR_rps hg hr ho).now]
      split
      · exact Or.inr rfl
      · exact Or.inl rfl
    | error e =>
      unfold doR
      rw [if_pos hr]
      unfold reqR
      rw [ho]
      exact Or.inl rfl
  · unfold doR
    rw [if_neg hr]
    exact Or.inl rfl
theorem runsR_now {H : Hs} (hg : H.g ≤ 4) : ∀ l : List Rq, H.now ≤ (runsR H l).now ∧ (runsR H l).now ≤ H.now + l.length := by
  intro l
  unfold runsR
  induction l generalizing H with
  | nil => exact ⟨Int.le_refl _, by simp⟩
  | cons a l ih =>
    have h1 := doR_len hg a.who a.stamp a.text
    have h2 := ih (H := stepR H a) (by unfold stepR; rw [h1.2.1]; exact hg)
    have h3 := doR_now hg a.who a.stamp a.text
    have h4 : (stepR H a).now = (doR H a.who a.stamp a.text).2.2.now := rfl
    rw [h4] at h2
    simp only [List.foldl_cons, List.length_cons]
    rcases h3 with h3 | h3 <;> rw [h3] at h2 <;> omega

theorem cutR_ms (H : Hs) (i who : Nat) (held : Int) : (cutR H i who held).ms = H.ms := by
  unfold cutR; split <;> rfl
theorem cutN_ms (H : Hs) (i : Nat) (hd : Nat → Int) : ∀ k, (cutN H i hd k).ms = H.ms
  | 0 => rfl
  | k + 1 => (cutR_ms _ _ _ _).trans (cutN_ms H i hd k)
theorem endR_ms (H : Hs) (i : Nat) : (endR H i).ms = H.ms := by
  unfold endR
  split
  · split
    · rfl
    · exact cutN_ms _ _ _ _
  · rfl
theorem tick1_ms (H : Hs) (i : Nat) : (tick1 endR H i).ms = H.ms.set i (H.book i).clr := by
  unfold tick1
  split
  · exact endR_ms _ _
  · rfl
theorem tickN_book (H : Hs) : ∀ k, k ≤ H.ms.length → (tickN endR H k).ms.length = H.ms.length ∧ ∀ i, i < H.ms.length → (tickN endR H k).book i = if i < k then (H.book i).clr else H.book i
  | 0, _ => ⟨rfl, fun i hi => rfl⟩
  | k + 1, hk => by
    obtain ⟨h1, h2⟩ := tickN_book H k (by omega)
    rw [tickN_succ]
    refine ⟨by rw [tick1_ms, List.length_set]; exact h1, fun i hi => ?_⟩
    have e : (tick1 endR (tickN endR H k) k).book i = (((tickN endR H k).ms.set k ((tickN endR H k).book k).clr)[i]?).getD ⟨1, []⟩ := by
      unfold Hs.book; rw [tick1_ms]; rfl
    rw [e, List.getElem?_set]
    by_cases hki : k = i
    · subst hki
      rw [if_pos rfl, if_pos (by omega), if_pos (by omega), h2 k hi, if_neg (by omega)]
      rfl
    · rw [if_neg hki]
      have := h2 i hi
      unfold Hs.book at this ⊢
      rw [this]
      by_cases hlt : i < k
      · rw [if_pos hlt, if_pos (by omega)]
      · rw [if_neg hlt, if_neg (by omega)]
/-- A tick that is done. -/
theorem tick_done {H : Hs} (hg : H.g ≤ H.ms.length) (hn : H.now ≠ 9007199254740992) : (tickR endR H).1 = 0 ∧ ∀ i, i < H.g → (tickR endR H).2.book i = (H.book i).clr := by
  unfold tickR
  rw [if_neg hn]
  refine ⟨rfl, fun i hi => ?_⟩
  have := (tickN_book { H with now := H.now + 1 } H.g hg).2 i (by show i < H.ms.length; omega)
  rw [if_pos hi] at this
  exact this
end Go.Proofs.YtgofjheoebabeaaGreat
