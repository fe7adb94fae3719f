/- What the kept proofs are; the lists of messages that may be spoilt; spoilt. -/
import Derived.Test.YtjpmnmgnbpecjaaVlKv
import Derived.Test.YtjpmnmgnbpecjaaVlSm
namespace Go.Proofs.Ytjpmnmgnbpecjaa
open Go.Shelf Go.RowKit Go.Lib Go.Sort
set_option linter.unusedSimpArgs false
set_option linter.unusedVariables false

theorem kept_le (L : Lv) : L.kept.length ≤ 8 := by
  have := List.length_filter_le (fun s : Slot => decide (0 < s.fs)) ((List.range 8).map fun (i : Nat) => L.sl (pla (L.lo + 1 + (i : Int))))
  simpa [Lv.kept] using this
theorem runs_n (l : List Ac) : ∀ (L : Lv), LInv L → Fl L → (runs L l).n = L.n := by
  induction l with
  | nil => intro L _ _; rfl
  | cons a l ih =>
    intro L hi hf
    have := act_ok hi hf a
    show (runs (L.act a).1 l).n = L.n
    rw [ih _ this.1 this.2.1]
    exact this.2.2
theorem keptV_row {w : World} {base : Nat} {v : Value} {ks : List (Slot × Value)} (h2 : w.ownsRow base 34 8 v ks.length (kbL ks)) : KRow w v ks := by
  obtain ⟨a, cap, e⟩ := own_form h2
  refine ⟨a, cap, e, fun i x hx => ?_⟩
  have hi : i < ks.length := (List.getElem?_eq_some_iff.1 hx).1
  rcases h2.2 with ⟨_, k2⟩ | ⟨g, cap', cur, k1, k2, k3, k4, k5, k6, k7⟩
  · omega
  · rw [e] at k1
    injection k1 with q1 q2 q3
    refine ⟨g, cur, q1, k3, fun j u hu => ?_⟩
    have hj : j < 8 := (List.getElem?_eq_some_iff.1 hu).1
    have e2 := kbL_get ks i j x u hx hu
    rw [← k7, List.getElem?_take, if_pos (by omega)] at e2
    simpa using e2
theorem wi_at (L : Lv) {i : Nat} (hi : i < 8) : L.wi (L.lo + 1 + (i : Int)) = true := by unfold Lv.wi; simp; omega
/-- A proof that is kept. -/
theorem kept_is {S : ByteArray → Prop} {L : Lv} (h : KInv S L) {k : Nat} {s : Slot} (hs : L.kept[k]? = some s) : (L.lo < s.fs ∧ s.fs ≤ L.lo + 8) ∧ s.fk = 11 ∧ s.fv ≤ L.vw ∧ ¬ s.fd = ⟨#[]⟩ ∧ s.fl.length = quo L.n ∧ s.fl.Pairwise (fun x y => x.1 < y.1) ∧ ∀ m ∈ s.fl, 0 ≤ m.1 ∧ m.1 < L.n ∧ S m.2.1 := by
  have hm := List.mem_of_getElem? hs
  unfold Lv.kept at hm
  rw [List.mem_filter, List.mem_map] at hm
  obtain ⟨⟨i, hi, e⟩, hf⟩ := hm
  have hi8 : i < 8 := by simpa using hi
  have hf2 : 0 < s.fs := by simpa using hf
  have hk := h _ (pla_lt (L.lo + 1 + (i : Int)))
  rw [e, num_pla (wi_at L hi8)] at hk
  obtain ⟨h1, h2⟩ := hk.pf hf2
  exact ⟨⟨by omega, by omega⟩, h2⟩
/-- They rise by their numbers. -/
theorem kept_rise {S : ByteArray → Prop} {L : Lv} (h : KInv S L) {k : Nat} {s t : Slot} (hs : L.kept[k]? = some s) (ht : L.kept[k + 1]? = some t) : s.fs < t.fs := by
  have P : ((List.range 8).map fun (i : Nat) => L.sl (pla (L.lo + 1 + (i : Int)))).Pairwise (fun x y => 0 < x.fs → 0 < y.fs → x.fs < y.fs) := by
    rw [List.pairwise_map]
    refine List.Pairwise.imp_of_mem (fun {a b} ha hb hab h1 h2 => ?_) (List.pairwise_lt_range (n := 8))
    have ha8 : a < 8 := by simpa using ha
    have hb8 : b < 8 := by simpa using hb
    have e1 := ((h _ (pla_lt (L.lo + 1 + (a : Int)))).pf h1).1
    have e2 := ((h _ (pla_lt (L.lo + 1 + (b : Int)))).pf h2).1
    rw [num_pla (wi_at L ha8)] at e1
    rw [num_pla (wi_at L hb8)] at e2
    omega
  have Q := P.filter (fun s => decide (0 < s.fs))
  have e : ((List.range 8).map fun (i : Nat) => L.sl (pla (L.lo + 1 + (i : Int)))).filter (fun s => decide (0 < s.fs)) = L.kept := rfl
  rw [e, List.pairwise_iff_getElem] at Q
  obtain ⟨i1, j1⟩ := List.getElem?_eq_some_iff.1 hs
  obtain ⟨i2, j2⟩ := List.getElem?_eq_some_iff.1 ht
  have := Q k (k + 1) i1 i2 (by omega)
  rw [j1, j2] at this
  have f1 : 0 < s.fs := by have := List.mem_of_getElem? hs; unfold Lv.kept at this; rw [List.mem_filter] at this; simpa using this.2
  have f2 : 0 < t.fs := by have := List.mem_of_getElem? ht; unfold Lv.kept at this; rw [List.mem_filter] at this; simpa using this.2
  exact this f1 f2
/-- A list of messages of which only the senders count. -/
def LFr (w : World) (B : Nat) (lv : Value) (fl : List Sgn) : Prop := ∃ g cap cs, lv = .slice (some ⟨g, 0, none⟩) fl.length cap ∧ B ≤ g ∧ Blk w g cs 38 ∧ (∀ j m, fl[j]? = some m → cs[j * 3]? = some (.int .i64 m.1)) ∧ ∃ t, cs[1]? = some (.string t)
theorem Sgr.lfr {w : World} {B : Nat} {lv : Value} {fl : List Sgn} (h : Sgr w B lv fl) (hn : 0 < fl.length) : LFr w B lv fl := by
  rcases h with ⟨_, h2⟩ | ⟨g, cap, cs, h1, h2, h3, h4, h5, h6⟩
  · rw [h2] at hn; simp at hn
  · have hc : ∀ k m j u, fl[k]? = some m → (sC m)[j]? = some u → cs[k * 3 + j]? = some u := fun k m j u hm hu => by
      have hk : k < fl.length := (List.getElem?_eq_some_iff.1 hm).1
      have hj : j < 3 := by have := (List.getElem?_eq_some_iff.1 hu).1; rw [sC_len] at this; exact this
      have e := sL_get fl k j m u hm hu
      rw [← h6, List.getElem?_take, if_pos (by omega)] at e
      simpa using e
    refine ⟨g, cap, cs, h1, h4, h5, fun j m hm => hc j m 0 _ hm rfl, ?_⟩
    obtain ⟨m, hm⟩ : ∃ m, fl[0]? = some m := ⟨_, List.getElem?_eq_getElem hn⟩
    exact ⟨m.2.1, hc 0 m 1 _ hm rfl⟩
theorem LFr.below {w w' : World} {B : Nat} {lv : Value} {fl : List Sgn} (h : LFr w B lv fl) (hb : Below w.heap.size w w') : LFr w' B lv fl := by
  obtain ⟨g, cap, cs, h1, h2, h3, h4⟩ := h
  exact ⟨g, cap, cs, h1, h2, h3.below hb, h4⟩
theorem LFr.spoil {w : World} {B : Nat} {lv : Value} {fl : List Sgn} (h : LFr w B lv fl) (g' : Nat) (u : ByteArray) : LFr (w.setCell ⟨g', 1, none⟩ (.string u)) B lv fl := by
  obtain ⟨g, cap, cs, h1, h2, h3, h4, t, h5⟩ := h
  have hs : 1 < cs.size := by
    have := (Array.getElem?_eq_some_iff.1 h5).1
    exact this
  by_cases e : g = g'
  · subst e
    refine ⟨g, cap, _, h1, h2, h3.set 1 _, fun j m hm => ?_, u, ?_⟩
    · rw [set_at _ hs, if_neg (by omega)]
      exact h4 j m hm
    · rw [set_at _ hs, if_pos rfl]
  · exact ⟨g, cap, cs, h1, h2, (heap_setCell_other _ _ _ _ (by show g ≠ g'; exact e)).trans h3, h4, t, h5⟩
theorem KRow.below {w w' : World} {kv : Value} {ks : List (Slot × Value)} (h : KRow w kv ks) (hb : Below w.heap.size w w') : KRow w' kv ks := by
  obtain ⟨a, cap, e, h2⟩ := h
  refine ⟨a, cap, e, fun i x hx => ?_⟩
  obtain ⟨g, cs, q1, q2, q3⟩ := h2 i x hx
  exact ⟨g, cs, q1, q2.below hb, q3⟩
theorem KRow.spoil {w : World} {kv : Value} {ks : List (Slot × Value)} (h : KRow w kv ks) {g' : Nat} {cs' : Array Value} (X : Blk w g' cs' 38) (u : Value) : KRow (w.setCell ⟨g', 1, none⟩ u) kv ks := by
  obtain ⟨a, cap, e, h2⟩ := h
  refine ⟨a, cap, e, fun i x hx => ?_⟩
  obtain ⟨g, cs, q1, q2, q3⟩ := h2 i x hx
  exact ⟨g, cs, q1, (heap_setCell_other _ _ _ _ (by show g ≠ g'; exact blk_unlike q2 X (by decide))).trans q2, q3⟩
def tSp : ByteArray := ⟨#[115, 112, 111, 105, 108, 116]⟩
theorem spo_no {T : ByteArray} (h : ¬ T = tSp) : (T.toList == [115, 112, 111, 105, 108, 116]) = false := by
  have e : tSp.toList = [115, 112, 111, 105, 108, 116] := by unfold tSp; rw [ByteArray.toList_eq]
  rw [← e]
  exact (bne_text h).1
set_option maxHeartbeats 4000000 in
set_option maxRecDepth 100000 in
theorem spoilt_calls (v : Value) (l : List Ac) (w w0 : World) (hl : Acs w0 v l) (h0 : Below w0.heap.size w0 w) (hz : l.length * 64 ≤ 140737488351232) (hs : ∃ a ∈ l, a.tx = tSp) : Calls Try.prog 19 #[v] w fun e w' => e = .returned (.bool true) ∧ w' = w := by
  obtain ⟨a, cap, rfl, hc⟩ := hl.any
  have HC : Hid _ := hc
  have HS : Hid _ := hs
  clear hl hc hs
  go_enter Try.func19, Try.ntmps19
  go_wp2
  go_loopw [3] (fun i wr => ∃ k : Nat, k ≤ l.length ∧ i = .int .i64 k ∧ wr = w ∧ Hid (∀ j x, j < k → l[j]? = some x → ¬ x.tx = tSp)) (fun i _ => l.length - (intOf i).toNat)
  case atStart => exact ⟨0, Nat.zero_le _, rfl, rfl, fun j x hj => by omega⟩
  case round =>
    obtain ⟨k, hk, rfl, rfl, HN⟩ := hrel
    by_cases hlt : k < l.length
    · have hd : decide ((k : Int) < l.length) = true := by simp only [decide_eq_true_eq]; omega
      have hki : (k : Int) < l.length := by omega
      obtain ⟨g, off, hga, _, hg, hcel, hfit⟩ := HC.out k hlt
      subst hga
      have e5 : wr.cell? ⟨g, off + k * 6 + 5, none⟩ = some (.string l[k].tx) := (h0.cell (p := ⟨g, off + k * 6 + 5, none⟩) hg).trans (hcel 5 _ rfl)
      have hk2 : l[k]? = some l[k] := List.getElem?_eq_getElem hlt
      have HK : Hid _ := hk2
      clear hcel hfit hk2
      by_cases ht : l[k].tx = tSp
      · rw [ht] at e5
        unfold tSp at e5
        clear ht HK HN HS
        go_wp2
        go_ret
        exact ⟨by simp, rfl⟩
      · have f1 := spo_no ht
        have HT : Hid (∀ x, l[k]? = some x → ¬ x.tx = tSp) := fun x hx => by
          rw [HK.out] at hx
          cases hx
          exact ht
        generalize l[k].tx = T at *
        clear ht
        go_wp2
        refine ⟨⟨k + 1, by omega, by norm_cast, trivial, fun j x hj hx => ?_⟩, by simp [intOf]; omega⟩
        by_cases e : j < k
        · exact HN.out j x e hx
        · have : j = k := by omega
          subst this
          exact HT.out x hx
    · exfalso
      obtain ⟨a, ha, hat⟩ := HS.out
      obtain ⟨j, hj⟩ := List.getElem?_of_mem ha
      exact HN.out j a (by have := (List.getElem?_eq_some_iff.1 hj).1; omega) hj hat
end Go.Proofs.Ytjpmnmgnbpecjaa
