/- The document's Cross; when fills and orders are the same. -/
import Derived.Test.YtglbfeccdibmiaaCaRi
import Derived.Test.YtglbfeccdibmiaaCaG
import Derived.ChangeKeysEq
namespace Go.Proofs.Ytglbfeccdibmiaa
open Go.Shelf Go.RowKit Go.Lib Go.Sort
set_option linter.unusedSimpArgs false
set_option linter.unusedVariables false

/-- What is kept behind k orders. -/
def cS (l : List Od) (k : Nat) : Int × Int := ((l.take k).filter mayB).foldl (crS (l.filter mayB)) (0, 0)
theorem cS_succ {l : List Od} {k : Nat} {o : Od} (h : l[k]? = some o) : cS l (k + 1) = if mayB o = true then crS (l.filter mayB) (cS l k) o else cS l k := by
  unfold cS
  rw [List.take_add_one, h]
  simp only [Option.toList_some, List.filter_append, List.foldl_append]
  cases hm : mayB o
  · rw [List.filter_cons_of_neg (by rw [hm]; simp)]; simp
  · rw [List.filter_cons_of_pos hm]; simp
theorem cS_ok (l : List Od) (hn : l.length ≤ 64) : ∀ k, k ≤ l.length → 0 ≤ (cS l k).2 ∧ ((cS l k).2 = 0 → (cS l k).1 = 0)
  | 0, _ => ⟨by simp [cS], fun _ => by simp [cS]⟩
  | k + 1, hk => by
    have ih := cS_ok l hn k (by omega)
    have ho : l[k]? = some l[k] := List.getElem?_eq_getElem (by omega)
    rw [cS_succ ho]
    split
    · rename_i hm
      have ht := trd_nn (J := l.filter mayB) (fun o ho => (List.mem_filter.1 ho).2) (l[k]).pr
      have hp := may_pr hm
      unfold crS
      split
      · rename_i hc
        refine ⟨ht, fun h0 => ?_⟩
        have h0' : trd (l.filter mayB) (l[k]).pr = 0 := h0
        rcases hc with hc | hc
        · omega
        · have := ih.2 (by omega)
          show (l[k]).pr = 0
          omega
      · exact ih
    · exact ih
theorem crs_cS (l : List Od) (hn : l.length ≤ 64) : crs l = cS l l.length := by
  unfold crs cS jdg
  rw [if_neg (by omega), List.take_length]
theorem crs_long (l : List Od) (hn : 64 < l.length) : crs l = (0, 0) := by
  unfold crs jdg
  rw [if_pos hn]
  rfl
set_option maxHeartbeats 8000000 in
set_option maxRecDepth 100000 in
theorem refCross_calls (v : Value) (l : List Od) (w : World) (hl : Ods w v l) : Calls Try.prog 32 #[v] w fun e w' => e = .returned (.tuple #[.int .i64 (crs l).1, .int .i64 (crs l).2]) ∧ Below w.heap.size w w' := by
  have HL : Hid _ := hl
  obtain ⟨pp, cap, rfl, hc⟩ := hl
  have HC : Hid _ := hc
  clear hc
  by_cases hn : 64 < l.length
  · have d0 : decide ((64 : Int) < (l.length : Int)) = true := decide_eq_true (by omega)
    rw [crs_long l hn]
    clear hn
    go_enter Try.func32, Try.ntmps32
    go_wp2
    go_ret2
    exact ⟨rfl, Below.refl _ _⟩
  have d0 : decide ((64 : Int) < (l.length : Int)) = false := decide_eq_false (by omega)
  have hn6 : l.length ≤ 64 := by omega
  have HOK : Hid _ := cS_ok l hn6
  have HCE : Hid _ := crs_cS l hn6
  clear hn
  go_enter Try.func32, Try.ntmps32
  go_wp2
  go_loopw [4, 5, 6] (fun pv mv iv wr => ∃ (k : Nat) (p m : Int), k ≤ l.length ∧ iv = .int .i64 k ∧ pv = .int .i64 p ∧ mv = .int .i64 m ∧ Hid (cS l k = (p, m)) ∧ Hid (Below w.heap.size w wr)) (fun _ _ iv _ => l.length - (intOf iv).toNat)
  case atStart => exact ⟨0, 0, 0, Nat.zero_le _, rfl, rfl, rfl, (by show cS l 0 = _; simp [cS]), Below.refl _ _⟩
  case round =>
    obtain ⟨k, p, m, hk, rfl, rfl, rfl, HS, HB⟩ := hrel
    by_cases hlt : k < l.length
    · have hkl : (k : Int) < (l.length : Int) := by omega
      obtain ⟨o, ho⟩ : ∃ o, l[k]? = some o := ⟨l[k], by simp [hlt]⟩
      rcases HC.out with hnil | ⟨gb, off, hp, hcs⟩
      · exfalso; rw [hnil] at hlt; simp at hlt
      subst hp
      obtain ⟨c0, c1, c2, c3, c4, c5⟩ := Ods.six hcs ho
      have hbl : gb < w.heap.size := World.block_lt_of_cell? w _ c0
      have hb := HB.out
      have hz := hb.size
      have d0_ := (hb.cell (p := ⟨gb, off + k * 6, none⟩) hbl).trans c0
      have d1_ := (hb.cell (p := ⟨gb, off + k * 6 + 1, none⟩) hbl).trans c1
      have d2_ := (hb.cell (p := ⟨gb, off + k * 6 + 2, none⟩) hbl).trans c2
      have d3_ := (hb.cell (p := ⟨gb, off + k * 6 + 3, none⟩) hbl).trans c3
      have d4_ := (hb.cell (p := ⟨gb, off + k * 6 + 4, none⟩) hbl).trans c4
      have d5_ := (hb.cell (p := ⟨gb, off + k * 6 + 5, none⟩) hbl).trans c5
      have hsu := cS_succ ho
      have hok := HOK.out k hk
      rw [HS.out] at hsu hok
      have HR : Hid (Calls Try.prog 25 #[.agg #[.int .i64 o.id, .int .i64 o.own, .int .i64 o.pr, .int .i64 o.am, .int .i64 o.pl, .bool o.by]] wr fun e w' => e = .returned (.bool (mayB o)) ∧ Gr wr w') := right_calls o wr
      clear c0 c1 c2 c3 c4 c5 hcs hb
      cases hmb : mayB o
      · rw [hmb] at HR
        rw [if_neg (by rw [hmb]; simp)] at hsu
        have HSU : Hid _ := hsu
        clear hmb hsu
        go_wp2_with fail
        refine Calls.mono HR.out ?_
        rintro e w2 ⟨rfl, g2⟩
        go_wp2
        exact ⟨⟨k + 1, p, m, by omega, by norm_cast, rfl, rfl, HSU, Below.trans HB.out (g2.below.mono hz)⟩, by simp [intOf]; omega⟩
      · rw [hmb] at HR
        have hpr := may_pr hmb
        have htn := trd_nn (J := l.filter mayB) (fun o ho => (List.mem_filter.1 ho).2) o.pr
        rw [if_pos hmb] at hsu
        unfold crS at hsu
        have HTR : Hid (∀ wx, Below w.heap.size w wx → Calls Try.prog 48 #[.slice (some ⟨gb, off, none⟩) l.length cap, .int .i64 o.pr] wx fun e w' => e = .returned (.int .i64 (trd (l.filter mayB) o.pr)) ∧ Below wx.heap.size wx w') := fun wx hb => refTraded_calls _ l o.pr wx (Ods.below HL.out hb) hn6
        generalize trd (l.filter mayB) o.pr = t at *
        have HSU : Hid _ := hsu
        clear hmb hsu
        go_wp2_with fail
        refine Calls.mono HR.out ?_
        rintro e w2 ⟨rfl, g2⟩
        have HB2 : Hid (Below w.heap.size w w2) := Below.trans HB.out (g2.below.mono hz)
        have e2 : w2.cell? ⟨gb, off + k * 6 + 2, none⟩ = some (.int .i64 o.pr) := (g2.below.cell (p := ⟨gb, off + k * 6 + 2, none⟩) (by show gb < wr.heap.size; omega)).trans d2_
        go_wp2_with fail
        refine Calls.mono (HTR.out _ HB2.out) ?_
        rintro e w3 ⟨rfl, b3⟩
        have HB3 : Hid (Below w.heap.size w w3) := Below.trans HB2.out (b3.mono (Below.size HB2.out))
        have e3 : w3.cell? ⟨gb, off + k * 6 + 2, none⟩ = some (.int .i64 o.pr) := (b3.cell (p := ⟨gb, off + k * 6 + 2, none⟩) (World.block_lt_of_cell? _ _ e2)).trans e2
        clear d0_ d1_ d2_ d3_ d4_ d5_ e2 HR HTR g2 b3
        by_cases q1 : m < t
        · have a1 : decide (m < t) = true := decide_eq_true q1
          have HN : Hid (cS l (k + 1) = (o.pr, t)) := by have := HSU.out; rw [if_pos (Or.inl q1)] at this; exact this
          go_wp2
          exact ⟨⟨k + 1, o.pr, t, by omega, by norm_cast, rfl, rfl, HN, HB3⟩, by simp [intOf]; omega⟩
        · have a1 : decide (m < t) = false := decide_eq_false q1
          by_cases q2 : t = m
          · have a2 : (t == m) = true := by simpa using q2
            have a2' : decide (t = m) = true := a2
            by_cases q3 : 0 < t
            · have a3 : decide (0 < t) = true := decide_eq_true q3
              by_cases q4 : o.pr < p
              · have a4 : decide (o.pr < p) = true := decide_eq_true q4
                have HN : Hid (cS l (k + 1) = (o.pr, t)) := by have := HSU.out; rw [if_pos (Or.inr ⟨q2, q4⟩)] at this; exact this
                clear q2
                go_wp2
                exact ⟨⟨k + 1, o.pr, t, by omega, by norm_cast, rfl, rfl, HN, HB3⟩, by simp [intOf]; omega⟩
              · have a4 : decide (o.pr < p) = false := decide_eq_false q4
                have HN : Hid (cS l (k + 1) = (p, m)) := by have := HSU.out; rw [if_neg (fun h => by rcases h with h | h; exact q1 h; exact q4 h.2)] at this; exact this
                clear q2
                go_wp2
                exact ⟨⟨k + 1, p, m, by omega, by norm_cast, rfl, rfl, HN, HB3⟩, by simp [intOf]; omega⟩
            · have a3 : decide (0 < t) = false := decide_eq_false q3
              have HN : Hid (cS l (k + 1) = (p, m)) := by have := HSU.out; rw [if_neg (fun h => by rcases h with h | h; exact q1 h; have := hok.2 (show m = 0 by omega); have h2 : o.pr < p := h.2; have h3 : p = 0 := this; omega)] at this; exact this
              clear q2
              go_wp2
              exact ⟨⟨k + 1, p, m, by omega, by norm_cast, rfl, rfl, HN, HB3⟩, by simp [intOf]; omega⟩
          · have a2 : (t == m) = false := by simpa using q2
            have a2' : decide (t = m) = false := a2
            have HN : Hid (cS l (k + 1) = (p, m)) := by have := HSU.out; rw [if_neg (fun h => by rcases h with h | h; exact q1 h; exact q2 h.1)] at this; exact this
            go_wp2
            exact ⟨⟨k + 1, p, m, by omega, by norm_cast, rfl, rfl, HN, HB3⟩, by simp [intOf]; omega⟩
    · have hkl : ¬ (k : Int) < (l.length : Int) := by omega
      have hf : crs l = (p, m) := by rw [HCE.out, show l.length = k by omega]; exact HS.out
      have HF : Hid _ := hf
      clear hf
      go_wp2
      go_ret2
      exact ⟨by rw [HF.out]; rfl, HB.out⟩
end Go.Proofs.Ytglbfeccdibmiaa
