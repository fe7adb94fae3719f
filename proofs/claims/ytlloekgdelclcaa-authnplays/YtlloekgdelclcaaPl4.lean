/- AuthnPlays for every script: what it answers. -/
import Derived.Test.YtlloekgdelclcaaPl3
namespace Go.Proofs.Ytlloekgdelclcaa
open Go.RowKit
set_option linter.unusedSimpArgs false
set_option linter.unusedVariables false
variable {p b x y base r : Nat} {T T' : List ByteArray} {S S' : List (Int × ByteArray)}

theorem step_calls (a : Ac) (w : World) (h : Both w base p b x y r T S) (hT : T.length < 999999) (hS : S.length < 999999) (ha : a.fit) (hbase : base ≤ w.heap.size) :
    Calls Try.prog 5 #[.pointer (some ⟨p, 0, none⟩), .pointer (some ⟨r, 0, none⟩), .agg #[.int .i64 a.kind, .int .i64 a.who, .string a.text, .string a.sig]] w fun e w' => e = .returned (.bool true) ∧ Stepped w base p b x y r T S w' := by
  have hb := rnd_bounds a.kind 4 (by decide) (by decide)
  have hc : rnd a.kind 4 = 0 ∨ rnd a.kind 4 = 1 ∨ rnd a.kind 4 = 2 ∨ rnd a.kind 4 = 3 := by omega
  rcases hc with hq | hq | hq | hq
  · exact step_digest a.kind a.who a.text a.sig w h hT hS ha.1 hbase hq
  · exact step_sign a.kind a.who a.text a.sig w h hT hS ha.1 hbase hq
  · exact step_check a.kind a.who a.text a.sig w h hT hS ha.1 hbase hq
  · exact step_issued a.kind a.who a.text a.sig w h hT hS ha.1 hbase hq

set_option maxHeartbeats 2000000 in
set_option maxRecDepth 100000 in
theorem plays_calls (v : Value) (l : List Ac) (w : World) (hl : Acs w v l) (hz : l.length * 48 ≤ 140737488351232) :
    Calls Try.prog 3 #[v] w fun e w' => e = .returned (.bool true) ∧ Below w.heap.size w w' := by
  have hnot : ∀ (x : Bool) (w : World), (Op.unary .not (.bool x)).run Try.prog w = .ok (.bool (!x)) w := fun _ _ => rfl
  have HN : Hid _ := newBook_calls
  have HA : Hid _ := awake_calls
  obtain ⟨a, c, rfl, hc⟩ := hl.any
  have HC : Hid _ := hc
  clear hl hc
  go_enter Try.func3, Try.ntmps3
  go_wp2_with fail
  refine (HN.out _).mono ?_
  rintro e w1 ⟨p, b, x, y, rfl, K1, b1, hp, hb, hx, hy⟩
  obtain ⟨W2, hW2⟩ : ∃ W2, w1.alloc (.cells #[.slice none 0 0, .slice none 0 0] 29) = W2 := ⟨_, rfl⟩
  have B2 : Below w1.heap.size w1 W2 := by rw [← hW2]; exact (Below.refl _ _).alloc (Nat.le_refl _) _
  have X2 : Blk W2 w1.heap.size #[.slice none 0 0, .slice none 0 0] 29 := by rw [← hW2]; exact blk_new _ _ _ _ rfl
  have HBo : Hid _ := (show Both W2 w.heap.size p b x y w1.heap.size [] [] from ⟨K1.below B2, ⟨_, _, ⟨X2, b1.size, World.ownsRow_nil _ _ _ _, World.ownsRow_nil _ _ _ _⟩⟩, hx, hy⟩)
  have hb2 : Below w.heap.size w W2 := b1.trans (B2.mono b1.size)
  have HB2 : Hid _ := hb2
  clear K1 B2 X2 hb2
  go_wp2_with fail
  go_loopw [5] (fun i wr => ∃ k : Nat, k ≤ l.length ∧ k ≤ 200 ∧ i = .int .i64 k ∧ Below w.heap.size w wr ∧ Hid (∃ T S, Both wr w.heap.size p b x y w1.heap.size T S ∧ T.length ≤ k ∧ S.length ≤ k)) (fun i _ => l.length - (intOf i).toNat)
  case atStart => exact ⟨0, Nat.zero_le _, by decide, rfl, HB2.out, ⟨_, _, HBo.out, Nat.le_refl _, Nat.le_refl _⟩⟩
  case round =>
    obtain ⟨k, hk, hk2, rfl, hbw, HT⟩ := hrel
    have hzw := hbw.size
    by_cases hlt : k < l.length
    · have hd : decide ((k : Int) < (l.length : Int)) = true := by simp only [decide_eq_true_eq]; omega
      by_cases h200 : k < 200
      · have hd2 : decide ((k : Int) < 200) = true := by simp only [decide_eq_true_eq]; omega
        obtain ⟨g, o, rfl, hlc, hg, hcc, hfit⟩ := HC.out k hlt
        have hcell : ∀ j u, (Ac.cells l[k])[j]? = some u → wr.cell? ⟨g, o + k * 4 + j, none⟩ = some u := fun j u hu => (hbw.cell (p := ⟨g, o + k * 4 + j, none⟩) hg).trans (hcc j u hu)
        have c0 : wr.cell? ⟨g, o + k * 4, none⟩ = some (.int .i64 l[k].kind) := hcell 0 _ rfl
        have c1 : wr.cell? ⟨g, o + k * 4 + 1, none⟩ = some (.int .i64 l[k].who) := hcell 1 _ rfl
        have c2 : wr.cell? ⟨g, o + k * 4 + 2, none⟩ = some (.string l[k].text) := hcell 2 _ rfl
        have c3 : wr.cell? ⟨g, o + k * 4 + 3, none⟩ = some (.string l[k].sig) := hcell 3 _ rfl
        obtain ⟨T, S, hBoth, hTl, hSl⟩ := HT.out
        have HSt : Hid _ := step_calls l[k] wr hBoth (by omega) (by omega) hfit hzw
        clear hcell hcc hBoth HT
        generalize l[k] = ac at *
        go_wp2_with fail
        refine (Calls.mono HSt.out) ?_
        rintro e w3 ⟨rfl, hS3⟩
        obtain ⟨⟨T', S', hB3, hT3, hS4⟩, hbel⟩ := hS3
        have HB3 : Hid _ := (show ∃ T S, Both w3 w.heap.size p b x y w1.heap.size T S ∧ T.length ≤ k + 1 ∧ S.length ≤ k + 1 from ⟨T', S', hB3, by omega, by omega⟩)
        clear hB3
        go_wp2_with fail
        exact ⟨⟨k + 1, by omega, by omega, by go_num, hbw.trans hbel, HB3⟩, by simp [intOf]; omega⟩
      · have hd2 : decide ((k : Int) < 200) = false := by simp only [decide_eq_false_iff_not]; omega
        go_wp2_with fail
        refine (HA.out _).mono ?_
        rintro e w3 ⟨rfl, b3⟩
        go_wp2
        go_ret
        exact ⟨rfl, hbw.trans (b3.mono hzw)⟩
    · have hd : decide ((k : Int) < (l.length : Int)) = false := by simp only [decide_eq_false_iff_not]; omega
      go_wp2_with fail
      refine (HA.out _).mono ?_
      rintro e w3 ⟨rfl, b3⟩
      go_wp2
      go_ret
      exact ⟨rfl, hbw.trans (b3.mono hzw)⟩
end Go.Proofs.Ytlloekgdelclcaa
