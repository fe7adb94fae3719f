/- The document's At, without, own. -/
import Derived.Test.YtglbfeccdibmiaaCdB
import Derived.Deep.DeepCutAuto
import Derived.Deep.CutBlock
namespace Go.Proofs.Ytglbfeccdibmiaa
open Go.RowKit
set_option linter.unusedSimpArgs false
set_option linter.unusedVariables false

theorem infoBk2 (u v : Value) : (Try.prog.info? 27).map (·.size) = some (#[u, v] : Array Value).size := by kernel_rfl
theorem sameBk2 (u v u' v' : Value) : (#[u, v] : Array Value).size = (#[u', v'] : Array Value).size := rfl
theorem oneBk2 (q : Option Addr) (n c : Nat) (x : Int) : (#[.slice q n c, .int .i64 x] : Array Value).all (·.oneCell') = true := by simp [Value.oneCell']
theorem oneBk3 {w : World} {b z n : Nat} {t : TypeId} {v : Value} {xs : List Value} (h : w.ownsRow b t z v n xs) (x : Int) : (#[v, .int .i64 x] : Array Value).all (·.oneCell') = true := by
  obtain ⟨q, c, rfl⟩ := own_form h
  simp [Value.oneCell']
theorem fnd_at {l : List Od} {x : Int} {k : Nat} (hk : k < l.length) (h : l[k].id = x) (ha : ∀ o ∈ l.take k, o.id ≠ x) : fnd l x = (k : Int) := by
  have e : l.findIdx (fun o => o.id == x) = k := by
    refine (List.findIdx_eq hk).2 ⟨by simpa using h, fun j hj => ?_⟩
    have hm : l[j]'(Nat.lt_trans hj hk) ∈ l.take k := by
      rw [List.mem_take_iff_getElem]
      exact ⟨j, by omega, rfl⟩
    simpa using ha _ hm
  show (if l.findIdx (fun o => o.id == x) < l.length then ((l.findIdx (fun o => o.id == x) : Nat) : Int) else -1) = _
  rw [e, if_pos hk]
theorem fnd_no {l : List Od} {x : Int} (ha : ∀ o ∈ l, o.id ≠ x) : fnd l x = -1 := by
  rcases fnd_cases l x with ⟨h, _⟩ | ⟨i, o, _, h2, h3, _⟩
  · exact h
  · exact absurd h3 (ha o (List.mem_of_getElem? h2))
theorem fnd_bd (l : List Od) (x : Int) : -1 ≤ fnd l x ∧ fnd l x < l.length := by
  rcases fnd_cases l x with ⟨h, _⟩ | ⟨i, o, h, _, _, h2⟩
  · rw [h]; omega
  · rw [h]; omega
set_option maxHeartbeats 4000000 in
set_option maxRecDepth 100000 in
theorem refAt_calls (lv : Value) (l : List Od) (nx x : Int) (w : World) (h : Ods w lv l) (hl : l.length ≤ 1000) :
    Calls Try.prog 19 #[.agg #[lv, .int .i64 nx], .int .i64 x] w fun e w' => e = .returned (.int .i64 (fnd l x)) ∧ Below w.heap.size w w' := by
  obtain ⟨a, cap, rfl, hc⟩ := h
  obtain ⟨W1, hW1, X1, B1⟩ : ∃ W1, w.alloc (.cells #[.slice a l.length cap, .int .i64 nx] 27) = W1 ∧ Blk W1 w.heap.size #[.slice a l.length cap, .int .i64 nx] 27 ∧ Below w.heap.size w W1 := ⟨_, rfl, blk_new _ _ _ _ rfl, by go_grown⟩
  have c0 : W1.cell? ⟨w.heap.size, 0, none⟩ = some (.slice a l.length cap) := X1.cell rfl
  have HC : Hid _ := hc
  clear hc X1
  go_enter Try.func19, Try.ntmps19
  go_wp2_with fail
  go_loopw [5] (fun i wr => ∃ k : Nat, k ≤ l.length ∧ i = .int .i64 k ∧ Hid (∀ o ∈ l.take k, o.id ≠ x) ∧ wr = W1) (fun i _ => l.length - (intOf i).toNat)
  case atStart => exact ⟨0, Nat.zero_le _, rfl, by show ∀ o ∈ _, _; simp, rfl⟩
  case round =>
    obtain ⟨k, hk, rfl, hall, rfl⟩ := hrel
    by_cases hlt : k < l.length
    · have hd : decide ((k : Int) < (l.length : Int)) = true := by simp only [decide_eq_true_eq]; omega
      have hd' : (k : Int) < (l.length : Int) := by omega
      obtain ⟨g, off, rfl, m0⟩ : ∃ g off, a = some ⟨g, off, none⟩ ∧ wr.cell? ⟨g, off + k * 6, none⟩ = some (.int .i64 l[k].id) := by
        rcases HC.out with h0 | ⟨g, off, e, hx⟩
        · rw [h0] at hlt; simp at hlt
        · exact ⟨g, off, e, keepY B1 (hx k l[k] 0 _ (List.getElem?_eq_getElem hlt) rfl)⟩
      have HT : Hid (l[k].id ≠ x → ∀ o ∈ l.take (k + 1), o.id ≠ x) := fun hn o ho => by
        rw [List.take_succ_eq_append_getElem hlt, List.mem_append, List.mem_singleton] at ho
        rcases ho with ho | rfl
        · exact hall.out o ho
        · exact hn
      have HF : Hid (l[k].id = x → fnd l x = (k : Int)) := fun h => fnd_at hlt h hall.out
      generalize l[k] = m at *
      generalize hid : m.id = y at *
      have HID : Hid _ := hid
      clear hid
      by_cases hkk : y = x
      · have d1 : (y == x) = true := by simpa using hkk
        have HK : Hid _ := hkk
        clear hkk
        go_wp2
        go_ret
        exact ⟨by rw [HF.out HK.out]; rfl, B1⟩
      · have d1 : (y == x) = false := by simpa using hkk
        have HK : Hid (y ≠ x) := hkk
        clear hkk
        go_wp2
        refine ⟨⟨k + 1, by omega, by norm_cast, HT.out HK.out, by trivial⟩, ?_⟩
        simp [intOf]; omega
    · have hd : decide ((k : Int) < (l.length : Int)) = false := by simp only [decide_eq_false_iff_not]; omega
      have hd' : ¬ (k : Int) < (l.length : Int) := by omega
      obtain rfl : k = l.length := by omega
      have HA : Hid (∀ o ∈ l, o.id ≠ x) := by have := hall.out; rw [List.take_length] at this; exact this
      clear hall
      go_wp2
      go_ret
      exact ⟨by rw [fnd_no HA.out]; rfl, B1⟩

/-- The first k orders but one. -/
def woK (l : List Od) (a : Int) (k : Nat) : List Od := if 0 ≤ a ∧ a.toNat < k then (l.take k).eraseIdx a.toNat else l.take k
def wo (l : List Od) (a : Int) : List Od := if 0 ≤ a then l.eraseIdx a.toNat else l
theorem woK_zero (l : List Od) (a : Int) : woK l a 0 = [] := by unfold woK; rw [if_neg (by omega)]; rfl
theorem woK_skip {l : List Od} {k : Nat} (h : k < l.length) : woK l (k : Int) (k + 1) = woK l (k : Int) k := by
  unfold woK
  rw [if_pos (by omega), if_neg (by omega), Int.toNat_natCast, List.take_succ_eq_append_getElem h, List.eraseIdx_append_of_length_le (by rw [List.length_take]; omega)]
  have : k - (l.take k).length = 0 := by rw [List.length_take]; omega
  rw [this]; simp
theorem woK_take {l : List Od} {a : Int} {k : Nat} (h : k < l.length) (hne : (k : Int) ≠ a) : woK l a (k + 1) = woK l a k ++ [l[k]] := by
  unfold woK
  by_cases h1 : 0 ≤ a ∧ a.toNat < k
  · rw [if_pos (by omega), if_pos h1, List.take_succ_eq_append_getElem h, List.eraseIdx_append_of_lt_length (by rw [List.length_take]; omega)]
  · rw [if_neg (by omega), if_neg h1, List.take_succ_eq_append_getElem h]
theorem woK_end (l : List Od) (a : Int) : woK l a l.length = wo l a := by
  unfold woK wo
  by_cases h : 0 ≤ a
  · rw [if_pos h]
    by_cases h2 : a.toNat < l.length
    · rw [if_pos ⟨h, h2⟩, List.take_length]
    · rw [if_neg (by omega), List.take_length, List.eraseIdx_of_length_le (by omega)]
  · rw [if_neg (by omega), if_neg h, List.take_length]
theorem woK_len (l : List Od) (a : Int) (k : Nat) : (woK l a k).length ≤ k := by
  unfold woK
  split
  · exact Nat.le_trans (List.length_eraseIdx_le ..) (by rw [List.length_take]; omega)
  · rw [List.length_take]; omega
set_option maxHeartbeats 4000000 in
set_option maxRecDepth 100000 in
theorem without_calls (v : Value) (l : List Od) (ix : Int) (w : World) (h : Ods w v l) (hl : l.length ≤ 1000) :
    Calls Try.prog 26 #[v, .int .i64 ix] w fun e w' => ∃ v', e = .returned v' ∧ w'.ownsRow w.heap.size 31 6 v' (wo l ix).length (odL (wo l ix)) ∧ Below w.heap.size w w' := by
  obtain ⟨i6, hi6, hy0, hy1, hy2⟩ := info_parts infoOd6
  obtain ⟨a, cap, rfl, hc⟩ := h
  have HC : Hid _ := hc
  clear hc
  go_enter Try.func26, Try.ntmps26
  go_wp2_with fail
  go_loopw [5, 6] (fun o i wr => ∃ k : Nat, k ≤ l.length ∧ i = .int .i64 k ∧ Hid (wr.ownsRow w.heap.size 31 6 o (woK l ix k).length (odL (woK l ix k)) ∧ Below w.heap.size w wr)) (fun _ i _ => l.length - (intOf i).toNat)
  case atStart => exact ⟨0, Nat.zero_le _, rfl, by rw [woK_zero]; exact World.ownsRow_nil _ _ _ _, Below.refl _ _⟩
  case round =>
    obtain ⟨k, hk, rfl, HR⟩ := hrel
    by_cases hlt : k < l.length
    · have hd : decide ((k : Int) < (l.length : Int)) = true := by simp only [decide_eq_true_eq]; omega
      have hd' : (k : Int) < (l.length : Int) := by omega
      by_cases hix : (k : Int) = ix
      · have dn : ((k : Int) != ix) = false := by simp [hix]
        have HE : Hid (woK l ix (k + 1) = woK l ix k) := by show _ = _; rw [← hix]; exact woK_skip hlt
        have HX : Hid _ := hix
        clear hix
        go_wp2
        refine ⟨⟨k + 1, by omega, by norm_cast, ?_⟩, by simp [intOf]; omega⟩
        rw [HE.out]; exact HR.out
      · have dn : ((k : Int) != ix) = true := by simp [hix]
        obtain ⟨g, off, rfl, hx⟩ : ∃ g off, a = some ⟨g, off, none⟩ ∧ ∀ j u, (oC l[k])[j]? = some u → wr.cell? ⟨g, off + k * 6 + j, none⟩ = some u := by
          rcases HC.out with h0 | ⟨g, off, e, hx⟩
          · rw [h0] at hlt; simp at hlt
          · exact ⟨g, off, e, fun j u hu => keepY HR.out.2 (hx k l[k] j u (List.getElem?_eq_getElem hlt) hu)⟩
        have HE : Hid (woK l ix (k + 1) = woK l ix k ++ [l[k]]) := woK_take hlt hix
        have hwl := woK_len l ix k
        generalize l[k] = m at *
        have m0 : wr.cell? ⟨g, off + k * 6, none⟩ = some (.int .i64 m.id) := hx 0 _ rfl
        have m1 : wr.cell? ⟨g, off + k * 6 + 1, none⟩ = some (.int .i64 m.own) := hx 1 _ rfl
        have m2 : wr.cell? ⟨g, off + k * 6 + 2, none⟩ = some (.int .i64 m.pr) := hx 2 _ rfl
        have m3 : wr.cell? ⟨g, off + k * 6 + 3, none⟩ = some (.int .i64 m.am) := hx 3 _ rfl
        have m4 : wr.cell? ⟨g, off + k * 6 + 4, none⟩ = some (.int .i64 m.pl) := hx 4 _ rfl
        have m5 : wr.cell? ⟨g, off + k * 6 + 5, none⟩ = some (.bool m.by) := hx 5 _ rfl
        obtain ⟨oa, oc, rfl⟩ := own_form HR.out.1
        obtain ⟨W6, hW6, B6⟩ : ∃ W6, wr.alloc (.cells #[.int .i64 m.id, .int .i64 m.own, .int .i64 m.pr, .int .i64 m.am, .int .i64 m.pl, .bool m.by] 31) = W6 ∧ Below wr.heap.size wr W6 := ⟨_, rfl, by go_grown⟩
        have HN6 : Hid (∀ jj u, (oC m)[jj]? = some u → W6.cell? ((⟨wr.heap.size, 0, none⟩ : Addr).add jj) = some u) := by
          rw [← hW6]; exact six_new wr m _
        have HO6 : Hid _ := ownB HR.out.1 B6
        have zr := HR.out.2.size
        have z6 := B6.size
        have HB6 : Hid _ := HR.out.2.trans (B6.mono zr)
        clear hx hix B6
        go_wp2_with (at_builtin; refine wpList_append_own _ rfl _ _ 25 rfl w.heap.size 31 i6 (.agg #[.int .i64 0, .int .i64 0, .int .i64 0, .int .i64 0, .int .i64 0, .bool false]) 6 48 Try.underlying25 hi6 hy0 hy1 hy2 rfl (by decide) _ _ _ rfl HO6.out ⟨wr.heap.size, 0, none⟩ 1 1 (oC m) rfl rfl ?d1 ?d2 ?d3 ?d4 ?d5 ?_)
        case d1 => exact HN6.out
        case d2 => exact oC_oneO _
        case d3 => unfold maxLen; omega
        case d4 => omega
        case d5 => omega
        intro v' w7 own' gr' _
        have hb7 : Below w.heap.size w w7 := below_grownU HB6.out gr' (fun q hq => (World.ownsRow.lt HO6.out q hq).1) (by omega)
        have HO7 : Hid (w7.ownsRow w.heap.size 31 6 v' (woK l ix (k + 1)).length (odL (woK l ix (k + 1)))) := by
          rw [HE.out, odL_snocO, List.length_append]; exact own'
        clear own' gr'
        go_wp2
        exact ⟨⟨k + 1, by omega, by norm_cast, HO7.out, hb7⟩, by simp [intOf]; omega⟩
    · have hd : decide ((k : Int) < (l.length : Int)) = false := by simp only [decide_eq_false_iff_not]; omega
      have hd' : ¬ (k : Int) < (l.length : Int) := by omega
      obtain rfl : k = l.length := by omega
      have hr2 := HR.out
      rw [woK_end] at hr2
      have HR2 : Hid _ := hr2
      clear HR hr2
      go_wp2
      go_ret
      exact ⟨_, rfl, HR2.out⟩

def ownR (l : List Od) (x y : Int) : Int × Int := if fnd l x < 0 then (0, 3) else if (gtB l x).1.own = y then (fnd l x, 0) else (0, 80)
set_option maxHeartbeats 4000000 in
set_option maxRecDepth 100000 in
theorem refOwn_calls (lv : Value) (l : List Od) (nx x y : Int) (w : World) (h : Ods w lv l) (hl : l.length ≤ 1000) :
    Calls Try.prog 24 #[.agg #[lv, .int .i64 nx], .int .i64 x, .int .i64 y] w fun e w' => e = .returned (.tuple #[.int .i64 (ownR l x y).1, .int .i64 (ownR l x y).2]) ∧ Below w.heap.size w w' := by
  have hh := h
  obtain ⟨a, cap, rfl, hc⟩ := hh
  obtain ⟨W1, hW1, X1, B1⟩ : ∃ W1, w.alloc (.cells #[.slice a l.length cap, .int .i64 nx] 27) = W1 ∧ Blk W1 w.heap.size #[.slice a l.length cap, .int .i64 nx] 27 ∧ Below w.heap.size w W1 := ⟨_, rfl, blk_new _ _ _ _ rfl, by go_grown⟩
  have c0 : W1.cell? ⟨w.heap.size, 0, none⟩ = some (.slice a l.length cap) := X1.cell rfl
  have c1 : W1.cell? ⟨w.heap.size, 1, none⟩ = some (.int .i64 nx) := X1.cell rfl
  have HA : Hid _ := refAt_calls (.slice a l.length cap) l nx x W1 (Ods.below h B1) hl
  have zw := B1.size
  obtain ⟨r, HR⟩ : ∃ r, Hid (ownR l x y = r) := ⟨_, rfl⟩
  rw [HR.out]
  have hR := HR.out
  unfold ownR at hR
  rcases fnd_cases l x with ⟨f1, f2⟩ | ⟨i, o, f1, f2, f3, f4⟩
  · rw [f1] at HA
    rw [if_pos (by rw [f1]; decide)] at hR
    subst hR
    clear f1 f2 hc h HR
    go_enter Try.func24, Try.ntmps24
    go_wp2_with fail
    refine Calls.mono HA.out ?_
    rintro e w2 ⟨rfl, b2⟩
    go_wp2
    go_ret2
    exact ⟨rfl, B1.trans (b2.mono zw)⟩
  · rw [f1] at HA
    rw [if_neg (by rw [f1]; omega), gtB_some f1 f2 f3, f1] at hR
    rcases hc with hn | ⟨g, off, rfl, hx⟩
    · exfalso; rw [hn] at f4; simp at f4
    have q1 : W1.cell? ⟨g, off + i * 6 + 1, none⟩ = some (.int .i64 o.own) := keepY B1 (hx i o 1 _ f2 rfl)
    have hi0 : ¬ (i : Int) < 0 := by omega
    have hi1 : (i : Int) < (l.length : Int) := by omega
    have hi2 : decide ((i : Int) < 0) = false := decide_eq_false hi0
    generalize o.own = ow at *
    by_cases hy : ow = y
    · rw [if_pos hy] at hR
      subst hR
      have dn : (ow != y) = false := by simp [hy]
      clear f1 f2 f3 h HR hx hy
      go_enter Try.func24, Try.ntmps24
      go_wp2_with fail
      refine Calls.mono HA.out ?_
      rintro e w2 ⟨rfl, b2⟩
      have q1' := keepY b2 q1
      have c0' := keepY b2 c0
      go_wp2
      go_ret2
      exact ⟨rfl, B1.trans (b2.mono zw)⟩
    · rw [if_neg hy] at hR
      subst hR
      have dn : (ow != y) = true := by simp [hy]
      clear f1 f2 f3 h HR hx hy
      go_enter Try.func24, Try.ntmps24
      go_wp2_with fail
      refine Calls.mono HA.out ?_
      rintro e w2 ⟨rfl, b2⟩
      have q1' := keepY b2 q1
      have c0' := keepY b2 c0
      go_wp2
      go_ret2
      exact ⟨rfl, B1.trans (b2.mono zw)⟩
end Go.Proofs.Ytglbfeccdibmiaa
