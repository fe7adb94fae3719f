/- ClockCloses: it answers true. -/
import Derived.Test.YtalganihjgkmeaaCkE
namespace Go.Proofs.Ytalganihjgkmeaa
open Go.RowKit
set_option linter.unusedSimpArgs false
set_option linter.unusedVariables false

/-- An open auction of four in a round. -/
structure AtR (s pr d : Int) (i : Nat) (a : Au) : Prop where
  su : a.supply = s
  st : a.start = pr
  sp : a.step = d
  len : a.ds.length = 4
  rd : a.round = i + 1
  op : a.state = 0
variable {p b : Nat} {a : Au} {s pr d : Int} {i : Nat}
def Au.put (a : Au) (k : Nat) (n : Int) : Au := { a with ds := a.ds.set k ⟨wasOf a.ds k, n⟩ }
theorem AtR.bid (h : AtR s pr d i a) {k : Nat} {n : Int} (hk : k < 4) (h0 : 0 ≤ n) (h1 : n ≤ 1048576) (h2 : 1 < a.round → n ≤ wasOf a.ds k) : a.bid k n = (0, a.put k n) := by
  unfold Au.bid
  have hl := h.len
  rw [if_neg (fun e => e h.op), if_neg, if_neg]
  · rw [Int.toNat_natCast]; rfl
  · rintro ⟨e1, e2⟩
    rw [Int.toNat_natCast] at e2
    have := h2 e1
    omega
  · rintro (e | e)
    · exact e ⟨by omega, by omega⟩
    · exact e ⟨h0, h1⟩
theorem AtR.put (h : AtR s pr d i a) (k : Nat) (n : Int) : AtR s pr d i (a.put k n) := ⟨h.su, h.st, h.sp, by simpa [Au.put] using h.len, h.rd, h.op⟩
theorem put_now {k : Nat} {n : Int} (hk : k < a.ds.length) (j : Nat) : nowOf (a.put k n).ds j = if j = k then n else nowOf a.ds j := by
  unfold nowOf Au.put
  simp only
  rw [dAt_set _ hk]
  split <;> rfl
theorem put_sum {k : Nat} {n : Int} (hk : k < a.ds.length) : sumTo (nowOf (a.put k n).ds) (k + 1) = sumTo (nowOf a.ds) k + n := by
  rw [sumTo, put_now hk, if_pos rfl]
  rw [sumTo_congr (g := nowOf a.ds) fun j hj => by rw [put_now hk, if_neg (by omega)]]
theorem AtR.pri (h : AtR s pr d i a) : a.price = pr + i * d := by
  unfold Au.price
  rw [h.st, h.rd, h.sp]
  have : ((i : Int) + 1 - 1) = i := by omega
  rw [this]
theorem AtR.wan (h : AtR s pr d i a) : a.want = sumTo (nowOf a.ds) 4 := by unfold Au.want; rw [h.len]
theorem AtR.sold (h : AtR s pr d i a) (hw : a.want ≤ s) : a.next = (true, 0, { a with state := 1 }) := by
  unfold Au.next
  rw [if_neg (fun e => e h.op), if_pos (by rw [h.su]; exact hw)]
theorem AtR.on (h : AtR s pr d i a) (hw : ¬ a.want ≤ s) (hp : pr + i * d + d ≤ 1099511627776) : a.next = (false, 0, a.begin) := by
  unfold Au.next
  rw [if_neg (fun e => e h.op), if_neg (by rw [h.su]; exact hw), if_neg]
  rw [h.pri, h.sp]; omega
theorem AtR.begin (h : AtR s pr d i a) : AtR s pr d (i + 1) a.begin := ⟨h.su, h.st, h.sp, by simpa [Au.begin, roll_len] using h.len, by show a.round + 1 = _; rw [h.rd]; push_cast; rfl, h.op⟩
theorem begin_now {j : Nat} (hj : j < a.ds.length) : nowOf a.begin.ds j = nowOf a.ds j := nowOf_roll _ hj
def foA (f : Nat → Int) : Array Value := #[.int .i64 (f 0), .int .i64 (f 1), .int .i64 (f 2), .int .i64 (f 3)]
theorem foA_at (f : Nat → Int) (j : Nat) (h : j < 4) : (foA f)[j]? = some (.int .i64 (f j)) := by
  have : j = 0 ∨ j = 1 ∨ j = 2 ∨ j = 3 := by omega
  rcases this with rfl | rfl | rfl | rfl <;> rfl
theorem foA_set (f : Nat → Int) (k : Nat) (h : k < 4) (n : Int) : (foA f).setIfInBounds k (.int .i64 n) = foA (fun j => if j = k then n else f j) := by
  have : k = 0 ∨ k = 1 ∨ k = 2 ∨ k = 3 := by omega
  rcases this with rfl | rfl | rfl | rfl <;> rfl

set_option maxRecDepth 100000 in
set_option maxHeartbeats 4000000 in
theorem closes_calls (s0 p0 d0 : Int) (v : Value) (ls : List (Nat → Int)) (w : World) (hl : Elems 4 foC (fun _ => True) w v ls) (hz : ls.length * 32 ≤ 140737488351232) :
    Calls Try.prog 3 #[.int .i64 s0, .int .i64 p0, .int .i64 d0, v] w fun e w' => e = .returned (.bool true) ∧ Below w.heap.size w w' := by
  have HA : Hid _ := awake_calls
  have HK : Hid _ := fun z wx => around_calls z 1000 wx (by omega) (by omega)
  have HK1 : Hid _ := fun z wx => around_calls z 100 wx (by omega) (by omega)
  have h1 := arn_ok s0 1000 (by omega)
  have h2 := arn_ok p0 1000 (by omega)
  have h3 := arn_ok d0 100 (by omega)
  have HKs := HK.out s0 w
  have HKp := HK.out p0 w
  have HKd := HK1.out d0 w
  have HKK : Hid (∀ z, 0 ≤ arn z 1000 ∧ arn z 1000 < 1000) := fun z => arn_ok z 1000 (by omega)
  obtain ⟨s1, hs1⟩ : ∃ s1, arn s0 1000 = s1 := ⟨_, rfl⟩
  obtain ⟨pr, hpr⟩ : ∃ pr, arn p0 1000 = pr := ⟨_, rfl⟩
  obtain ⟨d1, hd1⟩ : ∃ d1, arn d0 100 = d1 := ⟨_, rfl⟩
  rw [hs1] at h1 HKs
  rw [hpr] at h2 HKp
  rw [hd1] at h3 HKd
  clear hs1 hpr hd1
  have hw1 : IntKind.i64.wrap (1 + s1) = 1 + s1 := by rw [IntKind.wrap_i64]; omega
  have hw2 : IntKind.i64.wrap (1 + d1) = 1 + d1 := by rw [IntKind.wrap_i64]; omega
  have HN : Hid _ := new_ok (1 + s1) pr (1 + d1) 4 w ⟨⟨by omega, by omega⟩, ⟨by omega, by omega⟩, ⟨by omega, by omega⟩, ⟨by omega, by omega⟩⟩
  have HR0 : Hid (AtR (1 + s1) pr (1 + d1) 0 (Au.new (1 + s1) pr (1 + d1) (4 : Int).toNat) ∧ ∀ j, nowOf (Au.new (1 + s1) pr (1 + d1) (4 : Int).toNat).ds j = 0) :=
    ⟨⟨rfl, rfl, rfl, by simp [Au.new], rfl, rfl⟩, fun j => by unfold nowOf Au.new; simp only; rw [dAt_rep]⟩
  obtain ⟨c, cap, rfl, hc⟩ := hl.any
  have HC : Hid _ := hc
  clear hc hl
  obtain ⟨s, hs⟩ : ∃ s, 1 + s1 = s := ⟨_, rfl⟩
  obtain ⟨d, hdd⟩ : ∃ d, 1 + d1 = d := ⟨_, rfl⟩
  have q1 : 1 ≤ s ∧ s ≤ 1000 := by omega
  have q2 : 1 ≤ d ∧ d ≤ 100 := by omega
  rw [hs, hdd] at HN HR0
  rw [hs] at hw1
  rw [hdd] at hw2
  generalize Au.new s pr d (4 : Int).toNat = A0 at *
  go_enter Try.func3, Try.ntmps3
  go_wp2_with fail
  refine HKs.mono ?_
  rintro e w1 ⟨rfl, rfl⟩
  go_wp2_with fail
  refine HKp.mono ?_
  rintro e w2 ⟨rfl, rfl⟩
  go_wp2_with fail
  refine HKd.mono ?_
  rintro e w3 ⟨rfl, rfl⟩
  clear HKs HKp HKd
  go_wp2_with fail
  refine Calls.mono HN.out ?_
  rintro e w4 ⟨p, b, rfl, L4, b4, hp, hb⟩
  clear HN h1 h3 hs hdd hw1 hw2
  have hpl := L4.blk.lt
  have hbl := L4.row.lt
  obtain ⟨W5, hW5, X5, B5, L5⟩ : ∃ W5, w4.alloc (.cells #[.int .i64 0, .int .i64 0, .int .i64 0, .int .i64 0] 28) = W5 ∧ Blk W5 w4.heap.size (foA fun _ => 0) 28 ∧ Below w3.heap.size w3 W5 ∧ Lc W5 p b A0 := ⟨_, rfl, blk_new _ _ _ _ rfl, b4.trans (by go_grown), L4.alloc _⟩
  have hq : w3.heap.size ≤ w4.heap.size := b4.size
  clear L4 b4
  have hnp : w4.heap.size ≠ p := by omega
  have hnb : w4.heap.size ≠ b := by omega
  go_wp2
  generalize w4.heap.size = q at *
  go_loopw [15] (fun iv wr => ∃ (i : Nat) (A : Au) (f : Nat → Int), i ≤ ls.length ∧ i ≤ 60 ∧ iv = .int .i64 i ∧ Hid (AtR s pr d i A) ∧ Hid (∀ j, j < 4 → f j = nowOf A.ds j) ∧ Lc wr p b A ∧ Blk wr q (foA f) 28 ∧ Below w3.heap.size w3 wr) (fun iv _ => ls.length - (intOf iv).toNat)
  case atStart => exact ⟨0, A0, fun _ => 0, Nat.zero_le _, by omega, rfl, HR0.out.1, fun j _ => (HR0.out.2 j).symm, L5, X5, B5⟩
  case round =>
    obtain ⟨i, A, f, hi, hi1, rfl, hAt, hf, Lr, Xr, br⟩ := hrel
    by_cases hgo : i < ls.length ∧ i < 60
    · obtain ⟨hlt, hlt1⟩ := hgo
      have hd1 : decide ((i : Int) < ls.length) = true := by simp only [decide_eq_true_eq]; omega
      have hd2 : decide ((i : Int) < 60) = true := by simp only [decide_eq_true_eq]; omega
      obtain ⟨g, off, hga, _, hg, hcel, _⟩ := HC.out i hlt
      subst hga
      have HCE : Hid _ := hcel
      clear hcel
      generalize ls[i] = fi at *
      obtain ⟨wo, rfl⟩ : ∃ wo, wo = wr := ⟨wr, rfl⟩
      go_wp2
      go_loopw [16, 17] (fun sv kv wr => ∃ (k : Nat) (A : Au) (f : Nat → Int), k ≤ 4 ∧ kv = .int .i64 k ∧ sv = .int .i64 (sumTo (nowOf A.ds) k) ∧ Hid (AtR s pr d i A) ∧ Hid (∀ j, j < 4 → f j = nowOf A.ds j) ∧ Lc wr p b A ∧ Blk wr q (foA f) 28 ∧ Below w3.heap.size w3 wr) (fun _ kv _ => 4 - (intOf kv).toNat)
      case atStart => exact ⟨0, A, f, by omega, rfl, rfl, hAt, hf, Lr, Xr, br⟩
      case round =>
        clear hAt hf Lr Xr br
        clear A f
        obtain ⟨k, A, f, hk, rfl, rfl, hAt, hf, Lr, Xr, br⟩ := hrel
        have hln := hAt.out.len
        have hsm := Lr.inv.wants (k := k) (by omega)
        by_cases hkt : k < 4
        · have hdk : decide ((k : Int) < 4) = true := by simp only [decide_eq_true_eq]; omega
          have hki : (k : Int) < 4 := by omega
          have hli : (i : Int) < ls.length := by omega
          have c0 := (br.cell (p := ⟨g, off + i * 4 + k, none⟩) hg).trans (HCE.out k _ (foC_at fi k hkt))
          have hka := HK.out (fi k) wr
          have hkb := HKK.out (fi k)
          have x0 := Xr.cell (foA_at f k hkt)
          have f0 : wr.frozen? ⟨q, k, none⟩ = false := Xr.frozen
          have hfk := hf.out k hkt
          have hfa : 1 < A.round → nowOf A.ds k ≤ wasOf A.ds k := fun h => Lr.inv.fall h k (by omega)
          have hnn := (Lr.inv.dm k (by omega)).2.2
          have hrd := hAt.out.rd
          -- what is asked for
          have step : ∀ n : Int, 0 ≤ n → n ≤ 1048576 → (0 < i → n ≤ nowOf A.ds k) → Hid (∀ wx, Lc wx p b A → Calls Try.prog 9 #[.pointer (some ⟨p, 0, none⟩), .int .i64 k, .int .i64 n] wx fun e w' => e = .returned (.int .i64 0) ∧ Lc w' p b (A.put k n) ∧ Ofc p b wx w') := fun n g0 g1 g2 wx hx => by
            have hb := hAt.out.bid (k := k) (n := n) hkt g0 g1 (fun h => by
              have h1 := g2 (by omega)
              have h2 := hfa h
              omega)
            exact bid_calls wx hx k n (0, A.put k n) hb
          have fin : ∀ n : Int, ∀ w' : World, Lc w' p b (A.put k n) → Ofc p b wr w' → Hid (Blk w' q (foA f) 28 ∧ Lc (w'.setCell ⟨q, k, none⟩ (.int .i64 n)) p b (A.put k n) ∧ Blk (w'.setCell ⟨q, k, none⟩ (.int .i64 n)) q (foA (fun j => if j = k then n else f j)) 28 ∧ Below w3.heap.size w3 (w'.setCell ⟨q, k, none⟩ (.int .i64 n)) ∧ AtR s pr d i (A.put k n) ∧ (∀ j, j < 4 → (if j = k then n else f j) = nowOf (A.put k n).ds j) ∧ sumTo (nowOf (A.put k n).ds) (k + 1) = sumTo (nowOf A.ds) k + n) := fun n w' hL hO => by
            have X' := Xr.ofc hO hnp hnb
            have X2 := X'.set k (.int .i64 n)
            rw [foA_set f k hkt] at X2
            refine ⟨X', ⟨hL.blk.setOther (p := ⟨q, k, none⟩) hnp.symm _, hL.row.setOther (p := ⟨q, k, none⟩) hnb.symm _, hL.ne, hL.inv⟩, X2, ?_, hAt.out.put k n, fun j hj => ?_, put_sum (by omega)⟩
            · exact (hO.below hp hb br br.size).setCell (p := ⟨q, k, none⟩) hq _
            · rw [put_now (by omega)]
              split
              · rfl
              · exact hf.out j hj
          have HFIN : Hid _ := fin
          have HST : Hid _ := step
          clear fin step
          rw [hfk] at x0
          have hrA : 1 < A.round ↔ 0 < i := by rw [hrd]; omega
          clear hfa hfk hrA hrd hf hAt Xr
          generalize arn (fi k) 1000 = n0 at *
          generalize nowOf A.ds k = nk at *
          generalize hsmg : sumTo (nowOf A.ds) k = sm at *
          have HSMG : Hid _ := hsmg
          clear hsmg
          by_cases h0 : 0 < i
          · have e0 : decide (0 < (i : Int)) = true := decide_eq_true (by omega)
            obtain ⟨n, hn⟩ : ∃ n, (if nk < n0 then nk else n0) = n := ⟨_, rfl⟩
            have hn2 : 0 ≤ n ∧ n ≤ nk ∧ n ≤ 1000 := by rw [← hn]; split <;> omega
            have hbid := HST.out n hn2.1 (by omega) (fun _ => hn2.2.1)
            clear HST
            go_wp2_with fail
            refine hka.mono ?_
            rintro e w6 ⟨rfl, rfl⟩
            go_wp2_with fail
            refine Calls.mono (hbid.out _ Lr) ?_
            rintro e w7 ⟨rfl, L7, O7⟩
            have F := HFIN.out n w7 L7 O7
            have x7 : w7.cell? ⟨q, k, none⟩ = some (.int .i64 (f k)) := Blk.cell F.out.1 (foA_at f k hkt)
            have f7 : w7.frozen? ⟨q, k, none⟩ = false := Blk.frozen F.out.1
            clear HFIN hbid hka x0 f0 c0
            go_wp2
            obtain ⟨F1, F2, F3, F4, F5, F6, F7⟩ := F
            refine ⟨⟨k + 1, A.put k n, _, by omega, by norm_cast, by rw [F7], F5, F6, F2, F3, F4⟩, ?_⟩
            simp [intOf]; omega
          · have e0 : decide (0 < (i : Int)) = false := decide_eq_false (by omega)
            have hbid := HST.out n0 (by omega) (by omega) (fun h => absurd h h0)
            clear HST
            go_wp2_with fail
            refine hka.mono ?_
            rintro e w6 ⟨rfl, rfl⟩
            go_wp2_with fail
            refine Calls.mono (hbid.out _ Lr) ?_
            rintro e w7 ⟨rfl, L7, O7⟩
            have F := HFIN.out n0 w7 L7 O7
            have x7 : w7.cell? ⟨q, k, none⟩ = some (.int .i64 (f k)) := Blk.cell F.out.1 (foA_at f k hkt)
            have f7 : w7.frozen? ⟨q, k, none⟩ = false := Blk.frozen F.out.1
            clear HFIN hbid hka x0 f0 c0
            go_wp2
            obtain ⟨F1, F2, F3, F4, F5, F6, F7⟩ := F
            refine ⟨⟨k + 1, A.put k n0, _, by omega, by norm_cast, by rw [F7], F5, F6, F2, F3, F4⟩, ?_⟩
            simp [intOf]; omega
        · have hdk : decide ((k : Int) < 4) = false := by simp only [decide_eq_false_iff_not]; omega
          have hk4 : k = 4 := by omega
          subst hk4
          have hPr := price_calls wr Lr
          rw [hAt.out.pri] at hPr
          have HRo : Hid _ := fun wx (hx : Lc wx p b A) => round_calls wx hx
          rw [hAt.out.rd] at HRo
          have HDe : Hid _ := fun wx (hx : Lc wx p b A) => demand_calls wx hx
          rw [hAt.out.wan] at HDe
          have hwa := hAt.out.wan
          have hid : 0 ≤ (i : Int) * d ∧ (i : Int) * d ≤ 6000 := by
            refine ⟨Int.mul_nonneg (by omega) (by omega), ?_⟩
            have h1 : (i : Int) * d ≤ 60 * d := Int.mul_le_mul_of_nonneg_right (by omega) (by omega)
            omega
          have hwi : IntKind.i64.wrap ((i : Int) * d) = (i : Int) * d := by rw [IntKind.wrap_i64]; omega
          have HNx1 : Hid (A.want ≤ s → ∀ wx, Lc wx p b A → Calls Try.prog 13 #[.pointer (some ⟨p, 0, none⟩)] wx fun e w' => e = .returned (.tuple #[.bool true, .int .i64 0]) ∧ Lc w' p b { A with state := 1 } ∧ Ofc p b wx w') := fun h wx hx => next_calls wx hx (true, 0, _) (hAt.out.sold h)
          have HNx2 : Hid (¬ A.want ≤ s → ∀ wx, Lc wx p b A → Calls Try.prog 13 #[.pointer (some ⟨p, 0, none⟩)] wx fun e w' => e = .returned (.tuple #[.bool false, .int .i64 0]) ∧ Lc w' p b A.begin ∧ Ofc p b wx w') := fun h wx hx => next_calls wx hx (false, 0, _) (hAt.out.on h (by omega))
          rw [hwa] at HNx1 HNx2
          clear hwa
          generalize sumTo (nowOf A.ds) 4 = sm at *
          generalize hidg : (i : Int) * d = id_ at *
          by_cases hw : sm ≤ s
          · have ew : decide (sm ≤ s) = true := decide_eq_true hw
            have hNx := HNx1.out hw
            clear HNx1 HNx2
            have HNx : Hid _ := hNx
            clear hNx
            go_wp2_with fail
            refine hPr.mono ?_
            rintro e w6 ⟨rfl, b6⟩
            have L6 := Lr.below b6
            have B6 := br.trans (b6.mono br.size)
            go_wp2_with fail
            refine Calls.mono (HRo.out w6 L6) ?_
            rintro e w7 ⟨rfl, rfl⟩
            go_wp2_with fail
            refine Calls.mono (HDe.out w7 L6) ?_
            rintro e w8 ⟨rfl, b8⟩
            have L8 := L6.below b8
            have B8 := B6.trans (b8.mono B6.size)
            go_wp2_with fail
            refine Calls.mono (HNx.out w8 L8) ?_
            rintro e w9 ⟨rfl, L9, O9⟩
            have B9 := O9.below hp hb B8 B8.size
            have HSt : Hid _ := state_calls w9 L9
            have HBd : Hid _ := bid_calls w9 L9 0 0 (70, _) (by unfold Au.bid; rw [if_pos (by show (1 : Int) ≠ 0; omega)])
            go_wp2_with fail
            refine Calls.mono HSt.out ?_
            rintro e w10 ⟨rfl, rfl⟩
            go_wp2_with fail
            refine Calls.mono HBd.out ?_
            rintro e w11 ⟨rfl, L11, O11⟩
            have B11 := O11.below hp hb B9 B9.size
            go_wp2_with fail
            refine (HA.out _).mono ?_
            rintro e w12 ⟨rfl, b12⟩
            go_wp2
            go_ret
            exact ⟨rfl, B11.trans (b12.mono B11.size)⟩
          · have ew : decide (sm ≤ s) = false := decide_eq_false hw
            have hNx := HNx2.out hw
            clear HNx1 HNx2
            have HNx : Hid _ := hNx
            clear hNx
            go_wp2_with fail
            refine hPr.mono ?_
            rintro e w6 ⟨rfl, b6⟩
            have L6 := Lr.below b6
            have B6 := br.trans (b6.mono br.size)
            go_wp2_with fail
            refine Calls.mono (HRo.out w6 L6) ?_
            rintro e w7 ⟨rfl, rfl⟩
            go_wp2_with fail
            refine Calls.mono (HDe.out w7 L6) ?_
            rintro e w8 ⟨rfl, b8⟩
            have L8 := L6.below b8
            have B8 := B6.trans (b8.mono B6.size)
            go_wp2_with fail
            refine Calls.mono (HNx.out w8 L8) ?_
            rintro e w9 ⟨rfl, L9, O9⟩
            have B9 := O9.below hp hb B8 B8.size
            have X9 := ((Xr.below b6).below b8).ofc O9 hnp hnb
            go_wp2
            refine ⟨⟨i + 1, A.begin, f, by omega, by omega, by norm_cast, hAt.out.begin, fun j hj => by rw [begin_now (by omega)]; exact hf.out j hj, L9, X9, B9⟩, ?_⟩
            simp [intOf]; omega
    · have hst := state_calls wr Lr
      rw [hAt.out.op] at hst
      by_cases h1 : i < ls.length
      · have hd1 : decide ((i : Int) < ls.length) = true := by simp only [decide_eq_true_eq]; omega
        have hd2 : decide ((i : Int) < 60) = false := by simp only [decide_eq_false_iff_not]; omega
        go_wp2_with fail
        refine hst.mono ?_
        rintro e w5 ⟨rfl, rfl⟩
        go_wp2_with fail
        refine (HA.out _).mono ?_
        rintro e w6 ⟨rfl, b6⟩
        go_wp2
        go_ret
        exact ⟨rfl, br.trans (b6.mono br.size)⟩
      · have hd1 : decide ((i : Int) < ls.length) = false := by simp only [decide_eq_false_iff_not]; omega
        go_wp2_with fail
        refine hst.mono ?_
        rintro e w5 ⟨rfl, rfl⟩
        go_wp2_with fail
        refine (HA.out _).mono ?_
        rintro e w6 ⟨rfl, b6⟩
        go_wp2
        go_ret
        exact ⟨rfl, br.trans (b6.mono br.size)⟩
end Go.Proofs.Ytalganihjgkmeaa
