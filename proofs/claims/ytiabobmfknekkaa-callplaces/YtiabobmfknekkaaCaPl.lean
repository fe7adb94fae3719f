/- An order keeps its place, or goes behind all others: the walk. -/
import Derived.Test.YtiabobmfknekkaaCaV
import Derived.Test.YtiabobmfknekkaaCaS
import Derived.Test.YtiabobmfknekkaaCaEq
namespace Go.Proofs.Ytiabobmfknekkaa
open Go.Shelf Go.RowKit Go.Lib Go.Sort
set_option linter.unusedSimpArgs false
set_option linter.unusedVariables false

/-- The last place. -/
def lst (l : List Od) : Int := l.foldl (fun _ o => o.pl) 0
theorem lst_snoc {l : List Od} {k : Nat} {o : Od} (h : l[k]? = some o) : lst (l.take (k + 1)) = o.pl := by
  unfold lst
  rw [take_odd h, List.foldl_append]
  rfl
theorem lst_cases (l : List Od) : lst l = 0 ∨ ∃ o ∈ l, lst l = o.pl := by
  rcases List.eq_nil_or_concat l with e | ⟨s, o, e⟩
  · rw [e]; exact Or.inl rfl
  · right
    rw [e]
    refine ⟨o, by simp, ?_⟩
    unfold lst
    simp
theorem lst_lt {B : Bo} (h : BInv B) {k : Nat} {o : Od} (ho : B.os[k]? = some o) : lst (B.os.take k) < o.pl := by
  have hk := List.getElem?_eq_some_iff.1 ho
  have h1 := (h.pl o (List.mem_of_getElem? ho)).1
  rcases lst_cases (B.os.take k) with e | ⟨q, hq, e⟩
  · rw [e]; omega
  · rw [e]
    have hp := h.pls
    rw [← List.take_append_drop k B.os, List.pairwise_append] at hp
    refine hp.2.2 q hq o ?_
    rw [List.drop_eq_getElem_cons hk.1, hk.2]
    exact List.mem_cons_self ..
theorem lst_nx {B : Bo} (h : BInv B) : lst B.os < B.nx := by
  have h1 := h.nx1
  rcases lst_cases B.os with e | ⟨q, hq, e⟩
  · omega
  · have := (h.pl q hq).2; omega
theorem amend_err {B : Bo} {x y pr am : Int} (h : (B.amend x y pr am).1 ≠ 0) : (B.amend x y pr am).2 = B := by
  unfold Bo.amend at h ⊢
  split
  · rfl
  · split
    · rename_i h1 h2
      rw [if_neg h1, if_pos h2] at h
      unfold Bo.amd at h ⊢
      split
      · rfl
      · rename_i h3
        rw [if_neg h3] at h
        split
        · rename_i h4; rw [if_pos h4] at h; exact absurd rfl h
        · rename_i h4
          rw [if_neg h4] at h
          split
          · rfl
          · rename_i h5; rw [if_neg h5] at h; exact absurd rfl h
    · rfl
/-- What an amendment that is taken leaves. -/
theorem amend_ok {B : Bo} (hB : BInv B) {x pr am : Int} (h : (B.amend x (gtB B.os x).1.own pr am).1 = 0) (hI : BInv (B.amend x (gtB B.os x).1.own pr am).2) :
    (gtB B.os x).2 = true ∧ ∃ q, gtB (B.amend x (gtB B.os x).1.own pr am).2.os x = (q, true) ∧ q.am = am ∧ q.pr = pr ∧ q.by = (gtB B.os x).1.by ∧ (pr = (gtB B.os x).1.pr ∧ am ≤ (gtB B.os x).1.am → q.pl = (gtB B.os x).1.pl) ∧ (¬ (pr = (gtB B.os x).1.pr ∧ am ≤ (gtB B.os x).1.am) → q.pl = B.nx) := by
  rcases fnd_cases B.os x with ⟨f1, f2⟩ | ⟨i, o, f1, f2, f3, f4⟩
  · exfalso
    unfold Bo.amend at h
    rw [if_pos (by rw [f1]; decide)] at h
    exact absurd h (by intro hh; simp at hh)
  · have hg := gtB_some f1 f2 f3
    have he : B.amend x (gtB B.os x).1.own pr am = B.amd i o pr am := by
      unfold Bo.amend
      rw [if_neg (by rw [f1]; omega), if_pos rfl, f1, hg, Int.toNat_natCast]
    rw [he] at h hI ⊢
    rw [hg]
    refine ⟨rfl, ?_⟩
    unfold Bo.amd at h hI ⊢
    cases hm : mayB (o.amd pr am)
    · rw [if_pos hm] at h; exact absurd h (by intro hh; simp at hh)
    · rw [if_neg (by simp [hm])] at h hI ⊢
      by_cases t : pr = o.pr ∧ am ≤ o.am
      · rw [if_pos t] at hI ⊢
        refine ⟨o.amd pr am, ?_, rfl, rfl, rfl, fun _ => rfl, fun e => absurd t e⟩
        have := gtB_mem hI (o := o.amd pr am) (List.mem_set (by omega) _)
        rw [← f3]
        exact this
      · rw [if_neg t] at h hI ⊢
        by_cases hx : B.nx = 9007199254740992
        · rw [if_pos hx] at h; exact absurd h (by intro hh; simp at hh)
        · rw [if_neg hx] at hI ⊢
          refine ⟨(o.amd pr am).at_ B.nx, ?_, rfl, rfl, rfl, fun e => absurd e t, fun _ => rfl⟩
          have := gtB_mem hI (o := (o.amd pr am).at_ B.nx) (List.mem_append.2 (Or.inr (List.mem_singleton.2 rfl)))
          rw [← f3]
          exact this

set_option maxHeartbeats 16000000 in
set_option maxRecDepth 100000 in
theorem places80_calls (sv : Value) (l : List Ac) (id price amount : Int) (w : World) (hl : Acs w sv l) (hn : l.length * 56 ≤ 140737488351232) (h80 : l.length ≤ 80) :
    Calls Try.prog 3 #[sv, .int .i64 id, .int .i64 price, .int .i64 amount] w fun e w' => e = .returned (.bool true) ∧ Below w.heap.size w w' := by
  have HBG : Hid _ := begun_calls sv l w hl hn
  obtain ⟨B, hBe⟩ : ∃ B, runs l 100 = B := ⟨_, rfl⟩
  rw [hBe] at HBG
  obtain ⟨ad, cap, rfl, hc⟩ := Elems.any hl
  have q0 : ¬ (80 : Int) < (l.length : Int) := by omega
  have q00 : decide ((80 : Int) < (l.length : Int)) = false := decide_eq_false q0
  clear hc hl hBe
  go_enter Try.func3, Try.ntmps3
  go_wp2_with fail
  refine Calls.mono HBG.out ?_
  rintro e w1 ⟨rfl, v1, K1, b1⟩
  have HI : Hid _ := K1.inv
  have hz1 := b1.size
  obtain ⟨o, hoe⟩ : ∃ o, (gtB B.os id).1 = o := ⟨_, rfl⟩
  obtain ⟨ok, hoke⟩ : ∃ ok, (gtB B.os id).2 = ok := ⟨_, rfl⟩
  have HG2 : Hid (Calls Try.prog 7 #[.pointer (some ⟨w.heap.size, 0, none⟩), .int .i64 id] w1 fun e w' => e = .returned (.tuple #[.agg #[.int .i64 o.id, .int .i64 o.own, .int .i64 o.pr, .int .i64 o.am, .int .i64 o.pl, .bool o.by], .bool ok]) ∧ Below w1.heap.size w1 w') := by
    have q := get_calls id w1 K1
    rw [hoe, hoke] at q
    exact q
  have HK1 : Hid _ := K1
  have HOE : Hid _ := hoe
  have HOKE : Hid _ := hoke
  clear K1 hoe hoke
  go_wp2_with fail
  refine Calls.mono HG2.out ?_
  rintro e w2 ⟨rfl, b2⟩
  obtain ⟨W2, hW2, X2, B2, Z2⟩ : ∃ W2, (w2.alloc (.cells #[.int .i64 o.id, .int .i64 o.own, .int .i64 o.pr, .int .i64 o.am, .int .i64 o.pl, .bool o.by] 26)) = W2 ∧ Blk W2 w2.heap.size #[.int .i64 o.id, .int .i64 o.own, .int .i64 o.pr, .int .i64 o.am, .int .i64 o.pl, .bool o.by] 26 ∧ Below w2.heap.size w2 W2 ∧ w2.heap.size < W2.heap.size :=
    ⟨_, rfl, blk_new _ _ _ _ rfl, by go_grown, by simp⟩
  have B12 : Below w1.heap.size w1 W2 := b2.trans (B2.mono b2.size)
  have HO3 : Hid _ := orders_calls W2 (Bk.below HK1.out B12)
  have HX2 : Hid _ := X2
  clear X2
  go_wp2_with fail
  refine Calls.mono HO3.out ?_
  rintro e w3 ⟨v3, rfl, own3, b3⟩
  have B13 : Below w1.heap.size w1 w3 := B12.trans (b3.mono B12.size)
  have X3 := Blk.below HX2.out b3
  obtain ⟨oc, ocap, rfl⟩ := own_form own3
  have HD : Hid _ := ods_own own3
  have HK3 : Hid _ := Bk.below HK1.out B13
  have BW3 : Below w.heap.size w w3 := b1.trans (B13.mono hz1)
  have hlen := HI.out.len
  have HX3 : Hid _ := X3
  clear own3 X3
  go_wp2
  go_loopw [13, 14] (fun lv iv wr => ∃ k : Nat, k ≤ B.os.length ∧ iv = .int .i64 k ∧ lv = .int .i64 (lst (B.os.take k)) ∧ wr = w3) (fun _ iv _ => B.os.length - (intOf iv).toNat)
  case atStart => exact ⟨0, Nat.zero_le _, rfl, rfl, rfl⟩
  case round =>
    obtain ⟨k, hk, rfl, rfl, rfl⟩ := hrel
    by_cases hlt : k < B.os.length
    · have hkl : (k : Int) < (B.os.length : Int) := by omega
      obtain ⟨q, hq⟩ : ∃ q, B.os[k]? = some q := ⟨B.os[k], by simp [hlt]⟩
      obtain ⟨pz, cz, hvz, hcs⟩ := HD.out
      injection hvz with e1 _ e3
      subst e1 e3
      rcases hcs with hnil | ⟨gb, off, hp, hcs⟩
      · exfalso; rw [hnil] at hlt; simp at hlt
      subst hp
      have d4 := (Ods.six hcs hq).2.2.2.2.1
      have hl1 := lst_lt HI.out hq
      have HL : Hid _ := lst_snoc hq
      generalize lst (B.os.take k) = t at *
      generalize q.pl = y at *
      have hnle : ¬ y ≤ t := by omega
      have hnled : decide (y ≤ t) = false := decide_eq_false hnle
      clear hcs hq
      go_wp2
      exact ⟨⟨k + 1, by omega, by norm_cast, by rw [HL.out], by trivial⟩, by simp [intOf]; omega⟩
    · have hkl : ¬ (k : Int) < (B.os.length : Int) := by omega
      have htk : B.os.take k = B.os := List.take_of_length_le (by omega)
      rw [htk]
      have hln := lst_nx HI.out
      generalize hlt0 : lst B.os = t at *
      clear hlt0
      obtain ⟨r, hr⟩ : ∃ r, B.amend id o.own price amount = r := ⟨_, rfl⟩
      have HA : Hid _ := amend_calls id o.own price amount wr HK3.out (by have := BW3.size; omega) r hr
      have x0 : wr.cell? ⟨w2.heap.size, 0, none⟩ = some (.int .i64 o.id) := Blk.cell (w := wr) HX3.out rfl
      have x1 : wr.cell? ⟨w2.heap.size, 1, none⟩ = some (.int .i64 o.own) := Blk.cell (w := wr) HX3.out rfl
      have x2 : wr.cell? ⟨w2.heap.size, 2, none⟩ = some (.int .i64 o.pr) := Blk.cell (w := wr) HX3.out rfl
      have x3 : wr.cell? ⟨w2.heap.size, 3, none⟩ = some (.int .i64 o.am) := Blk.cell (w := wr) HX3.out rfl
      have x4 : wr.cell? ⟨w2.heap.size, 4, none⟩ = some (.int .i64 o.pl) := Blk.cell (w := wr) HX3.out rfl
      have x5 : wr.cell? ⟨w2.heap.size, 5, none⟩ = some (.bool o.by) := Blk.cell (w := wr) HX3.out rfl
      have hw2 : w2.heap.size < wr.heap.size := Blk.lt HX3.out
      have hz3 := BW3.size
      by_cases hr0 : r.1 = 0
      · have hr1 : (r.1 == 0) = true := by simpa using hr0
        have HOKC : Hid (∀ hIr : BInv r.2, ok = true ∧ ∃ q, gtB r.2.os id = (q, true) ∧ q.am = amount ∧ q.pr = price ∧ q.by = o.by ∧ (price = o.pr ∧ amount ≤ o.am → q.pl = o.pl) ∧ (¬ (price = o.pr ∧ amount ≤ o.am) → q.pl = B.nx)) := by
          intro hIr
          have q := amend_ok HI.out (x := id) (pr := price) (am := amount) (by rw [HOE.out, hr]; exact hr0) (by rw [HOE.out, hr]; exact hIr)
          rw [HOE.out, HOKE.out, hr] at q
          exact q
        rw [hr0] at HA
        have HR : Hid _ := hr
        clear hr hr0 hr1
        go_wp2_with fail
        refine Calls.mono HA.out ?_
        rintro e w5 ⟨rfl, v5, S5⟩
        obtain ⟨hokt, q, hgq, hqa, hqp, hqb, hqs⟩ := HOKC.out S5.bk.inv
        have HG6 : Hid (Calls Try.prog 7 #[.pointer (some ⟨w.heap.size, 0, none⟩), .int .i64 id] w5 fun e w' => e = .returned (.tuple #[.agg #[.int .i64 q.id, .int .i64 q.own, .int .i64 q.pr, .int .i64 q.am, .int .i64 q.pl, .bool q.by], .bool true]) ∧ Below w5.heap.size w5 w') := by
          have q6 := get_calls id w5 S5.bk
          rw [hgq] at q6
          exact q6
        have XO5 := Blk.ofb HX3.out S5.of (by have := Blk.lt HK1.out.blk; have := b2.size; omega) (fun e => by have := (HK1.out.row.lt _ e).2; have := b2.size; omega)
        have BW5 := S5.below HK3.out BW3 hz3
        have HXO5 : Hid _ := XO5
        have HQ : Hid _ := hqs
        subst hokt
        clear S5 hgq XO5 hqs
        go_wp2_with fail
        refine Calls.mono HG6.out ?_
        rintro e w6 ⟨rfl, b6⟩
        obtain ⟨W7, hW7, X7, B7, Z7⟩ : ∃ W7, (w6.alloc (.cells #[.int .i64 q.id, .int .i64 q.own, .int .i64 q.pr, .int .i64 q.am, .int .i64 q.pl, .bool q.by] 26)) = W7 ∧ Blk W7 w6.heap.size #[.int .i64 q.id, .int .i64 q.own, .int .i64 q.pr, .int .i64 q.am, .int .i64 q.pl, .bool q.by] 26 ∧ Below w6.heap.size w6 W7 ∧ w6.heap.size < W7.heap.size :=
          ⟨_, rfl, blk_new _ _ _ _ rfl, by go_grown, by simp⟩
        have XO7 : Blk W7 w2.heap.size #[.int .i64 o.id, .int .i64 o.own, .int .i64 o.pr, .int .i64 o.am, .int .i64 o.pl, .bool o.by] 26 := (Blk.below HXO5.out b6).below B7
        have y0 : W7.cell? ⟨w2.heap.size, 0, none⟩ = some (.int .i64 o.id) := XO7.cell rfl
        have y1 : W7.cell? ⟨w2.heap.size, 1, none⟩ = some (.int .i64 o.own) := XO7.cell rfl
        have y2 : W7.cell? ⟨w2.heap.size, 2, none⟩ = some (.int .i64 o.pr) := XO7.cell rfl
        have y3 : W7.cell? ⟨w2.heap.size, 3, none⟩ = some (.int .i64 o.am) := XO7.cell rfl
        have y4 : W7.cell? ⟨w2.heap.size, 4, none⟩ = some (.int .i64 o.pl) := XO7.cell rfl
        have y5 : W7.cell? ⟨w2.heap.size, 5, none⟩ = some (.bool o.by) := XO7.cell rfl
        have z0 : W7.cell? ⟨w6.heap.size, 0, none⟩ = some (.int .i64 q.id) := X7.cell rfl
        have z1 : W7.cell? ⟨w6.heap.size, 1, none⟩ = some (.int .i64 q.own) := X7.cell rfl
        have z2 : W7.cell? ⟨w6.heap.size, 2, none⟩ = some (.int .i64 q.pr) := X7.cell rfl
        have z3 : W7.cell? ⟨w6.heap.size, 3, none⟩ = some (.int .i64 q.am) := X7.cell rfl
        have z4 : W7.cell? ⟨w6.heap.size, 4, none⟩ = some (.int .i64 q.pl) := X7.cell rfl
        have z5 : W7.cell? ⟨w6.heap.size, 5, none⟩ = some (.bool q.by) := X7.cell rfl
        have BW7 : Below w.heap.size w W7 := (BW5.trans (b6.mono BW5.size)).trans (B7.mono (by have := BW5.size; have := b6.size; omega))
        clear XO7 X7 x0 x1 x2 x3 x4 x5
        rw [hqa] at z3
        rw [hqp] at z2
        rw [hqb] at z5
        have HQA : Hid _ := And.intro hqa (And.intro hqp hqb)
        clear hqa hqp hqb
        by_cases tp : price = o.pr
        · by_cases ta : amount ≤ o.am
          · have hqs := HQ.out.1 ⟨tp, ta⟩
            rw [hqs] at z4
            have u1 : (price == o.pr) = true := by simpa using tp
            have u2 : decide (amount ≤ o.am) = true := decide_eq_true ta
            have HTP : Hid _ := tp
            clear hqs tp
            go_wp2_with fail
            refine (awake_calls _).mono ?_
            rintro e w9 ⟨rfl, b9⟩
            go_wp2
            go_ret
            exact ⟨rfl, BW7.trans (b9.mono BW7.size)⟩
          · have hqs := HQ.out.2 (fun e => ta e.2)
            rw [hqs] at z4
            have u1 : (price == o.pr) = true := by simpa using tp
            have u2 : decide (amount ≤ o.am) = false := decide_eq_false ta
            have HTP : Hid _ := tp
            clear hqs tp
            go_wp2_with fail
            refine (awake_calls _).mono ?_
            rintro e w9 ⟨rfl, b9⟩
            go_wp2
            go_ret
            exact ⟨rfl, BW7.trans (b9.mono BW7.size)⟩
        · have hqs := HQ.out.2 (fun e => tp e.1)
          rw [hqs] at z4
          have u1 : (price == o.pr) = false := by simpa using tp
          clear hqs
          go_wp2_with fail
          refine (awake_calls _).mono ?_
          rintro e w9 ⟨rfl, b9⟩
          go_wp2
          go_ret
          exact ⟨rfl, BW7.trans (b9.mono BW7.size)⟩
      · have hr1 : (r.1 == 0) = false := by simpa using hr0
        have hrB : r.2 = B := by
          have q := amend_err (B := B) (x := id) (y := o.own) (pr := price) (am := amount) (by rw [hr]; exact hr0)
          rw [hr] at q
          exact q
        rw [hrB] at HA
        obtain ⟨r1, hr1e⟩ : ∃ r1, r.1 = r1 := ⟨_, rfl⟩
        rw [hr1e] at HA hr0 hr1
        clear hr hrB hr1e
        go_wp2_with fail
        refine Calls.mono HA.out ?_
        rintro e w5 ⟨rfl, v5, S5⟩
        have HG6 : Hid (Calls Try.prog 7 #[.pointer (some ⟨w.heap.size, 0, none⟩), .int .i64 id] w5 fun e w' => e = .returned (.tuple #[.agg #[.int .i64 o.id, .int .i64 o.own, .int .i64 o.pr, .int .i64 o.am, .int .i64 o.pl, .bool o.by], .bool ok]) ∧ Below w5.heap.size w5 w') := by
          have q := get_calls id w5 S5.bk
          rw [HOE.out, HOKE.out] at q
          exact q
        have XO5 := Blk.ofb HX3.out S5.of (by have := Blk.lt HK1.out.blk; have := b2.size; omega) (fun e => by have := (HK1.out.row.lt _ e).2; have := b2.size; omega)
        have BW5 := S5.below HK3.out BW3 hz3
        have HXO5 : Hid _ := XO5
        clear S5 XO5
        go_wp2_with fail
        refine Calls.mono HG6.out ?_
        rintro e w6 ⟨rfl, b6⟩
        obtain ⟨W7, hW7, X7, B7, Z7⟩ : ∃ W7, (w6.alloc (.cells #[.int .i64 o.id, .int .i64 o.own, .int .i64 o.pr, .int .i64 o.am, .int .i64 o.pl, .bool o.by] 26)) = W7 ∧ Blk W7 w6.heap.size #[.int .i64 o.id, .int .i64 o.own, .int .i64 o.pr, .int .i64 o.am, .int .i64 o.pl, .bool o.by] 26 ∧ Below w6.heap.size w6 W7 ∧ w6.heap.size < W7.heap.size :=
          ⟨_, rfl, blk_new _ _ _ _ rfl, by go_grown, by simp⟩
        have XO7 : Blk W7 w2.heap.size #[.int .i64 o.id, .int .i64 o.own, .int .i64 o.pr, .int .i64 o.am, .int .i64 o.pl, .bool o.by] 26 := (Blk.below HXO5.out b6).below B7
        have y0 : W7.cell? ⟨w2.heap.size, 0, none⟩ = some (.int .i64 o.id) := XO7.cell rfl
        have y1 : W7.cell? ⟨w2.heap.size, 1, none⟩ = some (.int .i64 o.own) := XO7.cell rfl
        have y2 : W7.cell? ⟨w2.heap.size, 2, none⟩ = some (.int .i64 o.pr) := XO7.cell rfl
        have y3 : W7.cell? ⟨w2.heap.size, 3, none⟩ = some (.int .i64 o.am) := XO7.cell rfl
        have y4 : W7.cell? ⟨w2.heap.size, 4, none⟩ = some (.int .i64 o.pl) := XO7.cell rfl
        have y5 : W7.cell? ⟨w2.heap.size, 5, none⟩ = some (.bool o.by) := XO7.cell rfl
        have z0 : W7.cell? ⟨w6.heap.size, 0, none⟩ = some (.int .i64 o.id) := X7.cell rfl
        have z1 : W7.cell? ⟨w6.heap.size, 1, none⟩ = some (.int .i64 o.own) := X7.cell rfl
        have z2 : W7.cell? ⟨w6.heap.size, 2, none⟩ = some (.int .i64 o.pr) := X7.cell rfl
        have z3 : W7.cell? ⟨w6.heap.size, 3, none⟩ = some (.int .i64 o.am) := X7.cell rfl
        have z4 : W7.cell? ⟨w6.heap.size, 4, none⟩ = some (.int .i64 o.pl) := X7.cell rfl
        have z5 : W7.cell? ⟨w6.heap.size, 5, none⟩ = some (.bool o.by) := X7.cell rfl
        have BW7 : Below w.heap.size w W7 := (BW5.trans (b6.mono BW5.size)).trans (B7.mono (by have := BW5.size; have := b6.size; omega))
        have heq : ∀ w, (binOp .eql 26 (.agg #[.int .i64 o.id, .int .i64 o.own, .int .i64 o.pr, .int .i64 o.am, .int .i64 o.pl, .bool o.by]) (.agg #[.int .i64 o.id, .int .i64 o.own, .int .i64 o.pr, .int .i64 o.am, .int .i64 o.pl, .bool o.by])).run Try.prog w = .ok (.bool true) w := fun w => by rw [eqO w o o, oEq_self]
        clear XO7 X7 x0 x1 x2 x3 x4 x5
        go_wp2_with fail
        refine (awake_calls _).mono ?_
        rintro e w9 ⟨rfl, b9⟩
        go_wp2
        go_ret
        exact ⟨rfl, BW7.trans (b9.mono BW7.size)⟩

set_option maxHeartbeats 16000000 in
set_option maxRecDepth 100000 in
theorem places81_calls (sv : Value) (l : List Ac) (id price amount : Int) (w : World) (hl : Acs w sv l) (hn : l.length * 56 ≤ 140737488351232) (h80 : ¬ l.length ≤ 80) :
    Calls Try.prog 3 #[sv, .int .i64 id, .int .i64 price, .int .i64 amount] w fun e w' => e = .returned (.bool true) ∧ Below w.heap.size w w' := by
  rcases hl with ⟨_, hnil⟩ | ⟨g, off, cap, rfl, hgl, hlc, hcs⟩
  · exfalso; rw [hnil] at h80; simp at h80
  have h80l : (l.take 80).length = 80 := by rw [List.length_take]; omega
  have hl2 : Acs w (.slice (some ⟨g, off, none⟩) 80 cap) (l.take 80) := Or.inr ⟨g, off, cap, by rw [h80l], hgl, by omega, fun i hi => by
    rw [List.getElem_take]
    exact hcs i (by omega)⟩
  have HBG : Hid _ := begun_calls _ (l.take 80) w hl2 (by rw [h80l]; omega)
  obtain ⟨B, hBe⟩ : ∃ B, runs (l.take 80) 100 = B := ⟨_, rfl⟩
  rw [hBe] at HBG
  have q0 : (80 : Int) < (l.length : Int) := by omega
  have q00 : decide ((80 : Int) < (l.length : Int)) = true := decide_eq_true q0
  have q01 : (80 : Int) ≤ (cap : Int) := by omega
  have q02 : ¬ cap = 0 := by omega
  clear hcs hBe hl2
  go_enter Try.func3, Try.ntmps3
  go_wp2_with fail
  refine Calls.mono HBG.out ?_
  rintro e w1 ⟨rfl, v1, K1, b1⟩
  have HI : Hid _ := K1.inv
  have hz1 := b1.size
  obtain ⟨o, hoe⟩ : ∃ o, (gtB B.os id).1 = o := ⟨_, rfl⟩
  obtain ⟨ok, hoke⟩ : ∃ ok, (gtB B.os id).2 = ok := ⟨_, rfl⟩
  have HG2 : Hid (Calls Try.prog 7 #[.pointer (some ⟨w.heap.size, 0, none⟩), .int .i64 id] w1 fun e w' => e = .returned (.tuple #[.agg #[.int .i64 o.id, .int .i64 o.own, .int .i64 o.pr, .int .i64 o.am, .int .i64 o.pl, .bool o.by], .bool ok]) ∧ Below w1.heap.size w1 w') := by
    have q := get_calls id w1 K1
    rw [hoe, hoke] at q
    exact q
  have HK1 : Hid _ := K1
  have HOE : Hid _ := hoe
  have HOKE : Hid _ := hoke
  clear K1 hoe hoke
  go_wp2_with fail
  refine Calls.mono HG2.out ?_
  rintro e w2 ⟨rfl, b2⟩
  obtain ⟨W2, hW2, X2, B2, Z2⟩ : ∃ W2, (w2.alloc (.cells #[.int .i64 o.id, .int .i64 o.own, .int .i64 o.pr, .int .i64 o.am, .int .i64 o.pl, .bool o.by] 26)) = W2 ∧ Blk W2 w2.heap.size #[.int .i64 o.id, .int .i64 o.own, .int .i64 o.pr, .int .i64 o.am, .int .i64 o.pl, .bool o.by] 26 ∧ Below w2.heap.size w2 W2 ∧ w2.heap.size < W2.heap.size :=
    ⟨_, rfl, blk_new _ _ _ _ rfl, by go_grown, by simp⟩
  have B12 : Below w1.heap.size w1 W2 := b2.trans (B2.mono b2.size)
  have HO3 : Hid _ := orders_calls W2 (Bk.below HK1.out B12)
  have HX2 : Hid _ := X2
  clear X2
  go_wp2_with fail
  refine Calls.mono HO3.out ?_
  rintro e w3 ⟨v3, rfl, own3, b3⟩
  have B13 : Below w1.heap.size w1 w3 := B12.trans (b3.mono B12.size)
  have X3 := Blk.below HX2.out b3
  obtain ⟨oc, ocap, rfl⟩ := own_form own3
  have HD : Hid _ := ods_own own3
  have HK3 : Hid _ := Bk.below HK1.out B13
  have BW3 : Below w.heap.size w w3 := b1.trans (B13.mono hz1)
  have hlen := HI.out.len
  have HX3 : Hid _ := X3
  clear own3 X3
  go_wp2
  go_loopw [13, 14] (fun lv iv wr => ∃ k : Nat, k ≤ B.os.length ∧ iv = .int .i64 k ∧ lv = .int .i64 (lst (B.os.take k)) ∧ wr = w3) (fun _ iv _ => B.os.length - (intOf iv).toNat)
  case atStart => exact ⟨0, Nat.zero_le _, rfl, rfl, rfl⟩
  case round =>
    obtain ⟨k, hk, rfl, rfl, rfl⟩ := hrel
    by_cases hlt : k < B.os.length
    · have hkl : (k : Int) < (B.os.length : Int) := by omega
      obtain ⟨q, hq⟩ : ∃ q, B.os[k]? = some q := ⟨B.os[k], by simp [hlt]⟩
      obtain ⟨pz, cz, hvz, hcs⟩ := HD.out
      injection hvz with e1 _ e3
      subst e1 e3
      rcases hcs with hnil | ⟨gb, off, hp, hcs⟩
      · exfalso; rw [hnil] at hlt; simp at hlt
      subst hp
      have d4 := (Ods.six hcs hq).2.2.2.2.1
      have hl1 := lst_lt HI.out hq
      have HL : Hid _ := lst_snoc hq
      generalize lst (B.os.take k) = t at *
      generalize q.pl = y at *
      have hnle : ¬ y ≤ t := by omega
      have hnled : decide (y ≤ t) = false := decide_eq_false hnle
      clear hcs hq
      go_wp2
      exact ⟨⟨k + 1, by omega, by norm_cast, by rw [HL.out], by trivial⟩, by simp [intOf]; omega⟩
    · have hkl : ¬ (k : Int) < (B.os.length : Int) := by omega
      have htk : B.os.take k = B.os := List.take_of_length_le (by omega)
      rw [htk]
      have hln := lst_nx HI.out
      generalize hlt0 : lst B.os = t at *
      clear hlt0
      obtain ⟨r, hr⟩ : ∃ r, B.amend id o.own price amount = r := ⟨_, rfl⟩
      have HA : Hid _ := amend_calls id o.own price amount wr HK3.out (by have := BW3.size; omega) r hr
      have x0 : wr.cell? ⟨w2.heap.size, 0, none⟩ = some (.int .i64 o.id) := Blk.cell (w := wr) HX3.out rfl
      have x1 : wr.cell? ⟨w2.heap.size, 1, none⟩ = some (.int .i64 o.own) := Blk.cell (w := wr) HX3.out rfl
      have x2 : wr.cell? ⟨w2.heap.size, 2, none⟩ = some (.int .i64 o.pr) := Blk.cell (w := wr) HX3.out rfl
      have x3 : wr.cell? ⟨w2.heap.size, 3, none⟩ = some (.int .i64 o.am) := Blk.cell (w := wr) HX3.out rfl
      have x4 : wr.cell? ⟨w2.heap.size, 4, none⟩ = some (.int .i64 o.pl) := Blk.cell (w := wr) HX3.out rfl
      have x5 : wr.cell? ⟨w2.heap.size, 5, none⟩ = some (.bool o.by) := Blk.cell (w := wr) HX3.out rfl
      have hw2 : w2.heap.size < wr.heap.size := Blk.lt HX3.out
      have hz3 := BW3.size
      by_cases hr0 : r.1 = 0
      · have hr1 : (r.1 == 0) = true := by simpa using hr0
        have HOKC : Hid (∀ hIr : BInv r.2, ok = true ∧ ∃ q, gtB r.2.os id = (q, true) ∧ q.am = amount ∧ q.pr = price ∧ q.by = o.by ∧ (price = o.pr ∧ amount ≤ o.am → q.pl = o.pl) ∧ (¬ (price = o.pr ∧ amount ≤ o.am) → q.pl = B.nx)) := by
          intro hIr
          have q := amend_ok HI.out (x := id) (pr := price) (am := amount) (by rw [HOE.out, hr]; exact hr0) (by rw [HOE.out, hr]; exact hIr)
          rw [HOE.out, HOKE.out, hr] at q
          exact q
        rw [hr0] at HA
        have HR : Hid _ := hr
        clear hr hr0 hr1
        go_wp2_with fail
        refine Calls.mono HA.out ?_
        rintro e w5 ⟨rfl, v5, S5⟩
        obtain ⟨hokt, q, hgq, hqa, hqp, hqb, hqs⟩ := HOKC.out S5.bk.inv
        have HG6 : Hid (Calls Try.prog 7 #[.pointer (some ⟨w.heap.size, 0, none⟩), .int .i64 id] w5 fun e w' => e = .returned (.tuple #[.agg #[.int .i64 q.id, .int .i64 q.own, .int .i64 q.pr, .int .i64 q.am, .int .i64 q.pl, .bool q.by], .bool true]) ∧ Below w5.heap.size w5 w') := by
          have q6 := get_calls id w5 S5.bk
          rw [hgq] at q6
          exact q6
        have XO5 := Blk.ofb HX3.out S5.of (by have := Blk.lt HK1.out.blk; have := b2.size; omega) (fun e => by have := (HK1.out.row.lt _ e).2; have := b2.size; omega)
        have BW5 := S5.below HK3.out BW3 hz3
        have HXO5 : Hid _ := XO5
        have HQ : Hid _ := hqs
        subst hokt
        clear S5 hgq XO5 hqs
        go_wp2_with fail
        refine Calls.mono HG6.out ?_
        rintro e w6 ⟨rfl, b6⟩
        obtain ⟨W7, hW7, X7, B7, Z7⟩ : ∃ W7, (w6.alloc (.cells #[.int .i64 q.id, .int .i64 q.own, .int .i64 q.pr, .int .i64 q.am, .int .i64 q.pl, .bool q.by] 26)) = W7 ∧ Blk W7 w6.heap.size #[.int .i64 q.id, .int .i64 q.own, .int .i64 q.pr, .int .i64 q.am, .int .i64 q.pl, .bool q.by] 26 ∧ Below w6.heap.size w6 W7 ∧ w6.heap.size < W7.heap.size :=
          ⟨_, rfl, blk_new _ _ _ _ rfl, by go_grown, by simp⟩
        have XO7 : Blk W7 w2.heap.size #[.int .i64 o.id, .int .i64 o.own, .int .i64 o.pr, .int .i64 o.am, .int .i64 o.pl, .bool o.by] 26 := (Blk.below HXO5.out b6).below B7
        have y0 : W7.cell? ⟨w2.heap.size, 0, none⟩ = some (.int .i64 o.id) := XO7.cell rfl
        have y1 : W7.cell? ⟨w2.heap.size, 1, none⟩ = some (.int .i64 o.own) := XO7.cell rfl
        have y2 : W7.cell? ⟨w2.heap.size, 2, none⟩ = some (.int .i64 o.pr) := XO7.cell rfl
        have y3 : W7.cell? ⟨w2.heap.size, 3, none⟩ = some (.int .i64 o.am) := XO7.cell rfl
        have y4 : W7.cell? ⟨w2.heap.size, 4, none⟩ = some (.int .i64 o.pl) := XO7.cell rfl
        have y5 : W7.cell? ⟨w2.heap.size, 5, none⟩ = some (.bool o.by) := XO7.cell rfl
        have z0 : W7.cell? ⟨w6.heap.size, 0, none⟩ = some (.int .i64 q.id) := X7.cell rfl
        have z1 : W7.cell? ⟨w6.heap.size, 1, none⟩ = some (.int .i64 q.own) := X7.cell rfl
        have z2 : W7.cell? ⟨w6.heap.size, 2, none⟩ = some (.int .i64 q.pr) := X7.cell rfl
        have z3 : W7.cell? ⟨w6.heap.size, 3, none⟩ = some (.int .i64 q.am) := X7.cell rfl
        have z4 : W7.cell? ⟨w6.heap.size, 4, none⟩ = some (.int .i64 q.pl) := X7.cell rfl
        have z5 : W7.cell? ⟨w6.heap.size, 5, none⟩ = some (.bool q.by) := X7.cell rfl
        have BW7 : Below w.heap.size w W7 := (BW5.trans (b6.mono BW5.size)).trans (B7.mono (by have := BW5.size; have := b6.size; omega))
        clear XO7 X7 x0 x1 x2 x3 x4 x5
        rw [hqa] at z3
        rw [hqp] at z2
        rw [hqb] at z5
        have HQA : Hid _ := And.intro hqa (And.intro hqp hqb)
        clear hqa hqp hqb
        by_cases tp : price = o.pr
        · by_cases ta : amount ≤ o.am
          · have hqs := HQ.out.1 ⟨tp, ta⟩
            rw [hqs] at z4
            have u1 : (price == o.pr) = true := by simpa using tp
            have u2 : decide (amount ≤ o.am) = true := decide_eq_true ta
            have HTP : Hid _ := tp
            clear hqs tp
            go_wp2_with fail
            refine (awake_calls _).mono ?_
            rintro e w9 ⟨rfl, b9⟩
            go_wp2
            go_ret
            exact ⟨rfl, BW7.trans (b9.mono BW7.size)⟩
          · have hqs := HQ.out.2 (fun e => ta e.2)
            rw [hqs] at z4
            have u1 : (price == o.pr) = true := by simpa using tp
            have u2 : decide (amount ≤ o.am) = false := decide_eq_false ta
            have HTP : Hid _ := tp
            clear hqs tp
            go_wp2_with fail
            refine (awake_calls _).mono ?_
            rintro e w9 ⟨rfl, b9⟩
            go_wp2
            go_ret
            exact ⟨rfl, BW7.trans (b9.mono BW7.size)⟩
        · have hqs := HQ.out.2 (fun e => tp e.1)
          rw [hqs] at z4
          have u1 : (price == o.pr) = false := by simpa using tp
          clear hqs
          go_wp2_with fail
          refine (awake_calls _).mono ?_
          rintro e w9 ⟨rfl, b9⟩
          go_wp2
          go_ret
          exact ⟨rfl, BW7.trans (b9.mono BW7.size)⟩
      · have hr1 : (r.1 == 0) = false := by simpa using hr0
        have hrB : r.2 = B := by
          have q := amend_err (B := B) (x := id) (y := o.own) (pr := price) (am := amount) (by rw [hr]; exact hr0)
          rw [hr] at q
          exact q
        rw [hrB] at HA
        obtain ⟨r1, hr1e⟩ : ∃ r1, r.1 = r1 := ⟨_, rfl⟩
        rw [hr1e] at HA hr0 hr1
        clear hr hrB hr1e
        go_wp2_with fail
        refine Calls.mono HA.out ?_
        rintro e w5 ⟨rfl, v5, S5⟩
        have HG6 : Hid (Calls Try.prog 7 #[.pointer (some ⟨w.heap.size, 0, none⟩), .int .i64 id] w5 fun e w' => e = .returned (.tuple #[.agg #[.int .i64 o.id, .int .i64 o.own, .int .i64 o.pr, .int .i64 o.am, .int .i64 o.pl, .bool o.by], .bool ok]) ∧ Below w5.heap.size w5 w') := by
          have q := get_calls id w5 S5.bk
          rw [HOE.out, HOKE.out] at q
          exact q
        have XO5 := Blk.ofb HX3.out S5.of (by have := Blk.lt HK1.out.blk; have := b2.size; omega) (fun e => by have := (HK1.out.row.lt _ e).2; have := b2.size; omega)
        have BW5 := S5.below HK3.out BW3 hz3
        have HXO5 : Hid _ := XO5
        clear S5 XO5
        go_wp2_with fail
        refine Calls.mono HG6.out ?_
        rintro e w6 ⟨rfl, b6⟩
        obtain ⟨W7, hW7, X7, B7, Z7⟩ : ∃ W7, (w6.alloc (.cells #[.int .i64 o.id, .int .i64 o.own, .int .i64 o.pr, .int .i64 o.am, .int .i64 o.pl, .bool o.by] 26)) = W7 ∧ Blk W7 w6.heap.size #[.int .i64 o.id, .int .i64 o.own, .int .i64 o.pr, .int .i64 o.am, .int .i64 o.pl, .bool o.by] 26 ∧ Below w6.heap.size w6 W7 ∧ w6.heap.size < W7.heap.size :=
          ⟨_, rfl, blk_new _ _ _ _ rfl, by go_grown, by simp⟩
        have XO7 : Blk W7 w2.heap.size #[.int .i64 o.id, .int .i64 o.own, .int .i64 o.pr, .int .i64 o.am, .int .i64 o.pl, .bool o.by] 26 := (Blk.below HXO5.out b6).below B7
        have y0 : W7.cell? ⟨w2.heap.size, 0, none⟩ = some (.int .i64 o.id) := XO7.cell rfl
        have y1 : W7.cell? ⟨w2.heap.size, 1, none⟩ = some (.int .i64 o.own) := XO7.cell rfl
        have y2 : W7.cell? ⟨w2.heap.size, 2, none⟩ = some (.int .i64 o.pr) := XO7.cell rfl
        have y3 : W7.cell? ⟨w2.heap.size, 3, none⟩ = some (.int .i64 o.am) := XO7.cell rfl
        have y4 : W7.cell? ⟨w2.heap.size, 4, none⟩ = some (.int .i64 o.pl) := XO7.cell rfl
        have y5 : W7.cell? ⟨w2.heap.size, 5, none⟩ = some (.bool o.by) := XO7.cell rfl
        have z0 : W7.cell? ⟨w6.heap.size, 0, none⟩ = some (.int .i64 o.id) := X7.cell rfl
        have z1 : W7.cell? ⟨w6.heap.size, 1, none⟩ = some (.int .i64 o.own) := X7.cell rfl
        have z2 : W7.cell? ⟨w6.heap.size, 2, none⟩ = some (.int .i64 o.pr) := X7.cell rfl
        have z3 : W7.cell? ⟨w6.heap.size, 3, none⟩ = some (.int .i64 o.am) := X7.cell rfl
        have z4 : W7.cell? ⟨w6.heap.size, 4, none⟩ = some (.int .i64 o.pl) := X7.cell rfl
        have z5 : W7.cell? ⟨w6.heap.size, 5, none⟩ = some (.bool o.by) := X7.cell rfl
        have BW7 : Below w.heap.size w W7 := (BW5.trans (b6.mono BW5.size)).trans (B7.mono (by have := BW5.size; have := b6.size; omega))
        have heq : ∀ w, (binOp .eql 26 (.agg #[.int .i64 o.id, .int .i64 o.own, .int .i64 o.pr, .int .i64 o.am, .int .i64 o.pl, .bool o.by]) (.agg #[.int .i64 o.id, .int .i64 o.own, .int .i64 o.pr, .int .i64 o.am, .int .i64 o.pl, .bool o.by])).run Try.prog w = .ok (.bool true) w := fun w => by rw [eqO w o o, oEq_self]
        clear XO7 X7 x0 x1 x2 x3 x4 x5
        go_wp2_with fail
        refine (awake_calls _).mono ?_
        rintro e w9 ⟨rfl, b9⟩
        go_wp2
        go_ret
        exact ⟨rfl, BW7.trans (b9.mono BW7.size)⟩

theorem places_calls (sv : Value) (l : List Ac) (id price amount : Int) (w : World) (hl : Acs w sv l) (hn : l.length * 56 ≤ 140737488351232) :
    Calls Try.prog 3 #[sv, .int .i64 id, .int .i64 price, .int .i64 amount] w fun e w' => e = .returned (.bool true) ∧ Below w.heap.size w w' := by
  by_cases h : l.length ≤ 80
  · exact places80_calls sv l id price amount w hl hn h
  · exact places81_calls sv l id price amount w hl hn h
end Go.Proofs.Ytiabobmfknekkaa
