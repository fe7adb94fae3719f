/- The house: buyers and sellers are settled. -/
import Derived.Test.YtpekfpfhonechaaGreatHw35
import Derived.Deep.DeepCutAuto
import Derived.Deep.CutBlock
namespace Go.Proofs.YtpekfpfhonechaaGreat
open Go.RowKit
set_option linter.unusedSimpArgs false
set_option linter.unusedVariables false
variable {p pl bl g : Nat} {l : Ks} {mV sV : Value} {now : Int}

def amF : List Cal.Fi → Int
  | [] => 0
  | f :: r => f.2.2 + amF r
def posF (l : List Cal.Fi) : Prop := ∀ f ∈ l, 0 < f.2.2 ∧ f.2.2 ≤ 1048576
def setl (g : Nat) (good price : Int) : Nat → Ks → List Cal.Fi → List Cal.Fi → Ks
  | k + 1, l, b :: bs, s :: ss => setl g good price k (tradeL g l good s.2.1 b.2.1 (min b.2.2 s.2.2) price) (lessF (b :: bs) (min b.2.2 s.2.2)) (lessF (s :: ss) (min b.2.2 s.2.2))
  | _, l, _, _ => l
theorem setl_nil (g : Nat) (good price : Int) (k : Nat) (l : Ks) (s : List Cal.Fi) : setl g good price k l [] s = l := by cases k <;> rfl
theorem setl_len (g : Nat) (good price : Int) : ∀ (k : Nat) (l : Ks) (b s : List Cal.Fi), (setl g good price k l b s).length = l.length
  | 0, l, b, s => rfl
  | k + 1, l, [], s => rfl
  | k + 1, l, b :: bs, [] => rfl
  | k + 1, l, b :: bs, s :: ss => by
    show (setl g good price k _ _ _).length = _
    rw [setl_len, tradeL_len]
theorem lessF_am (f : Cal.Fi) (r : List Cal.Fi) (n : Int) : amF (lessF (f :: r) n) = amF (f :: r) - n := by
  unfold lessF
  simp only [amF]
  split
  · omega
  · simp only [amF]; omega
theorem lessF_pos {f : Cal.Fi} {r : List Cal.Fi} {n : Int} (h : posF (f :: r)) (h0 : 0 ≤ n) (hn : n ≤ f.2.2) : posF (lessF (f :: r) n) := by
  have hf := h f (List.mem_cons_self ..)
  unfold lessF
  simp only
  split
  · exact fun x hx => h x (List.mem_cons_of_mem _ hx)
  · intro x hx
    rcases List.mem_cons.1 hx with rfl | hx
    · simp only; omega
    · exact h x (List.mem_cons_of_mem _ hx)
theorem lessF_len (f : Cal.Fi) (r : List Cal.Fi) (n : Int) : (lessF (f :: r) n).length ≤ r.length + 1 ∧ (f.2.2 = n → (lessF (f :: r) n).length = r.length) := by
  unfold lessF
  simp only
  split
  · exact ⟨by omega, fun _ => rfl⟩
  · exact ⟨by simp, fun e => by omega⟩
theorem amF_nonneg : ∀ {l : List Cal.Fi}, posF l → 0 ≤ amF l
  | [], _ => Int.le_refl _
  | f :: r, h => by
    have h1 := h f (List.mem_cons_self ..)
    have h2 := amF_nonneg (l := r) (fun x hx => h x (List.mem_cons_of_mem _ hx))
    simp only [amF]; omega
theorem Fw.cells {w : World} {base : Nat} {v : Value} {f : Cal.Fi} {r : List Cal.Fi} (h : Fw w base v (f :: r)) :
    ∃ q off cap, v = .slice (some ⟨q, off, none⟩) (r.length + 1) cap ∧ w.cell? ⟨q, off + 1, none⟩ = some (.int .i64 f.2.1) ∧ w.cell? ⟨q, off + 2, none⟩ = some (.int .i64 f.2.2) ∧ base ≤ q ∧ q < w.heap.size ∧ ∃ cs, Blk w q cs 163 := by
  obtain ⟨pp, cap, rfl, hc, hl | ⟨q, off, cur, rfl, hb, X, hf⟩⟩ := h
  · cases hl
  · refine ⟨q, off, cap, rfl, X.cell ?_, X.cell ?_, hb, X.lt, _, X⟩
    · have := hf 0 f rfl 1 _ rfl; simpa using this
    · have := hf 0 f rfl 2 _ rfl; simpa using this
theorem Fw.len {w : World} {base : Nat} {v : Value} {l : List Cal.Fi} (h : Fw w base v l) : ∃ pp cap, v = .slice pp l.length cap := by
  obtain ⟨pp, cap, rfl, _⟩ := h; exact ⟨pp, cap, rfl⟩
theorem Fw.elsw {w : World} {base : Nat} {v : Value} {f : Cal.Fi} {r : List Cal.Fi} (h : Fw w base v (f :: r)) {ts : List TypeId} (ht : 163 ∉ ts) : Elsw w (fun k => v.ownBlock = some k) ts := by
  obtain ⟨q, off, cap, rfl, _, _, _, _, cs, X⟩ := h.cells
  intro k ds t hk hm e
  simp only [Value.ownBlock, Option.some.injEq] at e
  subst e
  exact blk_unl hk X (fun e => ht (e ▸ hm)) rfl
def sliceLen : Value → Nat
  | .slice _ n _ => n
  | _ => 0

set_option maxRecDepth 100000 in
set_option maxHeartbeats 2000000 in
theorem settle_hs (w : World) (h : Ha w p pl bl g l mV sV now) {base : Nat} {vb vs : Value} {b s : List Cal.Fi} (hb : Fw w base vb b) (hs : Fw w base vs s) (hd : ∀ k, vb.ownBlock = some k → vs.ownBlock ≠ some k)
    (pb : posF b) (ps : posF s) (hsum : amF b = amF s) (hbl : b.length ≤ 1000) (hsl : s.length ≤ 1000) (good price : Int) (hp0 : 0 ≤ price) (hp1 : price ≤ 1099511627776) (hg : 0 ≤ good ∧ good < 4) :
    Calls Tryz.prog 91 #[.pointer (some ⟨p, 0, none⟩), .int .i64 good, .int .i64 price, vb, vs] w fun e w' => e = .returned (.tuple #[]) ∧ Ha w' p pl bl g (setl g good price (b.length + s.length) l b s) mV sV now ∧ Chg (fun k => k = bl ∨ vb.ownBlock = some k ∨ vs.ownBlock = some k) w w' := by
  obtain ⟨D, hD⟩ : ∃ D : Nat → Prop, (fun k => k = bl ∨ vb.ownBlock = some k ∨ vs.ownBlock = some k) = D := ⟨_, rfl⟩
  have HDb : Hid (∀ k, vb.ownBlock = some k → D k) := fun k hk => by rw [← hD]; exact Or.inr (Or.inl hk)
  have HDs : Hid (∀ k, vs.ownBlock = some k → D k) := fun k hk => by rw [← hD]; exact Or.inr (Or.inr hk)
  have HDl : Hid (D bl) := by rw [← hD]; exact Or.inl rfl
  rw [hD]
  obtain ⟨R, hR⟩ : ∃ R, setl g good price (b.length + s.length) l b s = R := ⟨_, rfl⟩
  rw [hR]
  have HI : Hid (∃ (k : Nat) (b' s' : List Cal.Fi) (l' : Ks), Fw w base vb b' ∧ Fw w base vs s' ∧ (∀ k, vb.ownBlock = some k → vs.ownBlock ≠ some k) ∧ posF b' ∧ posF s' ∧ amF b' = amF s' ∧ b'.length ≤ 1000 ∧ s'.length ≤ 1000 ∧ b'.length + s'.length ≤ k ∧ setl g good price k l' b' s' = R ∧ Ha w p pl bl g l' mV sV now ∧ (∀ k, vb.ownBlock = some k → D k) ∧ (∀ k, vs.ownBlock = some k → D k) ∧ Chg D w w) :=
    ⟨_, b, s, l, hb, hs, hd, pb, ps, hsum, hbl, hsl, Nat.le_refl _, hR, h, HDb.out, HDs.out, Chg.of_below (Below.refl _ _)⟩
  clear hD hb hs hd pb ps hsum hbl hsl hR h HDb HDs
  go_enter Tryz.func91, Tryz.ntmps91
  go_wp2_with fail
  go_loopw [3, 4] (fun vb vs wr => Hid (∃ (k : Nat) (b' s' : List Cal.Fi) (l' : Ks), Fw wr base vb b' ∧ Fw wr base vs s' ∧ (∀ k, vb.ownBlock = some k → vs.ownBlock ≠ some k) ∧ posF b' ∧ posF s' ∧ amF b' = amF s' ∧ b'.length ≤ 1000 ∧ s'.length ≤ 1000 ∧ b'.length + s'.length ≤ k ∧ setl g good price k l' b' s' = R ∧ Ha wr p pl bl g l' mV sV now ∧ (∀ k, vb.ownBlock = some k → D k) ∧ (∀ k, vs.ownBlock = some k → D k) ∧ Chg D w wr)) (fun vb vs _ => sliceLen vb + sliceLen vs)
  case atStart => exact HI
  case round =>
    clear HI
    obtain ⟨k, b', s', l', hb, hs, hd, pb, ps, hsum, hbl, hsl, hk, hR, hH, hDb, hDs, hC⟩ := hrel.out
    clear hrel
    cases b' with
    | nil =>
      obtain ⟨pp, cap, rfl⟩ := hb.len
      rw [setl_nil] at hR
      subst hR
      have HH : Hid _ := hH
      have HC : Hid _ := hC
      clear hb hs hd pb ps hsum hbl hsl hk hDb hDs hH hC
      go_wp2
      go_end0
      exact ⟨rfl, HH.out, HC.out⟩
    | cons f r =>
      cases s' with
      | nil =>
        exfalso
        have h1 := pb f (List.mem_cons_self ..)
        have h2 := amF_nonneg (l := r) (fun x hx => pb x (List.mem_cons_of_mem _ hx))
        simp only [amF] at hsum
        omega
      | cons f2 r2 =>
        obtain ⟨k, rfl⟩ : ∃ k', k = k' + 1 := ⟨k - 1, by simp only [List.length_cons] at hk; omega⟩
        obtain ⟨qb, ob, cb, rfl, b1, b2, hqb, hqb2, ccb, Xb⟩ := hb.cells
        obtain ⟨qs, os_, cs, rfl, s1, s2, hqs, hqs2, ccs, Xs⟩ := hs.cells
        have pf := pb f (List.mem_cons_self ..)
        have pf2 := ps f2 (List.mem_cons_self ..)
        obtain ⟨mn, hmn⟩ : ∃ mn, min f.2.2 f2.2.2 = mn := ⟨_, rfl⟩
        have hm0 : 0 < mn ∧ mn ≤ f.2.2 ∧ mn ≤ f2.2.2 ∧ (mn = f.2.2 ∨ mn = f2.2.2) := by omega
        have hR' : setl g good price k (tradeL g l' good f2.2.1 f.2.1 mn price) (lessF (f :: r) mn) (lessF (f2 :: r2) mn) = R := by rw [← hmn]; exact hR
        have hwr : IntKind.i64.wrap (mn * price) = mn * price := by
          have h1 : 0 ≤ mn * price := Int.mul_nonneg (by omega) hp0
          have h2 : mn * price ≤ 1048576 * 1099511627776 := Int.mul_le_mul (by omega) hp1 hp0 (by decide)
          rw [IntKind.wrap_i64]
          omega
        have HT : Hid (∀ wx, Ha wx p pl bl g l' mV sV now → _) := fun wx hx => trade_hs wx hx good f2.2.1 f.2.1 mn price hwr
        have HB : Hid _ := hb
        have HS : Hid _ := hs
        have HH : Hid _ := hH
        have HC : Hid _ := hC
        have HDb : Hid _ := hDb
        have HDs : Hid _ := hDs
        have Hd : Hid _ := hd
        have HRR : Hid _ := hR'
        have HL : Hid (posF (f :: r) ∧ posF (f2 :: r2) ∧ amF (f :: r) = amF (f2 :: r2) ∧ (f :: r).length ≤ 1000 ∧ (f2 :: r2).length ≤ 1000 ∧ (f :: r).length + (f2 :: r2).length ≤ k + 1) := ⟨pb, ps, hsum, hbl, hsl, hk⟩
        have HM : Hid _ := hm0
        have HPF : Hid _ := And.intro pf pf2
        have hlb : r.length ≤ 1000 := by simp only [List.length_cons] at hbl; omega
        have hls : r2.length ≤ 1000 := by simp only [List.length_cons] at hsl; omega
        clear hb hs hd pb ps hsum hbl hsl hk hR hR' hH hDb hDs hC hwr hm0 pf pf2
        obtain ⟨xb, hxb⟩ : ∃ x, f.2.2 = x := ⟨_, rfl⟩
        obtain ⟨xs, hxs⟩ : ∃ x, f2.2.2 = x := ⟨_, rfl⟩
        rw [hxb] at b2 hmn
        rw [hxs] at s2 hmn
        have HX : Hid (f.2.2 = xb ∧ f2.2.2 = xs) := ⟨hxb, hxs⟩
        clear hxb hxs
        have hd0 : decide (0 < ((r.length + 1 : Nat) : Int)) = true := decide_eq_true (by omega)
        go_upto_region 1 with fail
        have hnq : qb ≠ bl := blk_unl Xb HH.out.lg.row (by decide)
        have hnq2 : qs ≠ bl := blk_unl Xs HH.out.lg.row (by decide)
        refine wp_region_held_drew (S := (fun wx => wx.cell? ⟨qb, ob + 2, none⟩ = some (.int .i64 xb) ∧ wx.cell? ⟨qs, os_ + 2, none⟩ = some (.int .i64 xs))) (by kernel_rfl) ⟨b2, s2⟩ (fun hS => ?_)
        refine tkG (i := 0) (v := .slice (some ⟨qb, ob, none⟩) (r.length + 1) cb) rfl hS ?_
        refine tkH (i := 1) (v := .pointer (some ⟨qb, ob, none⟩)) rfl (fun w3 hS => by have e1 := hS.1; have e2 := hS.2; go_simp) hS ?_
        refine tkG (i := 2) (v := .pointer (some ⟨qb, ob + 2, none⟩)) rfl hS ?_
        refine tkH (i := 3) (v := .int .i64 xb) rfl (fun w3 hS => by have e1 := hS.1; have e2 := hS.2; go_simp) hS ?_
        refine tkG (i := 4) (v := .slice (some ⟨qs, os_, none⟩) (r2.length + 1) cs) rfl hS ?_
        refine tkH (i := 5) (v := .pointer (some ⟨qs, os_, none⟩)) rfl (fun w3 hS => by have e1 := hS.1; have e2 := hS.2; go_simp) hS ?_
        refine tkG (i := 6) (v := .pointer (some ⟨qs, os_ + 2, none⟩)) rfl hS ?_
        refine tkH (i := 7) (v := .int .i64 xs) rfl (fun w3 hS => by have e1 := hS.1; have e2 := hS.2; go_simp) hS ?_
        refine tkH (i := 8) (v := .int .i64 mn) rfl (fun w3 hS => by go_simp; first | done | (simp only [hmn]) | omega) hS ?_
        refine tkG (i := 9) (v := .int .i64 mn) rfl hS ?_
        refine wpAnyH_done (by kernel_rfl) ?_ _
        clear hmn
        go_upto_region 2 with fail
        refine wp_region_held_drew (S := (fun wx => Chg (fun k => k = bl) wr wx)) (by kernel_rfl) ((Chg.of_below (Below.refl wr.heap.size wr) : Chg (fun k => k = bl) wr wr).drew.drew) (fun hS => ?_)
        refine tkG (i := 0) (v := .pointer (some ⟨p, 0, none⟩)) rfl hS ?_
        refine tkG (i := 1) (v := .int .i64 good) rfl hS ?_
        refine tkG (i := 2) (v := .slice (some ⟨qs, os_, none⟩) (r2.length + 1) cs) rfl hS ?_
        refine tkH (i := 3) (v := .pointer (some ⟨qs, os_, none⟩)) rfl (fun w3 hS => by have e1 : w3.cell? ⟨qb, ob + 1, none⟩ = some (.int .i64 f.2.1) := Chg.cell hS b1 hnq; have e2 : w3.cell? ⟨qs, os_ + 1, none⟩ = some (.int .i64 f2.2.1) := Chg.cell hS s1 hnq2; go_simp) hS ?_
        refine tkG (i := 4) (v := .pointer (some ⟨qs, os_ + 1, none⟩)) rfl hS ?_
        refine tkH (i := 5) (v := .int .i64 f2.2.1) rfl (fun w3 hS => by have e1 : w3.cell? ⟨qb, ob + 1, none⟩ = some (.int .i64 f.2.1) := Chg.cell hS b1 hnq; have e2 : w3.cell? ⟨qs, os_ + 1, none⟩ = some (.int .i64 f2.2.1) := Chg.cell hS s1 hnq2; go_simp) hS ?_
        refine tkG (i := 6) (v := .slice (some ⟨qb, ob, none⟩) (r.length + 1) cb) rfl hS ?_
        refine tkH (i := 7) (v := .pointer (some ⟨qb, ob, none⟩)) rfl (fun w3 hS => by have e1 : w3.cell? ⟨qb, ob + 1, none⟩ = some (.int .i64 f.2.1) := Chg.cell hS b1 hnq; have e2 : w3.cell? ⟨qs, os_ + 1, none⟩ = some (.int .i64 f2.2.1) := Chg.cell hS s1 hnq2; go_simp) hS ?_
        refine tkG (i := 8) (v := .pointer (some ⟨qb, ob + 1, none⟩)) rfl hS ?_
        refine tkH (i := 9) (v := .int .i64 f.2.1) rfl (fun w3 hS => by have e1 : w3.cell? ⟨qb, ob + 1, none⟩ = some (.int .i64 f.2.1) := Chg.cell hS b1 hnq; have e2 : w3.cell? ⟨qs, os_ + 1, none⟩ = some (.int .i64 f2.2.1) := Chg.cell hS s1 hnq2; go_simp) hS ?_
        refine tkG (i := 10) (v := .int .i64 mn) rfl hS ?_
        refine tkG (i := 11) (v := .int .i64 price) rfl hS ?_
        refine wpAnyH_ready (rs := [12]) (by kernel_rfl) (by simp) ?_
        refine AllReadyH.cons rfl (fun K hK => ?_) AllReadyH.nil
        go_simp
        refine (HT.out _ ⟨HH.out.blk.drew.drew, HH.out.lg.drew.drew⟩).mono ?_
        rintro e w2 ⟨rfl, L2, o2⟩
        have hC2 : Chg (fun k => k = bl) wr w2 := ((Chg.of_below (Below.refl wr.heap.size wr) : Chg (fun k => k = bl) wr wr).drew.drew).trans (fun k hk => Or.inl hk) (Chg.of_off o2 rfl)
        have HA2 : Hid (Ha w2 p pl bl g (tradeL g l' good f2.2.1 f.2.1 mn price) mV sV now) := Ha.step (w := wr.drew.drew) ⟨HH.out.blk.drew.drew, HH.out.lg.drew.drew⟩ L2 o2 (tradeL_len _ _ _ _ _ _ _)
        refine hK.out _ _ hC2 (fun hS => ?_)
        clear hK
        refine wpAnyH_done (by kernel_rfl) ?_ _
        have HB2 : Fw w2 base (.slice (some ⟨qb, ob, none⟩) (r.length + 1) cb) (f :: r) := Fw.chg HB.out hC2 (fun _ k hk => by simp only [Value.ownBlock, Option.some.injEq] at hk; omega)
        have HS2 : Fw w2 base (.slice (some ⟨qs, os_, none⟩) (r2.length + 1) cs) (f2 :: r2) := Fw.chg HS.out hC2 (fun _ k hk => by simp only [Value.ownBlock, Option.some.injEq] at hk; omega)
        have hdis : qb ≠ qs := fun e => Hd.out qb rfl (by rw [e]; rfl)
        have HL1 : Hid _ := less_hs w2 HB2 mn (by omega) (by have := HM.out; have := HX.out; omega) (by have := HM.out; have := HPF.out; have := HX.out; omega)
        have HHS2 : Hid _ := HS2
        have HHB2 : Hid _ := HB2
        have HC2 : Hid _ := hC2
        clear hC2 HS2 HB2 o2 L2
        go_wp2_with fail
        refine Calls.mono HL1.out ?_
        rintro e w3 ⟨vb', rfl, F3, c3, own3⟩
        have HS3 : Fw w3 base (.slice (some ⟨qs, os_, none⟩) (r2.length + 1) cs) (f2 :: r2) := Fw.chg HHS2.out c3 (fun _ k hk e => by simp only [Value.ownBlock, Option.some.injEq] at hk e; omega)
        have HA3 : Hid _ := Ha.chg HA2.out c3 (Fw.elsw HHB2.out (by decide))
        have HL2 : Hid _ := less_hs w3 HS3 mn (by omega) (by have := HM.out; have := HX.out; omega) (by have := HM.out; have := HPF.out; have := HX.out; omega)
        have HHS3 : Hid _ := HS3
        have HF3 : Hid _ := F3
        have HC3 : Hid _ := c3
        have HO3 : Hid _ := own3
        clear HS3 F3 c3 own3
        go_wp2_with fail
        refine Calls.mono HL2.out ?_
        rintro e w4 ⟨vs', rfl, F4, c4, own4⟩
        have HB4 : Fw w4 base vb' (lessF (f :: r) mn) := Fw.chg HF3.out c4 (fun _ k hk e => by
          have h1 := HO3.out k hk
          simp only [Value.ownBlock, Option.some.injEq] at h1 e
          omega)
        have HA4 := Ha.chg HA3.out c4 (Fw.elsw HHS3.out (by decide))
        have HD4 : ∀ k, vb'.ownBlock = some k → vs'.ownBlock ≠ some k := fun k hk hk2 => Hd.out k (HO3.out k hk) (own4 k hk2)
        have hall : Chg D wr w4 := by
          refine (⟨HC2.out.os, HC2.out.tape, HC2.out.output, HC2.out.size, fun k hk hn => HC2.out.block k hk (fun e => hn (e ▸ HDl.out))⟩ : Chg D wr w2).trans (E := D) (fun k hk => Or.inl hk) ?_
          refine (⟨HC3.out.os, HC3.out.tape, HC3.out.output, HC3.out.size, fun k hk hn => HC3.out.block k hk (fun e => hn (HDb.out k e))⟩ : Chg D w2 w3).trans (E := D) (fun k hk => Or.inl hk) ?_
          exact ⟨c4.os, c4.tape, c4.output, c4.size, fun k hk hn => c4.block k hk (fun e => hn (HDs.out k e))⟩
        have hCC : Chg D w w4 := HC.out.trans (fun k hk => Or.inl hk) hall
        obtain ⟨pb, ps, hsum, hbl, hsl, hk⟩ := HL.out
        have hM := HM.out
        have hXX := HX.out
        have l1 := lessF_len f r mn
        have l2 := lessF_len f2 r2 mn
        have a1 := lessF_am f r mn
        have a2 := lessF_am f2 r2 mn
        have p1 := lessF_pos (r := r) pb (show 0 ≤ mn by omega) (by omega)
        have p2 := lessF_pos (r := r2) ps (show 0 ≤ mn by omega) (by omega)
        obtain ⟨pp4, cp4, hv4⟩ := HB4.len
        obtain ⟨pq4, cq4, hv5⟩ := F4.len
        simp only [List.length_cons] at hbl hsl hk
        have hlt : (lessF (f :: r) mn).length + (lessF (f2 :: r2) mn).length ≤ k := by
          rcases hM.2.2.2 with e | e
          · have := l1.2 (by omega); omega
          · have := l2.2 (by omega); omega
        have HFIN : Hid (∃ (k : Nat) (b' s' : List Cal.Fi) (l' : Ks), Fw w4 base vb' b' ∧ Fw w4 base vs' s' ∧ (∀ k, vb'.ownBlock = some k → vs'.ownBlock ≠ some k) ∧ posF b' ∧ posF s' ∧ amF b' = amF s' ∧ b'.length ≤ 1000 ∧ s'.length ≤ 1000 ∧ b'.length + s'.length ≤ k ∧ setl g good price k l' b' s' = R ∧ Ha w4 p pl bl g l' mV sV now ∧ (∀ k, vb'.ownBlock = some k → D k) ∧ (∀ k, vs'.ownBlock = some k → D k) ∧ Chg D w w4) :=
          ⟨k, _, _, _, HB4, F4, HD4, p1, p2, by rw [a1, a2, hsum], by omega, by omega, hlt, HRR.out, HA4, fun k hk => HDb.out k (HO3.out k hk), fun k hk => HDs.out k (own4 k hk), hCC⟩
        have HMS : Hid (sliceLen vb' + sliceLen vs' < sliceLen (.slice (some ⟨qb, ob, none⟩) (r.length + 1) cb) + sliceLen (.slice (some ⟨qs, os_, none⟩) (r2.length + 1) cs)) := by
          show sliceLen vb' + sliceLen vs' < (r.length + 1) + (r2.length + 1)
          rw [hv4, hv5]
          show (lessF (f :: r) mn).length + (lessF (f2 :: r2) mn).length < _
          rcases hM.2.2.2 with e | e
          · have := l1.2 (by omega); omega
          · have := l2.2 (by omega); omega
        clear hv4 hv5 hlt p1 p2 a1 a2 l1 l2 hM hXX pb ps hsum hbl hsl hk hCC hall HD4 HA4 HB4 F4 c4 own4
        go_wp2_with fail
        exact ⟨HFIN, HMS.out⟩
end Go.Proofs.YtpekfpfhonechaaGreat
