/- The house: replies, numbers of orders, what an order binds, why a request is refused, the order of a request. -/
import Derived.Test.YtpekfpfhonechaaGreatWa32
import Derived.Test.YtpekfpfhonechaaGreatWa21
import Derived.Test.YtpekfpfhonechaaGreatWa03
import Derived.Test.YtpekfpfhonechaaGreatWa04
import Derived.Test.YtpekfpfhonechaaGreatWa29
import Derived.Test.YtpekfpfhonechaaGreatWa01
import Derived.Test.YtpekfpfhonechaaGreatWa24
import Derived.Test.YtpekfpfhonechaaGreatWa10
namespace Go.Proofs.YtpekfpfhonechaaGreat
open Go.RowKit
set_option linter.unusedSimpArgs false
set_option linter.unusedVariables false
variable {p pl bl g : Nat} {l : Ks} {mV sV : Value} {now : Int}

/-- A reply. -/
def layR (e n : Int) : ByteArray := (⟨(enc e.toNat).toArray⟩ : ByteArray) ++ (⟨(enc n.toNat).toArray⟩ : ByteArray)
theorem layR_size (e n : Int) : (layR e n).size ≤ 20 := by
  have h1 := enc_le e.toNat
  have h2 := enc_le n.toNat
  unfold layR
  rw [ByteArray.size_append]
  show (enc e.toNat).toArray.size + (enc n.toNat).toArray.size ≤ 20
  simp only [List.size_toArray]
  omega
set_option maxRecDepth 100000 in
theorem laid_hs (e n : Int) (w : World) (h0 : 0 ≤ e) (h1 : e ≤ 9007199254740992) (h2 : 0 ≤ n) (h3 : n ≤ 9007199254740992) :
    Calls Tryz.prog 34 #[.int .i64 e, .int .i64 n] w fun e' w' => e' = .returned (.string (layR e n)) ∧ Below w.heap.size w w' := by
  obtain ⟨e, rfl⟩ := Int.eq_ofNat_of_zero_le h0
  obtain ⟨n, rfl⟩ := Int.eq_ofNat_of_zero_le h2
  have H1 : Hid _ := fun wx => putInt_ok e wx (by omega)
  have H2 : Hid _ := fun wx => putInt_ok n wx (by omega)
  unfold layR
  rw [Int.toNat_natCast, Int.toNat_natCast]
  have z1 : (⟨(enc e).toArray⟩ : ByteArray).size ≤ 10 := by
    have := enc_le e
    show (enc e).toArray.size ≤ 10
    simpa using this
  have z2 : (⟨(enc n).toArray⟩ : ByteArray).size ≤ 10 := by
    have := enc_le n
    show (enc n).toArray.size ≤ 10
    simpa using this
  generalize (⟨(enc e).toArray⟩ : ByteArray) = s1 at *
  generalize (⟨(enc n).toArray⟩ : ByteArray) = s2 at *
  go_enter Tryz.func34, Tryz.ntmps34
  go_wp2_with fail
  refine (H1.out _).mono ?_
  rintro e1 w1 ⟨rfl, b1⟩
  go_wp2_with fail
  refine (H2.out _).mono ?_
  rintro e2 w2 ⟨rfl, b2⟩
  go_wp2
  go_ret
  exact ⟨rfl, b1.trans (b2.mono b1.size)⟩
set_option maxRecDepth 100000 in
theorem numberOf_hs (who i : Int) (w : World) (h0 : 0 ≤ who) (h1 : who ≤ 1000) (h2 : 0 ≤ i) (h3 : i ≤ 9007199254740992) :
    Calls Tryz.prog 86 #[.int .i64 who, .int .i64 i] w fun e w' => e = .returned (.int .i64 (16 * i + who)) ∧ w' = w := by
  go_enter Tryz.func86, Tryz.ntmps86
  go_wp2
  go_ret
  exact ⟨rfl, rfl⟩

/-- What an order lets be bound, and how much. -/
def bndT (good : Int) (o : Cal.Od) : Int := if o.by = true then -1 else good
def bndN (o : Cal.Od) : Int := if o.by = true then o.pr * o.am else o.am
set_option maxRecDepth 100000 in
set_option maxHeartbeats 1000000 in
theorem binds_hs (good : Int) (o : Cal.Od) (w : World) (hw : IntKind.i64.wrap (o.pr * o.am) = o.pr * o.am) :
    Calls Tryz.prog 82 #[.int .i64 good, .agg (Cal.oC o).toArray] w fun e w' => e = .returned (.tuple #[.int .i64 (bndT good o), .int .i64 (bndN o)]) ∧ Below w.heap.size w w' := by
  obtain ⟨W, hW, X, B⟩ : ∃ W, (w.alloc (.cells (Cal.oC o).toArray 51)) = W ∧ Blk W w.heap.size (Cal.oC o).toArray 51 ∧ Below w.heap.size w W := ⟨_, rfl, blk_new _ _ _ _ rfl, by go_grown⟩
  have d2 : W.cell? ⟨w.heap.size, 2, none⟩ = some (.int .i64 o.pr) := X.cell rfl
  have d3 : W.cell? ⟨w.heap.size, 3, none⟩ = some (.int .i64 o.am) := X.cell rfl
  have d5 : W.cell? ⟨w.heap.size, 5, none⟩ = some (.bool o.by) := X.cell rfl
  have HE : Hid (bndT good o = (if o.by = true then -1 else good) ∧ bndN o = (if o.by = true then o.pr * o.am else o.am)) := ⟨rfl, rfl⟩
  generalize bndT good o = T at *
  generalize bndN o = N at *
  generalize hC : (Cal.oC o).toArray = C at *
  have hCs : Hid _ := hC
  clear hC
  generalize o.pr = pr at *
  generalize o.am = am at *
  cases hb : o.by
  · rw [hb] at HE d5
    obtain ⟨h1, h2⟩ := HE.out
    clear X hb HE
    go_enter Tryz.func82, Tryz.ntmps82
    go_wp2
    repeat (go_region; go_wp2)
    refine bodyPost_ret (by simp [results, Tryz.results82, go_sem]; rfl) rfl ?_
    exact ⟨by rw [h1, h2]; rfl, by first | exact B | exact B.drew | exact B.drew.drew⟩
  · rw [hb] at HE d5
    obtain ⟨h1, h2⟩ := HE.out
    clear X hb HE
    go_enter Tryz.func82, Tryz.ntmps82
    go_wp2
    repeat (go_region; go_wp2)
    refine bodyPost_ret (by simp [results, Tryz.results82, go_sem]; rfl) rfl ?_
    exact ⟨by rw [h1, h2]; rfl, by first | exact B | exact B.drew | exact B.drew.drew⟩

/-- Why a request is not looked at. -/
def refR (l : Ks) (who stamp : Int) : Int :=
  if ¬ (0 ≤ who ∧ who ≤ (l.length : Int) - 1) then 60 else if ¬ (1 ≤ stamp ∧ stamp ≤ 1099511627776) then 1 else if stamp ≤ (Led.kAt l who.toNat).n 10 then 91 else 0
set_option maxRecDepth 100000 in
set_option maxHeartbeats 1000000 in
theorem refuse_hs (w : World) (h : Ha w p pl bl g l mV sV now) (who stamp : Int) :
    Calls Tryz.prog 33 #[.pointer (some ⟨p, 0, none⟩), .int .i64 who, .int .i64 stamp] w fun e w' => e = .returned (.int .i64 (refR l who stamp)) ∧ Below w.heap.size w w' := by
  have c0 : w.cell? ⟨p, 0, none⟩ = some (.int .i64 l.length) := h.blk.cell rfl
  have c1 : w.cell? ⟨p, 1, none⟩ = some (.pointer (some ⟨pl, 0, none⟩)) := h.blk.cell rfl
  have hma := made_hs w h
  have hlen := h.lg.inv.len
  have hpos := h.lg.inv.pos
  have HW1 : Hid _ := within_hs who 0 ((l.length : Int) - 1) w
  have HW2 : Hid _ := within_hs stamp 1 1099511627776 w
  obtain ⟨R, hR⟩ : ∃ R, refR l who stamp = R := ⟨_, rfl⟩
  rw [hR]
  unfold refR at hR
  by_cases h1 : 0 ≤ who ∧ who ≤ (l.length : Int) - 1
  · have HL : Hid _ := Led.last_ok w h.lg who h1.1 (by omega)
    rw [if_neg (not_not_intro h1)] at hR
    rw [decide_eq_true h1] at HW1
    clear h h1
    by_cases h2 : 1 ≤ stamp ∧ stamp ≤ 1099511627776
    · rw [if_neg (not_not_intro h2)] at hR
      rw [decide_eq_true h2] at HW2
      clear h2
      generalize Led.kAt l who.toNat = kk at *
      generalize hs : kk.n 10 = s at *
      by_cases h3 : stamp ≤ s
      · rw [if_pos h3] at hR
        have hd : decide (stamp ≤ s) = true := decide_eq_true h3
        clear h3 hs
        subst hR
        go_enter Tryz.func33, Tryz.ntmps33
        go_wp2_with fail
        refine hma.mono ?_
        rintro e w1 ⟨rfl, rfl⟩
        go_wp2_with fail
        refine Calls.mono HW1.out ?_
        rintro e w2 ⟨rfl, rfl⟩
        go_wp2_with fail
        refine Calls.mono HW2.out ?_
        rintro e w3 ⟨rfl, rfl⟩
        go_wp2_with fail
        refine Calls.mono HL.out ?_
        rintro e w4 ⟨rfl, b4⟩
        go_wp2
        go_ret
        exact ⟨rfl, b4⟩
      · rw [if_neg h3] at hR
        have hd : decide (stamp ≤ s) = false := decide_eq_false h3
        clear h3 hs
        subst hR
        go_enter Tryz.func33, Tryz.ntmps33
        go_wp2_with fail
        refine hma.mono ?_
        rintro e w1 ⟨rfl, rfl⟩
        go_wp2_with fail
        refine Calls.mono HW1.out ?_
        rintro e w2 ⟨rfl, rfl⟩
        go_wp2_with fail
        refine Calls.mono HW2.out ?_
        rintro e w3 ⟨rfl, rfl⟩
        go_wp2_with fail
        refine Calls.mono HL.out ?_
        rintro e w4 ⟨rfl, b4⟩
        go_wp2
        go_ret
        exact ⟨rfl, b4⟩
    · rw [if_pos h2] at hR
      rw [decide_eq_false h2] at HW2
      clear h2
      subst hR
      go_enter Tryz.func33, Tryz.ntmps33
      go_wp2_with fail
      refine hma.mono ?_
      rintro e w1 ⟨rfl, rfl⟩
      go_wp2_with fail
      refine Calls.mono HW1.out ?_
      rintro e w2 ⟨rfl, rfl⟩
      go_wp2_with fail
      refine Calls.mono HW2.out ?_
      rintro e w3 ⟨rfl, rfl⟩
      go_wp2
      go_ret
      exact ⟨rfl, Below.refl _ _⟩
  · rw [if_pos h1] at hR
    rw [decide_eq_false h1] at HW1
    clear h1 h
    subst hR
    go_enter Tryz.func33, Tryz.ntmps33
    go_wp2_with fail
    refine hma.mono ?_
    rintro e w1 ⟨rfl, rfl⟩
    go_wp2_with fail
    refine Calls.mono HW1.out ?_
    rintro e w2 ⟨rfl, rfl⟩
    go_wp2
    go_ret
    exact ⟨rfl, Below.refl _ _⟩
end Go.Proofs.YtpekfpfhonechaaGreat

namespace Go.Proofs.YtpekfpfhonechaaGreat
open Go.RowKit
set_option linter.unusedSimpArgs false
set_option linter.unusedVariables false

/-- All but some blocks is as it was. -/
structure Chg (D : Nat → Prop) (w w' : World) : Prop where
  os : w'.os = w.os
  tape : w'.tape = w.tape
  output : w'.output = w.output
  size : w.heap.size ≤ w'.heap.size
  block : ∀ k, k < w.heap.size → ¬ D k → w'.heap[k]? = w.heap[k]?
theorem Chg.of_below {D : Nat → Prop} {w w' : World} (h : Below w.heap.size w w') : Chg D w w' := ⟨h.os, h.tape, h.output, h.size, fun k hk _ => h.block k hk⟩
theorem Chg.of_off {D : Nat → Prop} {b : Nat} {w w' : World} (h : Off b w w') (hd : D b) : Chg D w w' := ⟨h.os, h.tape, h.output, h.size, fun k hk hn => h.block k hk (fun e => hn (e ▸ hd))⟩
theorem Chg.of_ofb {D : Nat → Prop} {p : Nat} {v : Value} {w w' : World} (h : Cal.Ofb p v w w') (hp : D p) (hv : ∀ k, v.ownBlock = some k → D k) : Chg D w w' :=
  ⟨h.os, h.tape, h.output, h.size, fun k hk hn => h.block k hk (fun e => hn (e ▸ hp)) (fun e => hn (hv k e))⟩
theorem Chg.of_ofc {D : Nat → Prop} {p b : Nat} {w w' : World} (h : Clo.Ofc p b w w') (hp : D p) (hb : D b) : Chg D w w' :=
  ⟨h.os, h.tape, h.output, h.size, fun k hk hn => h.block k hk (fun e => hn (e ▸ hp)) (fun e => hn (e ▸ hb))⟩
theorem Chg.trans {D E : Nat → Prop} {a b c : World} (h : Chg D a b) (hE : ∀ k, E k → D k ∨ a.heap.size ≤ k) (k : Chg E b c) : Chg D a c :=
  ⟨k.os.trans h.os, k.tape.trans h.tape, k.output.trans h.output, Nat.le_trans h.size k.size, fun i hi hn => (k.block i (Nat.lt_of_lt_of_le hi h.size) (fun e => by
    rcases hE i e with f | f
    · exact hn f
    · omega)).trans (h.block i hi hn)⟩
theorem Blk.chg {D : Nat → Prop} {w w' : World} {k : Nat} {cs : Array Value} {t : TypeId} (h : Blk w k cs t) (c : Chg D w w') (hn : ¬ D k) : Blk w' k cs t := (c.block k h.lt hn).trans h
theorem Chg.cell {D : Nat → Prop} {w w' : World} (c : Chg D w w') {a : Addr} {u : Value} (hu : w.cell? a = some u) (hn : ¬ D a.block) : w'.cell? a = some u := by
  have hb := World.block_lt_of_cell? w _ hu
  have h := c.block a.block hb hn
  rw [← hu]
  unfold World.cell?
  rw [h]
theorem Chg.drew {D : Nat → Prop} {w w' : World} (c : Chg D w w') : Chg D w w'.drew := ⟨c.os, c.tape, c.output, c.size, c.block⟩
theorem own_chg {D : Nat → Prop} {w w' : World} {base : Nat} {e : TypeId} {sz : Nat} {v : Value} {n : Nat} {xs : List Value} (ho : w.ownsRow base e sz v n xs) (c : Chg D w w') (hn : ∀ k, v.ownBlock = some k → ¬ D k) : w'.ownsRow base e sz v n xs := by
  obtain ⟨h1, ⟨rfl, h2⟩ | ⟨q, cap, cur, rfl, hb, hh, rest⟩⟩ := ho
  · exact ⟨h1, Or.inl ⟨rfl, h2⟩⟩
  · refine ⟨h1, Or.inr ⟨q, cap, cur, rfl, hb, ?_, rest⟩⟩
    have hq : q < w.heap.size := by
      rcases Nat.lt_or_ge q w.heap.size with h | h
      · exact h
      · rw [Array.getElem?_eq_none h] at hh; cases hh
    exact (c.block q hq (hn q rfl)).trans hh
theorem own_unl {w : World} {base : Nat} {e u : TypeId} {sz : Nat} {v : Value} {n j : Nat} {xs : List Value} {cs : Array Value} (ho : w.ownsRow base e sz v n xs) (h : Blk w j cs u) (hne : e ≠ u) : v.ownBlock ≠ some j := by
  obtain ⟨h1, ⟨rfl, h2⟩ | ⟨q, cap, cur, rfl, hb, hh, rest⟩⟩ := ho
  · simp [Value.ownBlock]
  · intro e1
    simp only [Value.ownBlock, Option.some.injEq] at e1
    subst e1
    unfold Blk at h
    rw [hh] at h
    simp only [Option.some.injEq, Obj.cells.injEq] at h
    exact hne h.2.1

/-- The markets: each one's block and the row of its orders; the row of the pointers to them. -/
structure Mks (w : World) (base g qm : Nat) (bs : List (Nat × Value)) (ms : List Cal.Bo) : Prop where
  nb : bs.length = g
  nm : ms.length = g
  row : ∃ cs : Array Value, Blk w qm cs 72 ∧ ∀ (i : Nat) (b : Nat × Value), bs[i]? = some b → cs[i]? = some (Value.pointer (some ⟨b.1, 0, none⟩))
  bk : ∀ (i : Nat) (b : Nat × Value) (B : Cal.Bo), bs[i]? = some b → ms[i]? = some B → Cal.Bk w base b.1 b.2 B
  dis : ∀ (i j : Nat) (b c : Nat × Value), bs[i]? = some b → bs[j]? = some c → i ≠ j → b.1 ≠ c.1 ∧ ∀ k, b.2.ownBlock = some k → c.2.ownBlock ≠ some k
def ptrS (a : Option (Nat × Nat × Nat)) : Value := .pointer (a.map fun x => ⟨x.1, 0, none⟩)
/-- The auctions: each one's blocks; the row of the pointers to them. -/
structure Sls (w : World) (base g qs : Nat) (sl : List (Option (Nat × Nat × Nat))) (ss : List (Option (Clo.Au × Int))) : Prop where
  ns : sl.length = g
  nn : ss.length = g
  row : Blk w qs (sl.map ptrS).toArray 57
  non : ∀ i : Nat, sl[i]? = some none ↔ ss[i]? = some none
  sal : ∀ (i : Nat) a x, sl[i]? = some (some a) → ss[i]? = some (some x) → Blk w a.1 #[.pointer (some ⟨a.2.1, 0, none⟩), .int .i64 x.2] 66 ∧ Clo.Lc w a.2.1 a.2.2 x.1 ∧ base ≤ a.2.1 ∧ base ≤ a.2.2
  dis : ∀ (i j : Nat) a c, sl[i]? = some (some a) → sl[j]? = some (some c) → i ≠ j → a.1 ≠ c.1 ∧ a.2.1 ≠ c.2.1 ∧ a.2.2 ≠ c.2.2
theorem get_both {α β : Type} {a : List α} {b : List β} {i : Nat} {x : α} (h : a[i]? = some x) (e : b.length = a.length) : ∃ y, b[i]? = some y := by
  have := (List.getElem?_eq_some_iff.1 h).1
  exact ⟨b[i]'(by omega), by simp⟩
theorem Cal.Bk.chg {D : Nat → Prop} {w w' : World} {base p : Nat} {v : Value} {B : Cal.Bo} (h : Cal.Bk w base p v B) (c : Chg D w w') (hp : ¬ D p) (hv : ∀ k, v.ownBlock = some k → ¬ D k) : Cal.Bk w' base p v B :=
  ⟨h.blk.chg c hp, own_chg h.row c hv, h.le, h.ne, h.inv⟩
theorem Clo.Lc.chg {D : Nat → Prop} {w w' : World} {p b : Nat} {A : Clo.Au} (h : Clo.Lc w p b A) (c : Chg D w w') (hp : ¬ D p) (hb : ¬ D b) : Clo.Lc w' p b A := ⟨h.blk.chg c hp, h.row.chg c hb, h.ne, h.inv⟩
theorem Led.Lg.chg {D : Nat → Prop} {w w' : World} {p b g : Nat} {l : Ks} (h : Led.Lg w p b g l) (c : Chg D w w') (hp : ¬ D p) (hb : ¬ D b) : Led.Lg w' p b g l := ⟨h.blk.chg c hp, h.row.chg c hb, h.ne, h.inv⟩
variable {base g qm qs : Nat} {bs : List (Nat × Value)} {ms : List Cal.Bo} {sl : List (Option (Nat × Nat × Nat))} {ss : List (Option (Clo.Au × Int))}
/-- What changes lies elsewhere: blocks of other types. -/
def Elsw (w : World) (D : Nat → Prop) (ts : List TypeId) : Prop := ∀ k cs t, Blk w k cs t → t ∈ ts → ¬ D k
theorem Elsw.own {w : World} {D : Nat → Prop} {ts : List TypeId} (h : Elsw w D ts) {base : Nat} {e : TypeId} {sz : Nat} {v : Value} {n : Nat} {xs : List Value} (ho : w.ownsRow base e sz v n xs) (he : e ∈ ts) : ∀ k, v.ownBlock = some k → ¬ D k := by
  obtain ⟨h1, ⟨rfl, h2⟩ | ⟨q, cap, cur, rfl, hb, hh, rest⟩⟩ := ho
  · intro k hk; cases hk
  · intro k hk
    simp only [Value.ownBlock, Option.some.injEq] at hk
    subst hk
    exact h q cur e hh he
theorem Elsw.one {w : World} {j : Nat} {ds : Array Value} {u : TypeId} {ts : List TypeId} (h : Blk w j ds u) (hu : u ∉ ts) : Elsw w (fun k => k = j) ts := fun k cs t hk ht e => by
  subst e
  exact blk_unl hk h (fun e => hu (e ▸ ht)) rfl
theorem Elsw.two {w : World} {j j' : Nat} {ds ds' : Array Value} {u u' : TypeId} {ts : List TypeId} (h : Blk w j ds u) (hu : u ∉ ts) (h' : Blk w j' ds' u') (hu' : u' ∉ ts) : Elsw w (fun k => k = j ∨ k = j') ts := fun k cs t hk ht e => by
  rcases e with e | e
  · exact Elsw.one h hu k cs t hk ht e
  · exact Elsw.one h' hu' k cs t hk ht e
theorem Elsw.book {w : World} {p : Nat} {v : Value} {B : Cal.Bo} {ts : List TypeId} (h : Cal.Bk w base p v B) (h1 : 103 ∉ ts) (h2 : 51 ∉ ts) : Elsw w (fun k => k = p ∨ v.ownBlock = some k) ts := fun k cs t hk ht e => by
  rcases e with e | e
  · exact Elsw.one h.blk h1 k cs t hk ht e
  · exact own_unl h.row hk (fun e => h2 (e ▸ ht)) e
theorem Mks.chg {D : Nat → Prop} {w w' : World} (h : Mks w base g qm bs ms) (c : Chg D w w') (he : Elsw w D [72, 103, 51]) : Mks w' base g qm bs ms := by
  obtain ⟨cs, hr, hr2⟩ := h.row
  refine ⟨h.nb, h.nm, ⟨cs, hr.chg c (he _ _ _ hr (by simp)), hr2⟩, fun i b B hb hB => ?_, h.dis⟩
  have k := h.bk i b B hb hB
  exact k.chg c (he _ _ _ k.blk (by simp)) (he.own k.row (by simp))
theorem Sls.chg {D : Nat → Prop} {w w' : World} (h : Sls w base g qs sl ss) (c : Chg D w w') (he : Elsw w D [57, 66, 80, 83]) : Sls w' base g qs sl ss := by
  refine ⟨h.ns, h.nn, h.row.chg c (he _ _ _ h.row (by simp)), h.non, fun i a x ha hx => ?_, h.dis⟩
  obtain ⟨k1, k2, k3⟩ := h.sal i a x ha hx
  exact ⟨k1.chg c (he _ _ _ k1 (by simp)), k2.chg c (he _ _ _ k2.blk (by simp)) (he _ _ _ k2.row (by simp)), k3⟩
theorem Ha.chg {D : Nat → Prop} {w w' : World} {p pl bl : Nat} {l : Ks} {mV sV : Value} {now : Int} (h : Ha w p pl bl g l mV sV now) (c : Chg D w w') (he : Elsw w D [62, 106, 109]) : Ha w' p pl bl g l mV sV now :=
  ⟨h.blk.chg c (he _ _ _ h.blk (by simp)), h.lg.chg c (he _ _ _ h.lg.blk (by simp)) (he _ _ _ h.lg.row (by simp))⟩
/-- One market behind a step of its own. -/
theorem Mks.step {w w' : World} {i : Nat} {b : Nat × Value} {v' : Value} {B' : Cal.Bo} (h : Mks w base g qm bs ms) (hi : bs[i]? = some b) (hs : Cal.Bst w w' base b.1 b.2 v' B') : Mks w' base g qm (bs.set i (b.1, v')) (ms.set i B') := by
  obtain ⟨cs, hr, hr2⟩ := h.row
  obtain ⟨B, hB⟩ := get_both hi (h.nm.trans h.nb.symm)
  have hk := h.bk i b B hi hB
  have hil := (List.getElem?_eq_some_iff.1 hi).1
  have hml := (List.getElem?_eq_some_iff.1 hB).1
  have c : Chg (fun k => k = b.1 ∨ b.2.ownBlock = some k) w w' := Chg.of_ofb hs.of (Or.inl rfl) (fun k hk => Or.inr hk)
  have he := Elsw.book hk (ts := [72]) (by decide) (by decide)
  refine ⟨by simpa using h.nb, by simpa using h.nm, ⟨cs, hr.chg c (he _ _ _ hr (by simp)), fun j x hx => ?_⟩, fun j x X hx hX => ?_, fun j k x y hx hy hjk => ?_⟩
  · rw [List.getElem?_set] at hx
    split at hx
    · next e => subst e; simp only [hil, if_true, Option.some.injEq] at hx; subst hx; exact hr2 i b hi
    · exact hr2 j x hx
  · rw [List.getElem?_set] at hx hX
    split at hx
    · next e =>
      subst e
      simp only [hil, hml, if_true, Option.some.injEq] at hx hX
      subst hx hX
      exact hs.bk
    · next e =>
      rw [if_neg e] at hX
      have hd := h.dis i j b x hi hx e
      refine (h.bk j x X hx hX).chg c (fun hh => ?_) (fun q hq hh => ?_)
      · rcases hh with hh | hh
        · exact hd.1 hh.symm
        · exact own_unl hk.row (h.bk j x X hx hX).blk (by decide) hh
      · rcases hh with hh | hh
        · subst hh; exact own_unl (h.bk j x X hx hX).row hk.blk (by decide) hq
        · exact hd.2 q hh hq
  · have old : ∀ (a : Nat) (z : Nat × Value), bs[a]? = some z → a ≠ i → b.1 ≠ z.1 ∧ ∀ q, v'.ownBlock = some q → z.2.ownBlock ≠ some q := fun a z hz ha => by
      have hd := h.dis i a b z hi hz (fun e => ha e.symm)
      refine ⟨hd.1, fun q hq hz2 => ?_⟩
      rcases hs.at_ q hq with e | e
      · exact hd.2 q e hz2
      · obtain ⟨Z, hZ⟩ := get_both hz (h.nm.trans h.nb.symm)
        have := ((h.bk a z Z hz hZ).row.lt q hz2).2
        omega
    rw [List.getElem?_set] at hx hy
    split at hx
    · next e =>
      subst e
      simp only [hil, if_true, Option.some.injEq] at hx
      subst hx
      rw [if_neg hjk] at hy
      exact old k y hy (fun e => hjk e.symm)
    · next e =>
      split at hy
      · next e2 =>
        subst e2
        simp only [hil, if_true, Option.some.injEq] at hy
        subst hy
        obtain ⟨o1, o2⟩ := old j x hx hjk
        exact ⟨fun e => o1 e.symm, fun q hq hq2 => o2 q hq2 hq⟩
      · exact h.dis j k x y hx hy hjk
end Go.Proofs.YtpekfpfhonechaaGreat
