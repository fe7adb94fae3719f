/- What a client's value tells: the walk of keptOf's closure. -/
import Derived.Test.YtmcafgmjfgfaeaaDoorLw43
import Derived.Test.YtmcafgmjfgfaeaaDoorLw24
import Derived.Deep.DeepCutAuto
import Derived.Deep.CutBlock
namespace Go.Proofs.YtmcafgmjfgfaeaaDoor
open Go.RowKit
set_option linter.unusedSimpArgs false
set_option linter.unusedVariables false

theorem rdF_err0 (s : ByteArray) (a : Nat) : ∀ (k i n : Nat) (er : Int), rdF s a k i n = .error er → er ≠ 0 := by
  intro k
  induction k with
  | zero => intro i n er h; simp [rdF] at h; omega
  | succ k ih =>
    intro i n er h
    simp only [rdF] at h
    split at h
    · split at h
      · exact ih _ _ _ h
      · split at h
        · simp at h; omega
        · cases h
    · simp at h; omega
theorem rdInt_err0 {s : ByteArray} {a : Nat} {er : Int} (h : rdInt s a = .error er) : er ≠ 0 := rdF_err0 s a 8 0 0 er h
theorem rdText_err0 {s : ByteArray} {a : Nat} {er : Int} (h : rdText s a = .error er) : er ≠ 0 := by
  unfold rdText at h
  cases hr : rdInt s a with
  | error e => rw [hr] at h; injection h with h; rw [← h]; exact rdInt_err0 hr
  | ok q =>
    obtain ⟨m, nx⟩ := q
    rw [hr] at h
    simp only at h
    split at h
    · injection h with h; omega
    · split at h
      · injection h with h; omega
      · cases h
/-- All but two blocks are as they were. -/
structure Ofn (a b : Nat) (w w' : World) : Prop where
  os : w'.os = w.os
  tape : w'.tape = w.tape
  output : w'.output = w.output
  size : w.heap.size ≤ w'.heap.size
  block : ∀ k, k < w.heap.size → k ≠ a → k ≠ b → w'.heap[k]? = w.heap[k]?
theorem Ofn.refl (a b : Nat) (w : World) : Ofn a b w w := ⟨rfl, rfl, rfl, Nat.le_refl _, fun _ _ _ _ => rfl⟩
theorem Ofn.trans {a b : Nat} {x y z : World} (h : Ofn a b x y) (k : Ofn a b y z) : Ofn a b x z :=
  ⟨k.os.trans h.os, k.tape.trans h.tape, k.output.trans h.output, Nat.le_trans h.size k.size, fun i hi h1 h2 => (k.block i (Nat.lt_of_lt_of_le hi h.size) h1 h2).trans (h.block i hi h1 h2)⟩
theorem Ofn.of_below {a b : Nat} {w w' : World} (h : Below w.heap.size w w') : Ofn a b w w' := ⟨h.os, h.tape, h.output, h.size, fun k hk _ _ => h.block k hk⟩
theorem Ofn.setA {a b : Nat} {x w : World} (h : Ofn a b x w) {p : Addr} (hp : p.block = a ∨ p.block = b) (u : Value) : Ofn a b x (w.setCell p u) :=
  h.trans ⟨rfl, rfl, rfl, by simp [World.setCell], fun k _ h1 h2 => Below.heap_setCell _ _ _ _ (by rcases hp with e | e <;> omega)⟩
theorem Blk.ofn {w w' : World} {k a b : Nat} {cs : Array Value} {t : TypeId} (h : Blk w k cs t) (o : Ofn a b w w') (h1 : k ≠ a) (h2 : k ≠ b) : Blk w' k cs t := (o.block k h.lt h1 h2).trans h
/-- Where the reading stands: the text, the place, whether all was right. -/
structure Knx (w : World) (s : ByteArray) (a : Nat) (k : Bool) (sb ab ob : Nat) : Prop where
  xs : Blk w sb #[.string s] 9
  xa : Blk w ab #[.int .i64 a] 3
  xo : Blk w ob #[.bool k] 4
  le : a ≤ s.size
theorem Knx.ne1 {w : World} {s : ByteArray} {a : Nat} {k : Bool} {sb ab ob : Nat} (h : Knx w s a k sb ab ob) : sb ≠ ab ∧ sb ≠ ob ∧ ab ≠ ob := by
  have h1 := h.xs
  have h2 := h.xa
  have h3 := h.xo
  unfold Blk at h1 h2 h3
  refine ⟨fun e => ?_, fun e => ?_, fun e => ?_⟩
  · rw [e, h2] at h1; injection h1 with h1; injection h1 with _ h1; exact absurd h1 (by decide)
  · rw [e, h3] at h1; injection h1 with h1; injection h1 with _ h1; exact absurd h1 (by decide)
  · rw [e, h3] at h2; injection h2 with h2; injection h2 with _ h2; exact absurd h2 (by decide)
theorem Knx.below {w w' : World} {s : ByteArray} {a : Nat} {k : Bool} {sb ab ob : Nat} (h : Knx w s a k sb ab ob) (hb : Below w.heap.size w w') : Knx w' s a k sb ab ob := ⟨h.xs.below hb, h.xa.below hb, h.xo.below hb, h.le⟩
set_option maxHeartbeats 4000000 in
set_option maxRecDepth 100000 in
theorem next_calls (s : ByteArray) (a : Nat) (k : Bool) (sb ab ob : Nat) (w : World) (hs : s.size ≤ maxLen) (h : Knx w s a k sb ab ob) :
    Calls Tryd.prog 63 #[.pointer (some ⟨sb, 0, none⟩), .pointer (some ⟨ab, 0, none⟩), .pointer (some ⟨ob, 0, none⟩)] w fun e w' => e = .returned (.int .i64 (nxt s (a, k)).1) ∧ Knx w' s (nxt s (a, k)).2.1 (nxt s (a, k)).2.2 sb ab ob ∧ Ofn ab ob w w' := by
  have hg := getInt_calls s a w hs h.le
  obtain ⟨n1, n2, n3⟩ := h.ne1
  have x0 : w.cell? ⟨sb, 0, none⟩ = some (.string s) := h.xs.cell rfl
  have x1 : w.cell? ⟨ab, 0, none⟩ = some (.int .i64 a) := h.xa.cell rfl
  have HH : Hid _ := h
  have HLE : Hid (∀ r, nxt s (a, k) = r → r.2.1 ≤ s.size) := fun r hr => by rw [← hr]; exact (nxt_le s _).1
  obtain ⟨r, HR⟩ : ∃ r, Hid (nxt s (a, k) = r) := ⟨_, rfl⟩
  rw [HR.out]
  have hr := HR.out
  unfold nxt at hr
  have fin : ∀ (w2 : World) (nx : Nat) (kk : Bool), Below w.heap.size w w2 → nx ≤ s.size → Knx ((w2.setCell ⟨ob, 0, none⟩ (.bool kk)).setCell ⟨ab, 0, none⟩ (.int .i64 nx)) s nx kk sb ab ob ∧ Ofn ab ob w ((w2.setCell ⟨ob, 0, none⟩ (.bool kk)).setCell ⟨ab, 0, none⟩ (.int .i64 nx)) := fun w2 nx kk hb hn => by
    have K2 := HH.out.below hb
    refine ⟨⟨(K2.xs.setOther (p := ⟨ob, 0, none⟩) n2 _).setOther (p := ⟨ab, 0, none⟩) n1 _, (K2.xa.setOther (p := ⟨ob, 0, none⟩) n3 _).set 0 _, (K2.xo.set 0 _).setOther (p := ⟨ab, 0, none⟩) (Ne.symm n3) _, hn⟩, ?_⟩
    exact ((Ofn.of_below hb).setA (p := ⟨ob, 0, none⟩) (Or.inr rfl) _).setA (p := ⟨ab, 0, none⟩) (Or.inl rfl) _
  have FIN : Hid _ := fin
  clear fin
  cases hrd : rdInt s a with
  | error er =>
    rw [hrd] at hg
    simp only [hrd] at hr
    subst hr
    have her := rdInt_err0 hrd
    have de : (er == 0) = false := by simpa using her
    unfold gotG at hg
    simp only at hg
    clear hrd h HR
    go_enter Tryd.func63, Tryd.ntmps63
    go_wp2_with fail
    refine hg.mono ?_
    rintro e w2 ⟨rfl, b2⟩
    have K2 := Knx.below HH.out b2
    have y2 : w2.cell? ⟨ob, 0, none⟩ = some (.bool k) := K2.xo.cell rfl
    have f2 : w2.frozen? ⟨ob, 0, none⟩ = false := K2.xo.frozen
    have XA3 : Blk (w2.setCell ⟨ob, 0, none⟩ (.bool false)) ab #[.int .i64 a] 3 := K2.xa.setOther (p := ⟨ob, 0, none⟩) n3 _
    have y1 : (w2.setCell ⟨ob, 0, none⟩ (.bool false)).cell? ⟨ab, 0, none⟩ = some (.int .i64 a) := XA3.cell rfl
    have f1 : (w2.setCell ⟨ob, 0, none⟩ (.bool false)).frozen? ⟨ab, 0, none⟩ = false := XA3.frozen
    have HF : Hid _ := FIN.out w2 0 false b2 (Nat.zero_le _)
    clear b2 K2 XA3 hg
    cases k
    · go_wp2
      go_ret
      exact ⟨rfl, HF.out⟩
    · go_wp2
      go_ret
      exact ⟨rfl, HF.out⟩
  | ok q =>
    obtain ⟨m, nx⟩ := q
    rw [hrd] at hg
    simp only [hrd] at hr
    subst hr
    have hle := rdInt_le hrd
    unfold gotG at hg
    simp only at hg
    clear hrd h HR
    obtain ⟨dm, hdm⟩ : ∃ dm, decide ((m : Int) ≤ 1099511627776) = dm := ⟨_, rfl⟩
    simp only [hdm]
    go_enter Tryd.func63, Tryd.ntmps63
    go_wp2_with fail
    refine hg.mono ?_
    rintro e w2 ⟨rfl, b2⟩
    have K2 := Knx.below HH.out b2
    have y2 : w2.cell? ⟨ob, 0, none⟩ = some (.bool k) := K2.xo.cell rfl
    have f2 : w2.frozen? ⟨ob, 0, none⟩ = false := K2.xo.frozen
    have XA3 : ∀ kk, Blk (w2.setCell ⟨ob, 0, none⟩ (.bool kk)) ab #[.int .i64 a] 3 := fun kk => K2.xa.setOther (p := ⟨ob, 0, none⟩) n3 _
    have y1 : ∀ kk, (w2.setCell ⟨ob, 0, none⟩ (.bool kk)).cell? ⟨ab, 0, none⟩ = some (.int .i64 a) := fun kk => (XA3 kk).cell rfl
    have f1 : ∀ kk, (w2.setCell ⟨ob, 0, none⟩ (.bool kk)).frozen? ⟨ab, 0, none⟩ = false := fun kk => (XA3 kk).frozen
    have HF : Hid _ := fun kk => FIN.out w2 nx kk b2 hle.2.1
    clear b2 K2 XA3 hg hle
    cases k
    · go_wp2
      go_ret
      exact ⟨rfl, HF.out _⟩
    · cases dm
      · go_wp2
        go_ret
        exact ⟨rfl, HF.out _⟩
      · go_wp2
        go_ret
        exact ⟨rfl, HF.out _⟩
end Go.Proofs.YtmcafgmjfgfaeaaDoor

namespace Go.Proofs.YtmcafgmjfgfaeaaDoor
open Go.RowKit
set_option linter.unusedSimpArgs false
set_option linter.unusedVariables false

/-- Which number goes to a place, if any. -/
def idx (g f : Nat) : Option Nat := if f = 10 then some 0 else if f = 0 then some 1 else if f = 1 then some 2 else if f < 6 then (if f - 2 < g then some (f + 1) else none) else if f < 10 then (if f - 6 < g then some (f + g - 3) else none) else none
/-- Where the number j goes. -/
def fld (g j : Nat) : Nat := if j = 0 then 10 else if j = 1 then 0 else if j = 2 then 1 else if j < 3 + g then j - 1 else j + 3 - g
theorem idx_fld1 : ∀ g, g < 5 → ∀ j, j < 11 → j < 3 + 2 * g → idx g (fld g j) = some j := by decide
theorem idx_fld2 : ∀ g, g < 5 → ∀ f, f < 11 → ∀ j, j < 11 → idx g f = some j → f = fld g j := by decide
theorem idx_big {g f : Nat} (h : 10 < f) : idx g f = none := by
  unfold idx
  rw [if_neg (by omega), if_neg (by omega), if_neg (by omega), if_neg (by omega), if_neg (by omega)]
/-- What numbers make of an account that has so many goods. -/
def kOf (g : Nat) (ms : List Int) (r : ByteArray) : Kt := ⟨fun f => match idx g f with | some i => ms.getD i 0 | none => 0, r⟩
theorem getD_snoc (ms : List Int) (x : Int) (i : Nat) : (ms ++ [x]).getD i 0 = if i = ms.length then x else ms.getD i 0 := by
  simp only [List.getD_eq_getElem?_getD]
  by_cases h : i = ms.length
  · rw [if_pos h, h, List.getElem?_append_right (Nat.le_refl _)]; simp
  · rw [if_neg h]
    rcases Nat.lt_or_ge i ms.length with h2 | h2
    · rw [List.getElem?_append_left h2]
    · rw [List.getElem?_eq_none (by simp; omega), List.getElem?_eq_none h2]
theorem getD_len (ms : List Int) : ms.getD ms.length 0 = 0 := by
  rw [List.getD_eq_getElem?_getD, List.getElem?_eq_none (Nat.le_refl _)]; rfl
theorem kOf_snoc {g : Nat} (hg : g ≤ 4) (ms : List Int) (x : Int) (r : ByteArray) (hj : ms.length < 3 + 2 * g) : kOf g (ms ++ [x]) r = (kOf g ms r).put (fld g ms.length) x := by
  unfold kOf Kt.put
  congr 1
  funext f
  simp only [getD_snoc]
  by_cases h : f = fld g ms.length
  · rw [if_pos h, h, idx_fld1 g (by omega) ms.length (by omega) hj]
    simp
  · rw [if_neg h]
    cases hi : idx g f with
    | none => rfl
    | some i =>
      have hf : f < 11 := by
        rcases Nat.lt_or_ge f 11 with h1 | h1
        · exact h1
        · rw [idx_big (by omega)] at hi; cases hi
      have hne : i ≠ ms.length := fun e => h (by
        rw [e] at hi
        exact idx_fld2 g (by omega) f hf ms.length (by omega) hi)
      show (if i = ms.length then x else ms.getD i 0) = ms.getD i 0
      rw [if_neg hne]
theorem fld_lt {g j : Nat} (hg : g ≤ 4) (hj : j < 3 + 2 * g) : fld g j < 11 := by unfold fld; split <;> (try omega); split <;> (try omega); split <;> (try omega); split <;> omega
theorem kOf_nil (g : Nat) : kOf g [] ⟨#[]⟩ = Kt.zero := by
  unfold kOf Kt.zero
  congr 1
  funext f
  cases idx g f with
  | none => rfl
  | some i => simp
/-- Behind so many numbers. -/
structure Kst (w0 w : World) (s : ByteArray) (g j sb kb rb ab ob : Nat) : Prop where
  kn : Knx w s (nxs s j).1.1 (nxs s j).1.2 sb ab ob
  kk : Blk w kb (kOf g (nxs s j).2 ⟨#[]⟩).cells.toArray 67
  rr : Blk w rb Kt.zero.cells.toArray 67
  lo : Below w0.heap.size w0 w
  n1 : kb ≠ rb
  g1 : w0.heap.size ≤ kb ∧ w0.heap.size ≤ ab ∧ w0.heap.size ≤ ob
theorem kept_unlike {w : World} {k b : Nat} {cs cs' : Array Value} {t t' : TypeId} (h : Blk w k cs t) (h' : Blk w b cs' t') (ht : t ≠ t') : k ≠ b := fun e => by
  unfold Blk at h h'
  rw [e, h'] at h
  injection h with h
  injection h with _ h
  exact ht h.symm
theorem Kst.call {w0 w : World} {s : ByteArray} {g j sb kb rb ab ob : Nat} (h : Kst w0 w s g j sb kb rb ab ob) (hs : s.size ≤ maxLen) (hg : g ≤ 4) (hj : j < 3 + 2 * g) (f : Nat) (hf : fld g j = f) :
    ∃ x : Int, Calls Tryd.prog 63 #[.pointer (some ⟨sb, 0, none⟩), .pointer (some ⟨ab, 0, none⟩), .pointer (some ⟨ob, 0, none⟩)] w fun e w' => e = .returned (.int .i64 x) ∧ (∃ y : Int, w'.cell? ⟨kb, f, none⟩ = some (.int .i64 y)) ∧ w'.frozen? ⟨kb, f, none⟩ = false ∧ Kst w0 (w'.setCell ⟨kb, f, none⟩ (.int .i64 x)) s g (j + 1) sb kb rb ab ob := by
  subst hf
  refine ⟨(nxt s (nxs s j).1).1, (next_calls s _ _ sb ab ob w hs h.kn).mono ?_⟩
  rintro e w2 ⟨rfl, k2, o2⟩
  have ka : kb ≠ ab := kept_unlike h.kk h.kn.xa (by decide)
  have ko : kb ≠ ob := kept_unlike h.kk h.kn.xo (by decide)
  have ks : kb ≠ sb := kept_unlike h.kk h.kn.xs (by decide)
  have ra : rb ≠ ab := kept_unlike h.rr h.kn.xa (by decide)
  have ro : rb ≠ ob := kept_unlike h.rr h.kn.xo (by decide)
  have kk2 := h.kk.ofn o2 ka ko
  have rr2 := h.rr.ofn o2 ra ro
  have hfl := fld_lt hg hj
  have hlo : Below w0.heap.size w0 w2 := h.lo.trans ⟨o2.os, o2.tape, o2.output, o2.size, fun k hk => o2.block k (by have := h.lo.size; have := h.kk.lt; have := h.kn.xa.lt; omega) (by have := h.g1; omega) (by have := h.g1; omega)⟩
  refine ⟨rfl, ⟨_, kk2.cell (by rw [List.getElem?_toArray]; exact Kt.num _ _ hfl)⟩, kk2.frozen, ⟨⟨k2.xs.setOther (p := ⟨kb, _, none⟩) (Ne.symm ks) _, k2.xa.setOther (p := ⟨kb, _, none⟩) (Ne.symm ka) _, k2.xo.setOther (p := ⟨kb, _, none⟩) (Ne.symm ko) _, k2.le⟩, ?_, rr2.setOther (p := ⟨kb, _, none⟩) (Ne.symm h.n1) _, ?_, h.n1, h.g1⟩⟩
  · have e1 : (nxs s (j + 1)).2 = (nxs s j).2 ++ [(nxt s (nxs s j).1).1] := rfl
    have e2 := kOf_snoc hg (nxs s j).2 (nxt s (nxs s j).1).1 ⟨#[]⟩ (by rw [nxs_len]; exact hj)
    rw [nxs_len] at e2
    rw [e1, e2, ← Kt.set _ _ hfl]
    have := kk2.set (fld g j) (.int .i64 (nxt s (nxs s j).1).1)
    rw [List.setIfInBounds_toArray] at this
    exact this
  · exact hlo.trans ⟨rfl, rfl, rfl, by simp [World.setCell], fun k hk => Below.heap_setCell _ _ _ _ (by have := h.g1; show k ≠ kb; omega)⟩
end Go.Proofs.YtmcafgmjfgfaeaaDoor
