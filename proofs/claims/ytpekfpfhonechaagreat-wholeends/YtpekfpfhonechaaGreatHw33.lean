/- A map with numbers as keys and one cell for each: the look-up, the note. -/
import Derived.Test.YtpekfpfhonechaaGreatHw01
import Derived.MapKept
import Derived.Maps.RangeRun
import Derived.Test.YtpekfpfhonechaaGreatHw06
import Derived.Test.YtpekfpfhonechaaGreatHw09
import Derived.Test.YtpekfpfhonechaaGreatHw07
import Derived.Test.YtpekfpfhonechaaGreatHw08
namespace Go.Proofs.YtpekfpfhonechaaGreat
open Go.RowKit
open Go.ChangeMaps (setBlock)
set_option linter.unusedSimpArgs false
set_option linter.unusedVariables false
abbrev KVs := List (Int × Value)
def vget : KVs → Int → Option Value
  | [], _ => none
  | x :: r, k => if k = x.1 then some x.2 else vget r k
def vput : KVs → Int → Value → KVs
  | [], k, v => [(k, v)]
  | x :: r, k, v => if k = x.1 then (k, v) :: r else x :: vput r k v
theorem vput_new (l : KVs) (k : Int) (v : Value) (h : vget l k = none) : vput l k v = l ++ [(k, v)] := by
  induction l with
  | nil => rfl
  | cons x l ih =>
    unfold vget at h
    split at h
    · cases h
    · rename_i e
      simp [vput, e, ih h]
/-- The entries of a map of votes, from i on. -/
def entL : KVs → Nat → List MapEntry
  | [], _ => []
  | x :: r, i => ⟨.int .i64 x.1, x.2, i⟩ :: entL r (i + 1)
def ents (l : KVs) : Array MapEntry := (entL l 0).toArray
theorem entL_snoc (l : KVs) (x : Int × Value) (i : Nat) : entL (l ++ [x]) i = entL l i ++ [⟨.int .i64 x.1, x.2, i + l.length⟩] := by
  induction l generalizing i with
  | nil => simp [entL]
  | cons y l ih =>
    have e : i + 1 + l.length = i + (l.length + 1) := by omega
    simp only [List.cons_append, entL, ih, List.length_cons, e]
theorem ents_snoc (l : KVs) (x : Int × Value) : ents (l ++ [x]) = (ents l).push ⟨.int .i64 x.1, x.2, l.length⟩ := by
  unfold ents; rw [entL_snoc]; simp
/-- What is found of a key. -/
def vfind : KVs → Int → Nat → Option (Nat × Value)
  | [], _, _ => none
  | x :: r, k, i => if k = x.1 then some (i, x.2) else vfind r k (i + 1)
theorem findNow_kvs (l : KVs) (k : Int) (i : Nat) : Instr.findNow (.int .i64) (.int .i64 k) (entL l i) i = some (vfind l k i) := by
  induction l generalizing i with
  | nil => rfl
  | cons x l ih =>
    simp only [entL, Instr.findNow, Instr.sameNow, vfind, if_true]
    by_cases h : k = x.1
    · have hb : (k == x.1) = true := by simp [h]
      rw [if_pos h, hb]
    · have hb : (k == x.1) = false := by simp [h]
      rw [if_neg h, hb]
      exact ih (i + 1)
theorem vfind_get (l : KVs) (k : Int) (i : Nat) : (vfind l k i).map (·.2) = vget l k := by
  induction l generalizing i with
  | nil => rfl
  | cons x l ih =>
    unfold vfind vget
    by_cases h : k = x.1
    · simp [h]
    · simp only [h, if_false]; exact ih (i + 1)
theorem findKey_kvs {P : Program} {K : TypeId} (hu : P.underlying K = some (.int .i64)) (w : World) (l : KVs) (k : Int) : (Instr.findKey K (.int .i64 k) (ents l).toList).run P w = .ok (vfind l k 0) w := by
  show (Instr.findKey K (.int .i64 k) (entL l 0)).run P w = _
  simp only [Instr.findKey, Sem.run_bind, run_underlying hu, Result.andThen_ok, findNow_kvs, Sem.run_pure]
theorem checkKey_int {P : Program} {K : TypeId} (hu : P.underlying K = some (.int .i64)) (b : Bool) (k : Int) (w : World) : (Instr.checkKey b 10000 K (.int .i64 k)).run P w = .ok () w := by
  show (Instr.checkKey b (Nat.succ 9999) K (.int .i64 k)).run P w = _
  generalize 9999 = n
  simp only [Instr.checkKey, Sem.run_bind, run_underlying hu, Result.andThen_ok, Sem.run_pure]

def vgetZ (z : Value) (l : KVs) (k : Int) : Value := (vget l k).getD z

/-- Votes in a map that may be nil. -/
def MapAt (w : World) (o : Option Nat) (l : KVs) : Prop :=
  match o with
  | none => l = []
  | some b => w.heap[b]? = some (.map (ents l) l.length)
theorem MapAt.lt {w : World} {b : Nat} {l : KVs} (h : MapAt w (some b) l) : b < w.heap.size := by
  rcases Nat.lt_or_ge b w.heap.size with h1 | h1
  · exact h1
  · unfold MapAt at h; simp only [Array.getElem?_eq_none h1] at h; cases h
theorem MapAt.keep {w w' : World} {o : Option Nat} {l : KVs} (h : MapAt w o l) (hk : ∀ b, o = some b → w'.heap[b]? = w.heap[b]?) : MapAt w' o l := by
  cases o with
  | none => exact h
  | some b => exact (hk b rfl).trans h
theorem MapAt.below {w w' : World} {o : Option Nat} {l : KVs} (h : MapAt w o l) (hb : Below w.heap.size w w') : MapAt w' o l := by
  cases o with
  | none => exact h
  | some b => exact (hb.block b (MapAt.lt h)).trans h
theorem MapAt.blk {w : World} {b k : Nat} {l : KVs} {cs : Array Value} {t : TypeId} (h : MapAt w (some b) l) (hB : Blk w k cs t) : b ≠ k := by
  intro e
  subst e
  unfold MapAt at h
  unfold Blk at hB
  simp only at h
  rw [h] at hB
  cases hB

theorem run_look {P : Program} {T K E : TypeId} {z : Value} {w : World} {o : Option Nat} {l : KVs} (hT : P.underlying T = some (.map K E)) (hK : P.underlying K = some (.int .i64)) (hz : ∀ w, (zeroValue E).run P w = .ok (z) w) (h : MapAt w o l) (k : Int) :
    (Instr.lookup T (.map o) (.int .i64 k) true).run P w = .ok (.tuple #[(vgetZ z l k), .bool (vget l k).isSome]) w := by
  have hg := vfind_get l k 0
  cases o with
  | none =>
    have e : l = [] := h
    subst e
    have hf : (Instr.findKey K (.int .i64 k) []).run P w = .ok none w := findKey_kvs (P := P) hK w [] k
    simp only [Instr.lookup, Sem.run_bind, run_underlying hT, Result.andThen_ok, Sem.run_pure, checkKey_int hK]
    rw [hf]
    simp [hz, vgetZ, vget]
  | some b =>
    have h' : w.heap[b]? = some (.map (ents l) l.length) := h
    simp only [Instr.lookup, Sem.run_bind, run_underlying hT, Result.andThen_ok, MapKept.run_getObj_map h', Sem.run_pure, checkKey_int hK, findKey_kvs hK]
    cases hv : vget l k with
    | none =>
      rw [hv] at hg
      simp only [Option.map_none, Option.map_eq_none_iff] at hg
      simp [hg, hz, vgetZ, hv]
    | some v =>
      rw [hv] at hg
      obtain ⟨y, hy, hy2⟩ : ∃ y, vfind l k 0 = some y ∧ y.2 = v := by
        cases hf : vfind l k 0 with
        | none => rw [hf] at hg; cases hg
        | some y => exact ⟨y, rfl, by rw [hf] at hg; simpa using hg⟩
      obtain ⟨y1, y2⟩ := y
      simp only at hy2
      subst hy2
      simp [hy, vgetZ, hv]
/-- A key that is there: the list with its vote anew. -/
theorem vfind_some : ∀ (l : KVs) (k : Int) (i j : Nat) (u : Value), vfind l k i = some (j, u) → ∃ d, j = i + d ∧ d < l.length ∧ (entL l i)[d]?.map (·.key) = some (.int .i64 k) ∧ ∀ v, (entL l i).modify d (fun e => { e with key := .int .i64 k, val := v }) = entL (vput l k v) i ∧ (vput l k v).length = l.length
  | [], k, i, j, u, h => by cases h
  | x :: l, k, i, j, u, h => by
    unfold vfind at h
    by_cases e : k = x.1
    · rw [if_pos e] at h
      simp only [Option.some.injEq, Prod.mk.injEq] at h
      refine ⟨0, h.1.symm, by simp, by simp [entL, e], fun v => ?_⟩
      simp [entL, vput, e]
    · rw [if_neg e] at h
      obtain ⟨d, h1, h2, h3, h4⟩ := vfind_some l k (i + 1) j u h
      refine ⟨d + 1, by omega, by simp; exact h2, by simpa [entL] using h3, fun v => ?_⟩
      obtain ⟨h5, h6⟩ := h4 v
      simp [entL, vput, e, h5, h6]
theorem run_note {P : Program} {T K E : TypeId} {w : World} {b : Nat} {l : KVs} (hT : P.underlying T = some (.map K E)) (hK : P.underlying K = some (.int .i64)) (h : MapAt w (some b) l) (k : Int) (v : Value) :
    (Instr.mapUpdate T (.map (some b)) (.int .i64 k) v).run P w = .ok () (setBlock w b (.map (ents (vput l k v)) (vput l k v).length)) := by
  have h' : w.heap[b]? = some (.map (ents l) l.length) := h
  simp only [Instr.mapUpdate, Sem.run_bind, run_underlying hT, Result.andThen_ok, MapKept.run_getObj_map h', Sem.run_pure, checkKey_int hK, findKey_kvs hK]
  cases hf : vfind l k 0 with
  | none =>
    have hn : vget l k = none := by
      have := vfind_get l k 0
      rw [hf] at this
      simpa using this.symm
    simp only [MapKept.run_setObj_map _ h', vput_new l k v hn, ents_snoc, List.length_append, List.length_cons, List.length_nil]
    rfl
  | some y =>
    obtain ⟨j, u⟩ := y
    obtain ⟨d, h1, h2, h3, h4⟩ := vfind_some l k 0 j u hf
    obtain ⟨h5, h6⟩ := h4 v
    have hjd : j = d := by omega
    subst hjd
    have e1 : ((ents l)[j]?.map (·.key)).getD (.int .i64 k) = .int .i64 k := by
      have : (ents l)[j]? = (entL l 0)[j]? := by simp [ents]
      rw [this, h3]
      rfl
    have e2 : (Instr.keyThatStays (.int .i64 k) (.int .i64 k)).run P w = .ok (.int .i64 k) w := by
      have : Instr.sameBits 10000 (.int .i64 k) (.int .i64 k) = true := by simp [Instr.sameBits]
      simp [Instr.keyThatStays, this]
    have e3 : (ents l).modify j (fun e => { e with key := .int .i64 k, val := v }) = ents (vput l k v) := by
      unfold ents
      rw [← h5]
      simp
    simp only [e1, Sem.run_bind, e2, Result.andThen_ok, e3, MapKept.run_setObj_map _ h', h6]
    rfl
theorem setBlock_same {w : World} {b : Nat} (o : Obj) (h : b < w.heap.size) : (setBlock w b o).heap[b]? = some o := by simp [setBlock, h]
theorem setBlock_other {w : World} {b k : Nat} (o : Obj) (h : b ≠ k) : (setBlock w b o).heap[k]? = w.heap[k]? := by simp [setBlock, h]
theorem setBlock_size (w : World) (b : Nat) (o : Obj) : (setBlock w b o).heap.size = w.heap.size := by simp [setBlock]
theorem MapAt.set {w : World} {b : Nat} {l : KVs} (h : MapAt w (some b) l) (l' : KVs) : MapAt (setBlock w b (.map (ents l') l'.length)) (some b) l' := setBlock_same _ h.lt
end Go.Proofs.YtpekfpfhonechaaGreat

namespace Go.Proofs.YtpekfpfhonechaaGreat
open Go.RowKit
set_option linter.unusedSimpArgs false
set_option linter.unusedVariables false

abbrev Ks := List Led.Kt
def freeL (l : Ks) (who thing : Int) : Int :=
  if thing = -1 then (Led.kAt l who.toNat).n 0 - (Led.kAt l who.toNat).n 1
  else (Led.kAt l who.toNat).n (2 + thing.toNat) - (Led.kAt l who.toNat).n (6 + thing.toNat)
/-- So much more is held or locked; so much less, below 0. -/
def bindL (g : Nat) (l : Ks) (who thing n : Int) : Ks :=
  if thing = -1 then
    (if 0 < n then (Led.gate (Led.refE l.length n [who]) l (Led.keepR l who.toNat 0 1 n)).2
     else (Led.gate (Led.refE l.length (-n) [who]) l (Led.looseR l who.toNat 1 (-n))).2)
  else if 0 < n then (Led.gate (Led.refG g l.length thing n [who]) l (Led.keepR l who.toNat (2 + thing.toNat) (6 + thing.toNat) n)).2
  else (Led.gate (Led.refG g l.length thing (-n) [who]) l (Led.looseR l who.toNat (6 + thing.toNat) (-n))).2
def tradeL1 (l : Ks) (seller buyer n price : Int) : Ks :=
  (Led.gate (Led.refE l.length (n * price) [buyer, seller]) l (Led.overR l buyer.toNat seller.toNat 0 1 (n * price))).2
def tradeL (g : Nat) (l : Ks) (good seller buyer n price : Int) : Ks :=
  (Led.gate (Led.refG g (tradeL1 l seller buyer n price).length good n [seller, buyer]) (tradeL1 l seller buyer n price) (Led.overR (tradeL1 l seller buyer n price) seller.toNat buyer.toNat (2 + good.toNat) (6 + good.toNat) n)).2
theorem keepR_len {l : Ks} {i a h : Nat} {n : Int} : (Led.keepR l i a h n).2.length = l.length := by unfold Led.keepR; split <;> simp [Led.upd_len]
theorem looseR_len {l : Ks} {i h : Nat} {n : Int} : (Led.looseR l i h n).2.length = l.length := by unfold Led.looseR; split <;> simp [Led.upd_len]
theorem overR_len {l : Ks} {i j a h : Nat} {n : Int} : (Led.overR l i j a h n).2.length = l.length := by unfold Led.overR; split <;> simp [Led.over3_len]
theorem inR_len {l : Ks} {i a : Nat} {n : Int} : (Led.inR l i a n).2.length = l.length := by unfold Led.inR; split <;> simp [Led.upd_len]
theorem outR_len {l : Ks} {i a h : Nat} {n : Int} : (Led.outR l i a h n).2.length = l.length := by unfold Led.outR; split <;> simp [Led.upd_len]
theorem markR_len {l : Ks} {who s : Int} {r : ByteArray} : (Led.markR l who s r).2.length = l.length := by
  unfold Led.markR; split
  · rfl
  · split
    · rfl
    · split
      · rfl
      · simp [Led.markL_len]
theorem bindL_len (g : Nat) (l : Ks) (who thing n : Int) : (bindL g l who thing n).length = l.length := by
  unfold bindL; split
  · split
    · exact Led.gate_len keepR_len
    · exact Led.gate_len looseR_len
  · split
    · exact Led.gate_len keepR_len
    · exact Led.gate_len looseR_len
theorem tradeL1_len (l : Ks) (seller buyer n price : Int) : (tradeL1 l seller buyer n price).length = l.length := Led.gate_len overR_len
theorem tradeL_len (g : Nat) (l : Ks) (good seller buyer n price : Int) : (tradeL g l good seller buyer n price).length = l.length := by
  unfold tradeL; exact (Led.gate_len overR_len).trans (tradeL1_len l seller buyer n price)
end Go.Proofs.YtpekfpfhonechaaGreat

namespace Go.Proofs.YtpekfpfhonechaaGreat
open Go.RowKit
set_option linter.unusedSimpArgs false
set_option linter.unusedVariables false

theorem blk_unl {w : World} {a b : Nat} {cs ds : Array Value} {t u : TypeId} (h : Blk w a cs t) (k : Blk w b ds u) (hne : t ≠ u) : a ≠ b := by
  intro e; subst e
  unfold Blk at h k
  rw [h] at k
  simp only [Option.some.injEq, Obj.cells.injEq] at k
  exact hne k.2.1
/-- The house's block. -/
def hsC (c pl : Nat) (mV sV : Value) (now : Int) : Array Value := #[.int .i64 c, .pointer (some ⟨pl, 0, none⟩), mV, sV, .int .i64 now]
/-- The house and its accounts. -/
structure Ha (w : World) (p pl bl g : Nat) (l : Ks) (mV sV : Value) (now : Int) : Prop where
  blk : Blk w p (hsC l.length pl mV sV now) 62
  lg : Led.Lg w pl bl g l
variable {p pl bl g : Nat} {l : Ks} {mV sV : Value} {now : Int}
theorem Ha.ne {w : World} (h : Ha w p pl bl g l mV sV now) : p ≠ bl := blk_unl h.blk h.lg.row (by decide)
theorem Ha.below {w w' : World} (h : Ha w p pl bl g l mV sV now) (hb : Below w.heap.size w w') : Ha w' p pl bl g l mV sV now := ⟨h.blk.below hb, h.lg.below hb⟩
/-- Behind a step of the accounts alone. -/
theorem Ha.step {w w' : World} {l' : Ks} (h : Ha w p pl bl g l mV sV now) (hl : Led.Lg w' pl bl g l') (ho : Off bl w w') (e : l'.length = l.length) : Ha w' p pl bl g l' mV sV now :=
  ⟨by rw [e]; exact h.blk.off ho h.ne, hl⟩

set_option maxRecDepth 100000 in
theorem within_hs (n x y : Int) (w : World) : Calls Tryz.prog 24 #[.int .i64 n, .int .i64 x, .int .i64 y] w fun e w' => e = .returned (.bool (decide (x ≤ n ∧ n ≤ y))) ∧ w' = w := by
  by_cases h0 : x ≤ n
  · have h1 : decide (x ≤ n) = true := decide_eq_true h0
    go_enter Tryz.func24, Tryz.ntmps24
    go_wp2
    go_ret
    exact ⟨by simp [h0], rfl⟩
  · have h1 : decide (x ≤ n) = false := decide_eq_false h0
    go_enter Tryz.func24, Tryz.ntmps24
    go_wp2
    go_ret
    exact ⟨by simp [h0], rfl⟩
set_option maxRecDepth 100000 in
theorem made_hs (w : World) (h : Ha w p pl bl g l mV sV now) : Calls Tryz.prog 15 #[.pointer (some ⟨p, 0, none⟩)] w fun e w' => e = .returned (.bool true) ∧ w' = w := by
  have c0 : w.cell? ⟨p, 0, none⟩ = some (.int .i64 l.length) := h.blk.cell rfl
  have hp := h.lg.inv.pos
  have hd : decide (0 < (l.length : Int)) = true := decide_eq_true (by omega)
  go_enter Tryz.func15, Tryz.ntmps15
  go_wp2
  go_ret
  exact ⟨by simp, rfl⟩
set_option maxRecDepth 100000 in
set_option maxHeartbeats 1000000 in
theorem free_hs (w : World) (h : Ha w p pl bl g l mV sV now) (who thing : Int) (h0 : 0 ≤ who) (h1 : who < l.length) (ht : thing = -1 ∨ 0 ≤ thing ∧ thing < 4) :
    Calls Tryz.prog 76 #[.pointer (some ⟨p, 0, none⟩), .int .i64 who, .int .i64 thing] w fun e w' => e = .returned (.int .i64 (freeL l who thing)) ∧ Below w.heap.size w w' := by
  have c1 : w.cell? ⟨p, 1, none⟩ = some (.pointer (some ⟨pl, 0, none⟩)) := h.blk.cell rfl
  have HC : Hid _ := Led.account_ok w h.lg who h0 h1
  have hi : who.toNat < l.length := by omega
  have z0 := h.lg.inv.le Led.part0 hi
  have z2 := h.lg.inv.le Led.part2 hi
  have z3 := h.lg.inv.le Led.part3 hi
  have z4 := h.lg.inv.le Led.part4 hi
  have z5 := h.lg.inv.le Led.part5 hi
  obtain ⟨R, hR⟩ : ∃ R, freeL l who thing = R := ⟨_, rfl⟩
  rw [hR]
  unfold freeL at hR
  have HE : Hid _ := hR
  clear hR
  generalize Led.kAt l who.toNat = kk at *
  clear h hi
  by_cases hm : thing = -1
  · subst hm
    rw [if_pos rfl] at HE
    go_enter Tryz.func76, Tryz.ntmps76
    go_wp2_with fail
    refine Calls.mono HC.out ?_
    rintro e w1 ⟨rfl, b1⟩
    unfold Led.accV
    obtain ⟨W1, hW1, X1, B1⟩ : ∃ W1, (w1.alloc (.cells #[.int .i64 0, .int .i64 0, .int .i64 0, .int .i64 0, .int .i64 0, .int .i64 0, .int .i64 0, .int .i64 0, .int .i64 0, .int .i64 0] 33)) = W1 ∧ Blk W1 w1.heap.size (Led.accA Led.Kt.zero) 33 ∧ Below w1.heap.size w1 W1 := ⟨_, rfl, blk_new _ _ _ _ rfl, by go_grown⟩
    obtain ⟨W, hW, X, B⟩ : ∃ W, W1.setRow w1.heap.size (Led.accA kk) = W ∧ Blk W w1.heap.size (Led.accA kk) 33 ∧ Below w1.heap.size w1 W := ⟨_, rfl, Blk.setRow X1 _, below_setRow B1 _ _ (Nat.le_refl _)⟩
    have d0 : W.cell? ⟨w1.heap.size, 0, none⟩ = some (.int .i64 (kk.n 0)) := X.cell rfl
    have d1 : W.cell? ⟨w1.heap.size, 1, none⟩ = some (.int .i64 (kk.n 1)) := X.cell rfl
    go_wp2_with ((with_reducible refine st_row (ty := 33) (cs' := Led.accA kk) X1 (Led.accA_info _) (Led.accA_same _ _) (Led.accA_one _) hW ?_ ?_ ?_); rfl; rfl)
    go_ret
    exact ⟨by rw [← HE.out]; first | done | rfl, by first | exact b1.trans (B.mono b1.size) | exact b1.trans (B.drew.mono b1.size)⟩
  · have ht : 0 ≤ thing ∧ thing < 4 := by omega
    have hmb : (thing == -1) = false := by simpa using hm
    rw [if_neg hm] at HE
    obtain ⟨q, rfl⟩ := Int.eq_ofNat_of_zero_le ht.1
    rw [Int.toNat_natCast] at HE
    have hq : q < 4 := by omega
    have hqi : (q : Int) < 4 := by omega
    go_enter Tryz.func76, Tryz.ntmps76
    go_wp2_with fail
    refine Calls.mono HC.out ?_
    rintro e w1 ⟨rfl, b1⟩
    unfold Led.accV
    obtain ⟨W1, hW1, X1, B1⟩ : ∃ W1, (w1.alloc (.cells #[.int .i64 0, .int .i64 0, .int .i64 0, .int .i64 0, .int .i64 0, .int .i64 0, .int .i64 0, .int .i64 0, .int .i64 0, .int .i64 0] 33)) = W1 ∧ Blk W1 w1.heap.size (Led.accA Led.Kt.zero) 33 ∧ Below w1.heap.size w1 W1 := ⟨_, rfl, blk_new _ _ _ _ rfl, by go_grown⟩
    obtain ⟨W, hW, X, B⟩ : ∃ W, W1.setRow w1.heap.size (Led.accA kk) = W ∧ Blk W w1.heap.size (Led.accA kk) 33 ∧ Below w1.heap.size w1 W := ⟨_, rfl, Blk.setRow X1 _, below_setRow B1 _ _ (Nat.le_refl _)⟩
    have hg4 : ∀ q < 4, (Led.accA kk)[2 + q]? = some (.int .i64 (kk.n (2 + q))) ∧ (Led.accA kk)[6 + q]? = some (.int .i64 (kk.n (6 + q))) ∧ 0 ≤ kk.n (6 + q) ∧ kk.n (6 + q) ≤ kk.n (2 + q) ∧ kk.n (2 + q) ≤ 1099511627776 := fun q hq => by
      have : q = 0 ∨ q = 1 ∨ q = 2 ∨ q = 3 := by omega
      rcases this with rfl | rfl | rfl | rfl
      · exact ⟨rfl, rfl, z2⟩
      · exact ⟨rfl, rfl, z3⟩
      · exact ⟨rfl, rfl, z4⟩
      · exact ⟨rfl, rfl, z5⟩
    obtain ⟨f1, f2, f3, f4, f5⟩ := hg4 q hq
    have d0 : W.cell? ⟨w1.heap.size, 2 + q, none⟩ = some (.int .i64 (kk.n (2 + q))) := X.cell f1
    have d1 : W.cell? ⟨w1.heap.size, 6 + q, none⟩ = some (.int .i64 (kk.n (6 + q))) := X.cell f2
    clear hg4 z0 z2 z3 z4 z5 f1 f2 X
    go_wp2_with ((with_reducible refine st_row (ty := 33) (cs' := Led.accA kk) X1 (Led.accA_info _) (Led.accA_same _ _) (Led.accA_one _) hW ?_ ?_ ?_); rfl; rfl)
    repeat (go_region; go_wp2)
    go_ret
    exact ⟨by rw [← HE.out]; first | done | rfl, by first | exact b1.trans (B.mono b1.size) | exact b1.trans (B.drew.mono b1.size)⟩

set_option maxRecDepth 100000 in
set_option maxHeartbeats 1000000 in
theorem bind_hs (w : World) (h : Ha w p pl bl g l mV sV now) (who thing n : Int) (hn0 : -4611686018427387904 ≤ n) (hn1 : n ≤ 4611686018427387904) :
    Calls Tryz.prog 77 #[.pointer (some ⟨p, 0, none⟩), .int .i64 who, .int .i64 thing, .int .i64 n] w fun e w' => e = .returned (.tuple #[]) ∧ Led.Lg w' pl bl g (bindL g l who thing n) ∧ Off bl w w' := by
  have c1 : w.cell? ⟨p, 1, none⟩ = some (.pointer (some ⟨pl, 0, none⟩)) := h.blk.cell rfl
  have HL : Hid _ := h.lg
  obtain ⟨R, hR⟩ : ∃ R, bindL g l who thing n = R := ⟨_, rfl⟩
  rw [hR]
  unfold bindL at hR
  clear h
  by_cases hm : thing = -1
  · subst hm
    rw [if_pos rfl] at hR
    by_cases hp : 0 < n
    · rw [if_pos hp] at hR
      have HK : Hid _ := Led.hold_calls w HL.out who n _ rfl
      have HE : Hid _ := hR
      have hd : decide (0 < n) = true := decide_eq_true hp
      clear hR
      go_enter Tryz.func77, Tryz.ntmps77
      go_wp2_with fail
      refine Calls.mono HK.out ?_
      rintro e w1 ⟨rfl, L1, o1⟩
      go_wp2
      go_end0
      exact ⟨rfl, HE.out ▸ L1, o1⟩
    · rw [if_neg hp] at hR
      have HK : Hid _ := Led.free_calls w HL.out who (-n) _ rfl
      have HE : Hid _ := hR
      have hd : decide (0 < n) = false := decide_eq_false hp
      clear hR
      go_enter Tryz.func77, Tryz.ntmps77
      go_wp2_with fail
      refine Calls.mono HK.out ?_
      rintro e w1 ⟨rfl, L1, o1⟩
      go_wp2
      go_end0
      exact ⟨rfl, HE.out ▸ L1, o1⟩
  · have hmb : (thing == -1) = false := by simpa using hm
    rw [if_neg hm] at hR
    by_cases hp : 0 < n
    · rw [if_pos hp] at hR
      have HK : Hid _ := Led.lock_calls w HL.out who thing n _ rfl
      have HE : Hid _ := hR
      have hd : decide (0 < n) = true := decide_eq_true hp
      clear hR
      go_enter Tryz.func77, Tryz.ntmps77
      go_wp2_with fail
      refine Calls.mono HK.out ?_
      rintro e w1 ⟨rfl, L1, o1⟩
      go_wp2
      go_end0
      exact ⟨rfl, HE.out ▸ L1, o1⟩
    · rw [if_neg hp] at hR
      have HK : Hid _ := Led.unlock_calls w HL.out who thing (-n) _ rfl
      have HE : Hid _ := hR
      have hd : decide (0 < n) = false := decide_eq_false hp
      clear hR
      go_enter Tryz.func77, Tryz.ntmps77
      go_wp2_with fail
      refine Calls.mono HK.out ?_
      rintro e w1 ⟨rfl, L1, o1⟩
      go_wp2
      go_end0
      exact ⟨rfl, HE.out ▸ L1, o1⟩

set_option maxRecDepth 100000 in
set_option maxHeartbeats 1000000 in
theorem trade_hs (w : World) (h : Ha w p pl bl g l mV sV now) (good seller buyer n price : Int) (hw : IntKind.i64.wrap (n * price) = n * price) :
    Calls Tryz.prog 120 #[.pointer (some ⟨p, 0, none⟩), .int .i64 good, .int .i64 seller, .int .i64 buyer, .int .i64 n, .int .i64 price] w fun e w' => e = .returned (.tuple #[]) ∧ Led.Lg w' pl bl g (tradeL g l good seller buyer n price) ∧ Off bl w w' := by
  have c1 : w.cell? ⟨p, 1, none⟩ = some (.pointer (some ⟨pl, 0, none⟩)) := h.blk.cell rfl
  have HL : Hid _ := h.lg
  have HH : Hid _ := h
  have HK : Hid _ := Led.move_calls w h.lg buyer seller (n * price) _ rfl
  clear h
  go_enter Tryz.func120, Tryz.ntmps120
  go_wp2_with fail
  refine Calls.mono HK.out ?_
  rintro e w1 ⟨rfl, L1, o1⟩
  have HA1 : Ha w1 p pl bl g (tradeL1 l seller buyer n price) mV sV now := HH.out.step L1 o1 (tradeL1_len _ _ _ _ _)
  have d1 : w1.cell? ⟨p, 1, none⟩ = some (.pointer (some ⟨pl, 0, none⟩)) := HA1.blk.cell rfl
  have HK2 : Hid _ := Led.hand_calls w1 HA1.lg seller buyer good n _ rfl
  clear HA1 L1 c1
  go_wp2_with fail
  refine Calls.mono HK2.out ?_
  rintro e w2 ⟨rfl, L2, o2⟩
  go_wp2
  go_end0
  exact ⟨rfl, L2, o1.trans o2⟩
end Go.Proofs.YtpekfpfhonechaaGreat
