/- A map with numbers as keys and one cell for each: the look-up, the note. -/
import Derived.Test.YtladgfngddgnlaaGreatDoorHy01
import Derived.MapKept
import Derived.Maps.RangeRun
import Derived.Test.YtladgfngddgnlaaGreatDoorHy06
import Derived.Test.YtladgfngddgnlaaGreatDoorHy09
import Derived.Test.YtladgfngddgnlaaGreatDoorHy07
import Derived.Test.YtladgfngddgnlaaGreatDoorHy08
import Derived.Test.YtladgfngddgnlaaGreatDoorHy20
import Derived.Test.YtladgfngddgnlaaGreatDoorHy03
import Derived.Test.YtladgfngddgnlaaGreatDoorHy05
import Derived.Test.YtladgfngddgnlaaGreatDoorHy27
import Derived.Test.YtladgfngddgnlaaGreatDoorHy23
import Derived.Test.YtladgfngddgnlaaGreatDoorHy11
namespace Go.Proofs.YtladgfngddgnlaaGreatDoor
open Go.RowKit
open Go.ChangeMaps (setBlock)
set_option linter.unusedSimpArgs false
set_option linter.unusedVariables false
abbrev KVs := List (Int × Value)
def vget : KVs → Int → Option Value
  | [], _ => none
  | x :: r, k => if k = x.1 then some x.2 else vget r k
def vput : KVs → Int → Value → KVs
  | [], k, v => [(k, v)]
  | x :: r, k, v => if k = x.1 then (k, v) :: r else x :: vput r k v
theorem vput_new (l : KVs) (k : Int) (v : Value) (h : vget l k = none) : vput l k v = l ++ [(k, v)] := by
  induction l with
  | nil => rfl
  | cons x l ih =>
    unfold vget at h
    split at h
    · cases h
    · rename_i e
      simp [vput, e, ih h]
/-- The entries of a map of votes, from i on. -/
def entL : KVs → Nat → List MapEntry
  | [], _ => []
  | x :: r, i => ⟨.int .i64 x.1, x.2, i⟩ :: entL r (i + 1)
def ents (l : KVs) : Array MapEntry := (entL l 0).toArray
theorem entL_snoc (l : KVs) (x : Int × Value) (i : Nat) : entL (l ++ [x]) i = entL l i ++ [⟨.int .i64 x.1, x.2, i + l.length⟩] := by
  induction l generalizing i with
  | nil => simp [entL]
  | cons y l ih =>
    have e : i + 1 + l.length = i + (l.length + 1) := by omega
    simp only [List.cons_append, entL, ih, List.length_cons, e]
theorem ents_snoc (l : KVs) (x : Int × Value) : ents (l ++ [x]) = (ents l).push ⟨.int .i64 x.1, x.2, l.length⟩ := by
  unfold ents; rw [entL_snoc]; simp
/-- What is found of a key. -/
def vfind : KVs → Int → Nat → Option (Nat × Value)
  | [], _, _ => none
  | x :: r, k, i => if k = x.1 then some (i, x.2) else vfind r k (i + 1)
theorem findNow_kvs (l : KVs) (k : Int) (i : Nat) : Instr.findNow (.int .i64) (.int .i64 k) (entL l i) i = some (vfind l k i) := by
  induction l generalizing i with
  | nil => rfl
  | cons x l ih =>
    simp only [entL, Instr.findNow, Instr.sameNow, vfind, if_true]
    by_cases h : k = x.1
    · have hb : (k == x.1) = true := by simp [h]
      rw [if_pos h, hb]
    · have hb : (k == x.1) = false := by simp [h]
      rw [if_neg h, hb]
      exact ih (i + 1)
theorem vfind_get (l : KVs) (k : Int) (i : Nat) : (vfind l k i).map (·.2) = vget l k := by
  induction l generalizing i with
  | nil => rfl
  | cons x l ih =>
    unfold vfind vget
    by_cases h : k = x.1
    · simp [h]
    · simp only [h, if_false]; exact ih (i + 1)
theorem findKey_kvs {P : Program} {K : TypeId} (hu : P.underlying K = some (.int .i64)) (w : World) (l : KVs) (k : Int) : (Instr.findKey K (.int .i64 k) (ents l).toList).run P w = .ok (vfind l k 0) w := by
  show (Instr.findKey K (.int .i64 k) (entL l 0)).run P w = _
  simp only [Instr.findKey, Sem.run_bind, run_underlying hu, Result.andThen_ok, findNow_kvs, Sem.run_pure]
theorem checkKey_int {P : Program} {K : TypeId} (hu : P.underlying K = some (.int .i64)) (b : Bool) (k : Int) (w : World) : (Instr.checkKey b 10000 K (.int .i64 k)).run P w = .ok () w := by
  show (Instr.checkKey b (Nat.succ 9999) K (.int .i64 k)).run P w = _
  generalize 9999 = n
  simp only [Instr.checkKey, Sem.run_bind, run_underlying hu, Result.andThen_ok, Sem.run_pure]

def vgetZ (z : Value) (l : KVs) (k : Int) : Value := (vget l k).getD z

/-- Votes in a map that may be nil. -/
def MapAt (w : World) (o : Option Nat) (l : KVs) : Prop :=
  match o with
  | none => l = []
  | some b => w.heap[b]? = some (.map (ents l) l.length)
theorem MapAt.lt {w : World} {b : Nat} {l : KVs} (h : MapAt w (some b) l) : b < w.heap.size := by
  rcases Nat.lt_or_ge b w.heap.size with h1 | h1
  · exact h1
  · unfold MapAt at h; simp only [Array.getElem?_eq_none h1] at h; cases h
theorem MapAt.keep {w w' : World} {o : Option Nat} {l : KVs} (h : MapAt w o l) (hk : ∀ b, o = some b → w'.heap[b]? = w.heap[b]?) : MapAt w' o l := by
  cases o with
  | none => exact h
  | some b => exact (hk b rfl).trans h
theorem MapAt.below {w w' : World} {o : Option Nat} {l : KVs} (h : MapAt w o l) (hb : Below w.heap.size w w') : MapAt w' o l := by
  cases o with
  | none => exact h
  | some b => exact (hb.block b (MapAt.lt h)).trans h
theorem MapAt.blk {w : World} {b k : Nat} {l : KVs} {cs : Array Value} {t : TypeId} (h : MapAt w (some b) l) (hB : Blk w k cs t) : b ≠ k := by
  intro e
  subst e
  unfold MapAt at h
  unfold Blk at hB
  simp only at h
  rw [h] at hB
  cases hB

theorem run_look {P : Program} {T K E : TypeId} {z : Value} {w : World} {o : Option Nat} {l : KVs} (hT : P.underlying T = some (.map K E)) (hK : P.underlying K = some (.int .i64)) (hz : ∀ w, (zeroValue E).run P w = .ok (z) w) (h : MapAt w o l) (k : Int) :
    (Instr.lookup T (.map o) (.int .i64 k) true).run P w = .ok (.tuple #[(vgetZ z l k), .bool (vget l k).isSome]) w := by
  have hg := vfind_get l k 0
  cases o with
  | none =>
    have e : l = [] := h
    subst e
    have hf : (Instr.findKey K (.int .i64 k) []).run P w = .ok none w := findKey_kvs (P := P) hK w [] k
    simp only [Instr.lookup, Sem.run_bind, run_underlying hT, Result.andThen_ok, Sem.run_pure, checkKey_int hK]
    rw [hf]
    simp [hz, vgetZ, vget]
  | some b =>
    have h' : w.heap[b]? = some (.map (ents l) l.length) := h
    simp only [Instr.lookup, Sem.run_bind, run_underlying hT, Result.andThen_ok, MapKept.run_getObj_map h', Sem.run_pure, checkKey_int hK, findKey_kvs hK]
    cases hv : vget l k with
    | none =>
      rw [hv] at hg
      simp only [Option.map_none, Option.map_eq_none_iff] at hg
      simp [hg, hz, vgetZ, hv]
    | some v =>
      rw [hv] at hg
      obtain ⟨y, hy, hy2⟩ : ∃ y, vfind l k 0 = some y ∧ y.2 = v := by
        cases hf : vfind l k 0 with
        | none => rw [hf] at hg; cases hg
        | some y => exact ⟨y, rfl, by rw [hf] at hg; simpa using hg⟩
      obtain ⟨y1, y2⟩ := y
      simp only at hy2
      subst hy2
      simp [hy, vgetZ, hv]
/-- A key that is there: the list with its vote anew. -/
theorem vfind_some : ∀ (l : KVs) (k : Int) (i j : Nat) (u : Value), vfind l k i = some (j, u) → ∃ d, j = i + d ∧ d < l.length ∧ (entL l i)[d]?.map (·.key) = some (.int .i64 k) ∧ ∀ v, (entL l i).modify d (fun e => { e with key := .int .i64 k, val := v }) = entL (vput l k v) i ∧ (vput l k v).length = l.length
  | [], k, i, j, u, h => by cases h
  | x :: l, k, i, j, u, h => by
    unfold vfind at h
    by_cases e : k = x.1
    · rw [if_pos e] at h
      simp only [Option.some.injEq, Prod.mk.injEq] at h
      refine ⟨0, h.1.symm, by simp, by simp [entL, e], fun v => ?_⟩
      simp [entL, vput, e]
    · rw [if_neg e] at h
      obtain ⟨d, h1, h2, h3, h4⟩ := vfind_some l k (i + 1) j u h
      refine ⟨d + 1, by omega, by simp; exact h2, by simpa [entL] using h3, fun v => ?_⟩
      obtain ⟨h5, h6⟩ := h4 v
      simp [entL, vput, e, h5, h6]
theorem run_note {P : Program} {T K E : TypeId} {w : World} {b : Nat} {l : KVs} (hT : P.underlying T = some (.map K E)) (hK : P.underlying K = some (.int .i64)) (h : MapAt w (some b) l) (k : Int) (v : Value) :
    (Instr.mapUpdate T (.map (some b)) (.int .i64 k) v).run P w = .ok () (setBlock w b (.map (ents (vput l k v)) (vput l k v).length)) := by
  have h' : w.heap[b]? = some (.map (ents l) l.length) := h
  simp only [Instr.mapUpdate, Sem.run_bind, run_underlying hT, Result.andThen_ok, MapKept.run_getObj_map h', Sem.run_pure, checkKey_int hK, findKey_kvs hK]
  cases hf : vfind l k 0 with
  | none =>
    have hn : vget l k = none := by
      have := vfind_get l k 0
      rw [hf] at this
      simpa using this.symm
    simp only [MapKept.run_setObj_map _ h', vput_new l k v hn, ents_snoc, List.length_append, List.length_cons, List.length_nil]
    rfl
  | some y =>
    obtain ⟨j, u⟩ := y
    obtain ⟨d, h1, h2, h3, h4⟩ := vfind_some l k 0 j u hf
    obtain ⟨h5, h6⟩ := h4 v
    have hjd : j = d := by omega
    subst hjd
    have e1 : ((ents l)[j]?.map (·.key)).getD (.int .i64 k) = .int .i64 k := by
      have : (ents l)[j]? = (entL l 0)[j]? := by simp [ents]
      rw [this, h3]
      rfl
    have e2 : (Instr.keyThatStays (.int .i64 k) (.int .i64 k)).run P w = .ok (.int .i64 k) w := by
      have : Instr.sameBits 10000 (.int .i64 k) (.int .i64 k) = true := by simp [Instr.sameBits]
      simp [Instr.keyThatStays, this]
    have e3 : (ents l).modify j (fun e => { e with key := .int .i64 k, val := v }) = ents (vput l k v) := by
      unfold ents
      rw [← h5]
      simp
    simp only [e1, Sem.run_bind, e2, Result.andThen_ok, e3, MapKept.run_setObj_map _ h', h6]
    rfl
theorem setBlock_same {w : World} {b : Nat} (o : Obj) (h : b < w.heap.size) : (setBlock w b o).heap[b]? = some o := by simp [setBlock, h]
theorem setBlock_other {w : World} {b k : Nat} (o : Obj) (h : b ≠ k) : (setBlock w b o).heap[k]? = w.heap[k]? := by simp [setBlock, h]
theorem setBlock_size (w : World) (b : Nat) (o : Obj) : (setBlock w b o).heap.size = w.heap.size := by simp [setBlock]
theorem MapAt.set {w : World} {b : Nat} {l : KVs} (h : MapAt w (some b) l) (l' : KVs) : MapAt (setBlock w b (.map (ents l') l'.length)) (some b) l' := setBlock_same _ h.lt
end Go.Proofs.YtladgfngddgnlaaGreatDoor

namespace Go.Proofs.YtladgfngddgnlaaGreatDoor
open Go.RowKit
set_option linter.unusedSimpArgs false
set_option linter.unusedVariables false

abbrev Ks := List Led.Kt
def freeL (l : Ks) (who thing : Int) : Int :=
  if thing = -1 then (Led.kAt l who.toNat).n 0 - (Led.kAt l who.toNat).n 1
  else (Led.kAt l who.toNat).n (2 + thing.toNat) - (Led.kAt l who.toNat).n (6 + thing.toNat)
/-- So much more is held or locked; so much less, below 0. -/
def bindL (g : Nat) (l : Ks) (who thing n : Int) : Ks :=
  if thing = -1 then
    (if 0 < n then (Led.gate (Led.refE l.length n [who]) l (Led.keepR l who.toNat 0 1 n)).2
     else (Led.gate (Led.refE l.length (-n) [who]) l (Led.looseR l who.toNat 1 (-n))).2)
  else if 0 < n then (Led.gate (Led.refG g l.length thing n [who]) l (Led.keepR l who.toNat (2 + thing.toNat) (6 + thing.toNat) n)).2
  else (Led.gate (Led.refG g l.length thing (-n) [who]) l (Led.looseR l who.toNat (6 + thing.toNat) (-n))).2
def tradeL1 (l : Ks) (seller buyer n price : Int) : Ks :=
  (Led.gate (Led.refE l.length (n * price) [buyer, seller]) l (Led.overR l buyer.toNat seller.toNat 0 1 (n * price))).2
def tradeL (g : Nat) (l : Ks) (good seller buyer n price : Int) : Ks :=
  (Led.gate (Led.refG g (tradeL1 l seller buyer n price).length good n [seller, buyer]) (tradeL1 l seller buyer n price) (Led.overR (tradeL1 l seller buyer n price) seller.toNat buyer.toNat (2 + good.toNat) (6 + good.toNat) n)).2
theorem keepR_len {l : Ks} {i a h : Nat} {n : Int} : (Led.keepR l i a h n).2.length = l.length := by unfold Led.keepR; split <;> simp [Led.upd_len]
theorem looseR_len {l : Ks} {i h : Nat} {n : Int} : (Led.looseR l i h n).2.length = l.length := by unfold Led.looseR; split <;> simp [Led.upd_len]
theorem overR_len {l : Ks} {i j a h : Nat} {n : Int} : (Led.overR l i j a h n).2.length = l.length := by unfold Led.overR; split <;> simp [Led.over3_len]
theorem inR_len {l : Ks} {i a : Nat} {n : Int} : (Led.inR l i a n).2.length = l.length := by unfold Led.inR; split <;> simp [Led.upd_len]
theorem outR_len {l : Ks} {i a h : Nat} {n : Int} : (Led.outR l i a h n).2.length = l.length := by unfold Led.outR; split <;> simp [Led.upd_len]
theorem markR_len {l : Ks} {who s : Int} {r : ByteArray} : (Led.markR l who s r).2.length = l.length := by
  unfold Led.markR; split
  · rfl
  · split
    · rfl
    · split
      · rfl
      · simp [Led.markL_len]
theorem bindL_len (g : Nat) (l : Ks) (who thing n : Int) : (bindL g l who thing n).length = l.length := by
  unfold bindL; split
  · split
    · exact Led.gate_len keepR_len
    · exact Led.gate_len looseR_len
  · split
    · exact Led.gate_len keepR_len
    · exact Led.gate_len looseR_len
theorem tradeL1_len (l : Ks) (seller buyer n price : Int) : (tradeL1 l seller buyer n price).length = l.length := Led.gate_len overR_len
theorem tradeL_len (g : Nat) (l : Ks) (good seller buyer n price : Int) : (tradeL g l good seller buyer n price).length = l.length := by
  unfold tradeL; exact (Led.gate_len overR_len).trans (tradeL1_len l seller buyer n price)
end Go.Proofs.YtladgfngddgnlaaGreatDoor

namespace Go.Proofs.YtladgfngddgnlaaGreatDoor
open Go.RowKit
set_option linter.unusedSimpArgs false
set_option linter.unusedVariables false

theorem blk_unl {w : World} {a b : Nat} {cs ds : Array Value} {t u : TypeId} (h : Blk w a cs t) (k : Blk w b ds u) (hne : t ≠ u) : a ≠ b := by
  intro e; subst e
  unfold Blk at h k
  rw [h] at k
  simp only [Option.some.injEq, Obj.cells.injEq] at k
  exact hne k.2.1
/-- The house's block. -/
def hsC (c pl : Nat) (mV sV : Value) (now : Int) : Array Value := #[.int .i64 c, .pointer (some ⟨pl, 0, none⟩), mV, sV, .int .i64 now]
/-- The house and its accounts. -/
structure Ha (w : World) (p pl bl g : Nat) (l : Ks) (mV sV : Value) (now : Int) : Prop where
  blk : Blk w p (hsC l.length pl mV sV now) 52
  lg : Led.Lg w pl bl g l
variable {p pl bl g : Nat} {l : Ks} {mV sV : Value} {now : Int}
theorem Ha.ne {w : World} (h : Ha w p pl bl g l mV sV now) : p ≠ bl := blk_unl h.blk h.lg.row (by decide)
theorem Ha.below {w w' : World} (h : Ha w p pl bl g l mV sV now) (hb : Below w.heap.size w w') : Ha w' p pl bl g l mV sV now := ⟨h.blk.below hb, h.lg.below hb⟩
/-- Behind a step of the accounts alone. -/
theorem Ha.step {w w' : World} {l' : Ks} (h : Ha w p pl bl g l mV sV now) (hl : Led.Lg w' pl bl g l') (ho : Off bl w w') (e : l'.length = l.length) : Ha w' p pl bl g l' mV sV now :=
  ⟨by rw [e]; exact h.blk.off ho h.ne, hl⟩

set_option maxRecDepth 100000 in
theorem within_hs (n x y : Int) (w : World) : Calls Tryz.prog 45 #[.int .i64 n, .int .i64 x, .int .i64 y] w fun e w' => e = .returned (.bool (decide (x ≤ n ∧ n ≤ y))) ∧ w' = w := by
  by_cases h0 : x ≤ n
  · have h1 : decide (x ≤ n) = true := decide_eq_true h0
    go_enter Tryz.func45, Tryz.ntmps45
    go_wp2
    go_ret
    exact ⟨by simp [h0], rfl⟩
  · have h1 : decide (x ≤ n) = false := decide_eq_false h0
    go_enter Tryz.func45, Tryz.ntmps45
    go_wp2
    go_ret
    exact ⟨by simp [h0], rfl⟩
set_option maxRecDepth 100000 in
theorem made_hs (w : World) (h : Ha w p pl bl g l mV sV now) : Calls Tryz.prog 15 #[.pointer (some ⟨p, 0, none⟩)] w fun e w' => e = .returned (.bool true) ∧ w' = w := by
  have c0 : w.cell? ⟨p, 0, none⟩ = some (.int .i64 l.length) := h.blk.cell rfl
  have hp := h.lg.inv.pos
  have hd : decide (0 < (l.length : Int)) = true := decide_eq_true (by omega)
  go_enter Tryz.func15, Tryz.ntmps15
  go_wp2
  go_ret
  exact ⟨by simp, rfl⟩
set_option maxRecDepth 100000 in
set_option maxHeartbeats 1000000 in
theorem free_hs (w : World) (h : Ha w p pl bl g l mV sV now) (who thing : Int) (h0 : 0 ≤ who) (h1 : who < l.length) (ht : thing = -1 ∨ 0 ≤ thing ∧ thing < 4) :
    Calls Tryz.prog 89 #[.pointer (some ⟨p, 0, none⟩), .int .i64 who, .int .i64 thing] w fun e w' => e = .returned (.int .i64 (freeL l who thing)) ∧ Below w.heap.size w w' := by
  have c1 : w.cell? ⟨p, 1, none⟩ = some (.pointer (some ⟨pl, 0, none⟩)) := h.blk.cell rfl
  have HC : Hid _ := Led.account_ok w h.lg who h0 h1
  have hi : who.toNat < l.length := by omega
  have z0 := h.lg.inv.le Led.part0 hi
  have z2 := h.lg.inv.le Led.part2 hi
  have z3 := h.lg.inv.le Led.part3 hi
  have z4 := h.lg.inv.le Led.part4 hi
  have z5 := h.lg.inv.le Led.part5 hi
  obtain ⟨R, hR⟩ : ∃ R, freeL l who thing = R := ⟨_, rfl⟩
  rw [hR]
  unfold freeL at hR
  have HE : Hid _ := hR
  clear hR
  generalize Led.kAt l who.toNat = kk at *
  clear h hi
  by_cases hm : thing = -1
  · subst hm
    rw [if_pos rfl] at HE
    go_enter Tryz.func89, Tryz.ntmps89
    go_wp2_with fail
    refine Calls.mono HC.out ?_
    rintro e w1 ⟨rfl, b1⟩
    unfold Led.accV
    obtain ⟨W1, hW1, X1, B1⟩ : ∃ W1, (w1.alloc (.cells #[.int .i64 0, .int .i64 0, .int .i64 0, .int .i64 0, .int .i64 0, .int .i64 0, .int .i64 0, .int .i64 0, .int .i64 0, .int .i64 0] 69)) = W1 ∧ Blk W1 w1.heap.size (Led.accA Led.Kt.zero) 69 ∧ Below w1.heap.size w1 W1 := ⟨_, rfl, blk_new _ _ _ _ rfl, by go_grown⟩
    obtain ⟨W, hW, X, B⟩ : ∃ W, W1.setRow w1.heap.size (Led.accA kk) = W ∧ Blk W w1.heap.size (Led.accA kk) 69 ∧ Below w1.heap.size w1 W := ⟨_, rfl, Blk.setRow X1 _, below_setRow B1 _ _ (Nat.le_refl _)⟩
    have d0 : W.cell? ⟨w1.heap.size, 0, none⟩ = some (.int .i64 (kk.n 0)) := X.cell rfl
    have d1 : W.cell? ⟨w1.heap.size, 1, none⟩ = some (.int .i64 (kk.n 1)) := X.cell rfl
    go_wp2_with ((with_reducible refine st_row (ty := 69) (cs' := Led.accA kk) X1 (Led.accA_info _) (Led.accA_same _ _) (Led.accA_one _) hW ?_ ?_ ?_); rfl; rfl)
    go_ret
    exact ⟨by rw [← HE.out]; first | done | rfl, by first | exact b1.trans (B.mono b1.size) | exact b1.trans (B.drew.mono b1.size)⟩
  · have ht : 0 ≤ thing ∧ thing < 4 := by omega
    have hmb : (thing == -1) = false := by simpa using hm
    rw [if_neg hm] at HE
    obtain ⟨q, rfl⟩ := Int.eq_ofNat_of_zero_le ht.1
    rw [Int.toNat_natCast] at HE
    have hq : q < 4 := by omega
    have hqi : (q : Int) < 4 := by omega
    go_enter Tryz.func89, Tryz.ntmps89
    go_wp2_with fail
    refine Calls.mono HC.out ?_
    rintro e w1 ⟨rfl, b1⟩
    unfold Led.accV
    obtain ⟨W1, hW1, X1, B1⟩ : ∃ W1, (w1.alloc (.cells #[.int .i64 0, .int .i64 0, .int .i64 0, .int .i64 0, .int .i64 0, .int .i64 0, .int .i64 0, .int .i64 0, .int .i64 0, .int .i64 0] 69)) = W1 ∧ Blk W1 w1.heap.size (Led.accA Led.Kt.zero) 69 ∧ Below w1.heap.size w1 W1 := ⟨_, rfl, blk_new _ _ _ _ rfl, by go_grown⟩
    obtain ⟨W, hW, X, B⟩ : ∃ W, W1.setRow w1.heap.size (Led.accA kk) = W ∧ Blk W w1.heap.size (Led.accA kk) 69 ∧ Below w1.heap.size w1 W := ⟨_, rfl, Blk.setRow X1 _, below_setRow B1 _ _ (Nat.le_refl _)⟩
    have hg4 : ∀ q < 4, (Led.accA kk)[2 + q]? = some (.int .i64 (kk.n (2 + q))) ∧ (Led.accA kk)[6 + q]? = some (.int .i64 (kk.n (6 + q))) ∧ 0 ≤ kk.n (6 + q) ∧ kk.n (6 + q) ≤ kk.n (2 + q) ∧ kk.n (2 + q) ≤ 1099511627776 := fun q hq => by
      have : q = 0 ∨ q = 1 ∨ q = 2 ∨ q = 3 := by omega
      rcases this with rfl | rfl | rfl | rfl
      · exact ⟨rfl, rfl, z2⟩
      · exact ⟨rfl, rfl, z3⟩
      · exact ⟨rfl, rfl, z4⟩
      · exact ⟨rfl, rfl, z5⟩
    obtain ⟨f1, f2, f3, f4, f5⟩ := hg4 q hq
    have d0 : W.cell? ⟨w1.heap.size, 2 + q, none⟩ = some (.int .i64 (kk.n (2 + q))) := X.cell f1
    have d1 : W.cell? ⟨w1.heap.size, 6 + q, none⟩ = some (.int .i64 (kk.n (6 + q))) := X.cell f2
    clear hg4 z0 z2 z3 z4 z5 f1 f2 X
    go_wp2_with ((with_reducible refine st_row (ty := 69) (cs' := Led.accA kk) X1 (Led.accA_info _) (Led.accA_same _ _) (Led.accA_one _) hW ?_ ?_ ?_); rfl; rfl)
    repeat (go_region; go_wp2)
    go_ret
    exact ⟨by rw [← HE.out]; first | done | rfl, by first | exact b1.trans (B.mono b1.size) | exact b1.trans (B.drew.mono b1.size)⟩

set_option maxRecDepth 100000 in
set_option maxHeartbeats 1000000 in
theorem bind_hs (w : World) (h : Ha w p pl bl g l mV sV now) (who thing n : Int) (hn0 : -4611686018427387904 ≤ n) (hn1 : n ≤ 4611686018427387904) :
    Calls Tryz.prog 90 #[.pointer (some ⟨p, 0, none⟩), .int .i64 who, .int .i64 thing, .int .i64 n] w fun e w' => e = .returned (.tuple #[]) ∧ Led.Lg w' pl bl g (bindL g l who thing n) ∧ Off bl w w' := by
  have c1 : w.cell? ⟨p, 1, none⟩ = some (.pointer (some ⟨pl, 0, none⟩)) := h.blk.cell rfl
  have HL : Hid _ := h.lg
  obtain ⟨R, hR⟩ : ∃ R, bindL g l who thing n = R := ⟨_, rfl⟩
  rw [hR]
  unfold bindL at hR
  clear h
  by_cases hm : thing = -1
  · subst hm
    rw [if_pos rfl] at hR
    by_cases hp : 0 < n
    · rw [if_pos hp] at hR
      have HK : Hid _ := Led.hold_calls w HL.out who n _ rfl
      have HE : Hid _ := hR
      have hd : decide (0 < n) = true := decide_eq_true hp
      clear hR
      go_enter Tryz.func90, Tryz.ntmps90
      go_wp2_with fail
      refine Calls.mono HK.out ?_
      rintro e w1 ⟨rfl, L1, o1⟩
      go_wp2
      go_end0
      exact ⟨rfl, HE.out ▸ L1, o1⟩
    · rw [if_neg hp] at hR
      have HK : Hid _ := Led.free_calls w HL.out who (-n) _ rfl
      have HE : Hid _ := hR
      have hd : decide (0 < n) = false := decide_eq_false hp
      clear hR
      go_enter Tryz.func90, Tryz.ntmps90
      go_wp2_with fail
      refine Calls.mono HK.out ?_
      rintro e w1 ⟨rfl, L1, o1⟩
      go_wp2
      go_end0
      exact ⟨rfl, HE.out ▸ L1, o1⟩
  · have hmb : (thing == -1) = false := by simpa using hm
    rw [if_neg hm] at hR
    by_cases hp : 0 < n
    · rw [if_pos hp] at hR
      have HK : Hid _ := Led.lock_calls w HL.out who thing n _ rfl
      have HE : Hid _ := hR
      have hd : decide (0 < n) = true := decide_eq_true hp
      clear hR
      go_enter Tryz.func90, Tryz.ntmps90
      go_wp2_with fail
      refine Calls.mono HK.out ?_
      rintro e w1 ⟨rfl, L1, o1⟩
      go_wp2
      go_end0
      exact ⟨rfl, HE.out ▸ L1, o1⟩
    · rw [if_neg hp] at hR
      have HK : Hid _ := Led.unlock_calls w HL.out who thing (-n) _ rfl
      have HE : Hid _ := hR
      have hd : decide (0 < n) = false := decide_eq_false hp
      clear hR
      go_enter Tryz.func90, Tryz.ntmps90
      go_wp2_with fail
      refine Calls.mono HK.out ?_
      rintro e w1 ⟨rfl, L1, o1⟩
      go_wp2
      go_end0
      exact ⟨rfl, HE.out ▸ L1, o1⟩

set_option maxRecDepth 100000 in
set_option maxHeartbeats 1000000 in
theorem trade_hs (w : World) (h : Ha w p pl bl g l mV sV now) (good seller buyer n price : Int) (hw : IntKind.i64.wrap (n * price) = n * price) :
    Calls Tryz.prog 143 #[.pointer (some ⟨p, 0, none⟩), .int .i64 good, .int .i64 seller, .int .i64 buyer, .int .i64 n, .int .i64 price] w fun e w' => e = .returned (.tuple #[]) ∧ Led.Lg w' pl bl g (tradeL g l good seller buyer n price) ∧ Off bl w w' := by
  have c1 : w.cell? ⟨p, 1, none⟩ = some (.pointer (some ⟨pl, 0, none⟩)) := h.blk.cell rfl
  have HL : Hid _ := h.lg
  have HH : Hid _ := h
  have HK : Hid _ := Led.move_calls w h.lg buyer seller (n * price) _ rfl
  clear h
  go_enter Tryz.func143, Tryz.ntmps143
  go_wp2_with fail
  refine Calls.mono HK.out ?_
  rintro e w1 ⟨rfl, L1, o1⟩
  have HA1 : Ha w1 p pl bl g (tradeL1 l seller buyer n price) mV sV now := HH.out.step L1 o1 (tradeL1_len _ _ _ _ _)
  have d1 : w1.cell? ⟨p, 1, none⟩ = some (.pointer (some ⟨pl, 0, none⟩)) := HA1.blk.cell rfl
  have HK2 : Hid _ := Led.hand_calls w1 HA1.lg seller buyer good n _ rfl
  clear HA1 L1 c1
  go_wp2_with fail
  refine Calls.mono HK2.out ?_
  rintro e w2 ⟨rfl, L2, o2⟩
  go_wp2
  go_end0
  exact ⟨rfl, L2, o1.trans o2⟩
end Go.Proofs.YtladgfngddgnlaaGreatDoor

namespace Go.Proofs.YtladgfngddgnlaaGreatDoor
open Go.RowKit
set_option linter.unusedSimpArgs false
set_option linter.unusedVariables false
variable {p pl bl g : Nat} {l : Ks} {mV sV : Value} {now : Int}

/-- A reply. -/
def layR (e n : Int) : ByteArray := (⟨(enc e.toNat).toArray⟩ : ByteArray) ++ (⟨(enc n.toNat).toArray⟩ : ByteArray)
theorem layR_size (e n : Int) : (layR e n).size ≤ 20 := by
  have h1 := enc_le e.toNat
  have h2 := enc_le n.toNat
  unfold layR
  rw [ByteArray.size_append]
  show (enc e.toNat).toArray.size + (enc n.toNat).toArray.size ≤ 20
  simp only [List.size_toArray]
  omega
set_option maxRecDepth 100000 in
theorem laid_hs (e n : Int) (w : World) (h0 : 0 ≤ e) (h1 : e ≤ 9007199254740992) (h2 : 0 ≤ n) (h3 : n ≤ 9007199254740992) :
    Calls Tryz.prog 23 #[.int .i64 e, .int .i64 n] w fun e' w' => e' = .returned (.string (layR e n)) ∧ Below w.heap.size w w' := by
  obtain ⟨e, rfl⟩ := Int.eq_ofNat_of_zero_le h0
  obtain ⟨n, rfl⟩ := Int.eq_ofNat_of_zero_le h2
  have H1 : Hid _ := fun wx => putInt_ok e wx (by omega)
  have H2 : Hid _ := fun wx => putInt_ok n wx (by omega)
  unfold layR
  rw [Int.toNat_natCast, Int.toNat_natCast]
  have z1 : (⟨(enc e).toArray⟩ : ByteArray).size ≤ 10 := by
    have := enc_le e
    show (enc e).toArray.size ≤ 10
    simpa using this
  have z2 : (⟨(enc n).toArray⟩ : ByteArray).size ≤ 10 := by
    have := enc_le n
    show (enc n).toArray.size ≤ 10
    simpa using this
  generalize (⟨(enc e).toArray⟩ : ByteArray) = s1 at *
  generalize (⟨(enc n).toArray⟩ : ByteArray) = s2 at *
  go_enter Tryz.func23, Tryz.ntmps23
  go_wp2_with fail
  refine (H1.out _).mono ?_
  rintro e1 w1 ⟨rfl, b1⟩
  go_wp2_with fail
  refine (H2.out _).mono ?_
  rintro e2 w2 ⟨rfl, b2⟩
  go_wp2
  go_ret
  exact ⟨rfl, b1.trans (b2.mono b1.size)⟩
set_option maxRecDepth 100000 in
theorem numberOf_hs (who i : Int) (w : World) (h0 : 0 ≤ who) (h1 : who ≤ 1000) (h2 : 0 ≤ i) (h3 : i ≤ 9007199254740992) :
    Calls Tryz.prog 99 #[.int .i64 who, .int .i64 i] w fun e w' => e = .returned (.int .i64 (16 * i + who)) ∧ w' = w := by
  go_enter Tryz.func99, Tryz.ntmps99
  go_wp2
  go_ret
  exact ⟨rfl, rfl⟩

/-- What an order lets be bound, and how much. -/
def bndT (good : Int) (o : Cal.Od) : Int := if o.by = true then -1 else good
def bndN (o : Cal.Od) : Int := if o.by = true then o.pr * o.am else o.am
set_option maxRecDepth 100000 in
set_option maxHeartbeats 1000000 in
theorem binds_hs (good : Int) (o : Cal.Od) (w : World) (hw : IntKind.i64.wrap (o.pr * o.am) = o.pr * o.am) :
    Calls Tryz.prog 95 #[.int .i64 good, .agg (Cal.oC o).toArray] w fun e w' => e = .returned (.tuple #[.int .i64 (bndT good o), .int .i64 (bndN o)]) ∧ Below w.heap.size w w' := by
  obtain ⟨W, hW, X, B⟩ : ∃ W, (w.alloc (.cells (Cal.oC o).toArray 92)) = W ∧ Blk W w.heap.size (Cal.oC o).toArray 92 ∧ Below w.heap.size w W := ⟨_, rfl, blk_new _ _ _ _ rfl, by go_grown⟩
  have d2 : W.cell? ⟨w.heap.size, 2, none⟩ = some (.int .i64 o.pr) := X.cell rfl
  have d3 : W.cell? ⟨w.heap.size, 3, none⟩ = some (.int .i64 o.am) := X.cell rfl
  have d5 : W.cell? ⟨w.heap.size, 5, none⟩ = some (.bool o.by) := X.cell rfl
  have HE : Hid (bndT good o = (if o.by = true then -1 else good) ∧ bndN o = (if o.by = true then o.pr * o.am else o.am)) := ⟨rfl, rfl⟩
  generalize bndT good o = T at *
  generalize bndN o = N at *
  generalize hC : (Cal.oC o).toArray = C at *
  have hCs : Hid _ := hC
  clear hC
  generalize o.pr = pr at *
  generalize o.am = am at *
  cases hb : o.by
  · rw [hb] at HE d5
    obtain ⟨h1, h2⟩ := HE.out
    clear X hb HE
    go_enter Tryz.func95, Tryz.ntmps95
    go_wp2
    repeat (go_region; go_wp2)
    refine bodyPost_ret (by simp [results, Tryz.results95, go_sem]; rfl) rfl ?_
    exact ⟨by rw [h1, h2]; rfl, by first | exact B | exact B.drew | exact B.drew.drew⟩
  · rw [hb] at HE d5
    obtain ⟨h1, h2⟩ := HE.out
    clear X hb HE
    go_enter Tryz.func95, Tryz.ntmps95
    go_wp2
    repeat (go_region; go_wp2)
    refine bodyPost_ret (by simp [results, Tryz.results95, go_sem]; rfl) rfl ?_
    exact ⟨by rw [h1, h2]; rfl, by first | exact B | exact B.drew | exact B.drew.drew⟩

/-- Why a request is not looked at. -/
def refR (l : Ks) (who stamp : Int) : Int :=
  if ¬ (0 ≤ who ∧ who ≤ (l.length : Int) - 1) then 60 else if ¬ (1 ≤ stamp ∧ stamp ≤ 1099511627776) then 1 else if stamp ≤ (Led.kAt l who.toNat).n 10 then 91 else 0
set_option maxRecDepth 100000 in
set_option maxHeartbeats 1000000 in
theorem refuse_hs (w : World) (h : Ha w p pl bl g l mV sV now) (who stamp : Int) :
    Calls Tryz.prog 22 #[.pointer (some ⟨p, 0, none⟩), .int .i64 who, .int .i64 stamp] w fun e w' => e = .returned (.int .i64 (refR l who stamp)) ∧ Below w.heap.size w w' := by
  have c0 : w.cell? ⟨p, 0, none⟩ = some (.int .i64 l.length) := h.blk.cell rfl
  have c1 : w.cell? ⟨p, 1, none⟩ = some (.pointer (some ⟨pl, 0, none⟩)) := h.blk.cell rfl
  have hma := made_hs w h
  have hlen := h.lg.inv.len
  have hpos := h.lg.inv.pos
  have HW1 : Hid _ := within_hs who 0 ((l.length : Int) - 1) w
  have HW2 : Hid _ := within_hs stamp 1 1099511627776 w
  obtain ⟨R, hR⟩ : ∃ R, refR l who stamp = R := ⟨_, rfl⟩
  rw [hR]
  unfold refR at hR
  by_cases h1 : 0 ≤ who ∧ who ≤ (l.length : Int) - 1
  · have HL : Hid _ := Led.last_ok w h.lg who h1.1 (by omega)
    rw [if_neg (not_not_intro h1)] at hR
    rw [decide_eq_true h1] at HW1
    clear h h1
    by_cases h2 : 1 ≤ stamp ∧ stamp ≤ 1099511627776
    · rw [if_neg (not_not_intro h2)] at hR
      rw [decide_eq_true h2] at HW2
      clear h2
      generalize Led.kAt l who.toNat = kk at *
      generalize hs : kk.n 10 = s at *
      by_cases h3 : stamp ≤ s
      · rw [if_pos h3] at hR
        have hd : decide (stamp ≤ s) = true := decide_eq_true h3
        clear h3 hs
        subst hR
        go_enter Tryz.func22, Tryz.ntmps22
        go_wp2_with fail
        refine hma.mono ?_
        rintro e w1 ⟨rfl, rfl⟩
        go_wp2_with fail
        refine Calls.mono HW1.out ?_
        rintro e w2 ⟨rfl, rfl⟩
        go_wp2_with fail
        refine Calls.mono HW2.out ?_
        rintro e w3 ⟨rfl, rfl⟩
        go_wp2_with fail
        refine Calls.mono HL.out ?_
        rintro e w4 ⟨rfl, b4⟩
        go_wp2
        go_ret
        exact ⟨rfl, b4⟩
      · rw [if_neg h3] at hR
        have hd : decide (stamp ≤ s) = false := decide_eq_false h3
        clear h3 hs
        subst hR
        go_enter Tryz.func22, Tryz.ntmps22
        go_wp2_with fail
        refine hma.mono ?_
        rintro e w1 ⟨rfl, rfl⟩
        go_wp2_with fail
        refine Calls.mono HW1.out ?_
        rintro e w2 ⟨rfl, rfl⟩
        go_wp2_with fail
        refine Calls.mono HW2.out ?_
        rintro e w3 ⟨rfl, rfl⟩
        go_wp2_with fail
        refine Calls.mono HL.out ?_
        rintro e w4 ⟨rfl, b4⟩
        go_wp2
        go_ret
        exact ⟨rfl, b4⟩
    · rw [if_pos h2] at hR
      rw [decide_eq_false h2] at HW2
      clear h2
      subst hR
      go_enter Tryz.func22, Tryz.ntmps22
      go_wp2_with fail
      refine hma.mono ?_
      rintro e w1 ⟨rfl, rfl⟩
      go_wp2_with fail
      refine Calls.mono HW1.out ?_
      rintro e w2 ⟨rfl, rfl⟩
      go_wp2_with fail
      refine Calls.mono HW2.out ?_
      rintro e w3 ⟨rfl, rfl⟩
      go_wp2
      go_ret
      exact ⟨rfl, Below.refl _ _⟩
  · rw [if_pos h1] at hR
    rw [decide_eq_false h1] at HW1
    clear h1 h
    subst hR
    go_enter Tryz.func22, Tryz.ntmps22
    go_wp2_with fail
    refine hma.mono ?_
    rintro e w1 ⟨rfl, rfl⟩
    go_wp2_with fail
    refine Calls.mono HW1.out ?_
    rintro e w2 ⟨rfl, rfl⟩
    go_wp2
    go_ret
    exact ⟨rfl, Below.refl _ _⟩
end Go.Proofs.YtladgfngddgnlaaGreatDoor

namespace Go.Proofs.YtladgfngddgnlaaGreatDoor
open Go.RowKit
set_option linter.unusedSimpArgs false
set_option linter.unusedVariables false

/-- All but some blocks is as it was. -/
structure Chg (D : Nat → Prop) (w w' : World) : Prop where
  os : w'.os = w.os
  tape : w'.tape = w.tape
  output : w'.output = w.output
  size : w.heap.size ≤ w'.heap.size
  block : ∀ k, k < w.heap.size → ¬ D k → w'.heap[k]? = w.heap[k]?
theorem Chg.of_below {D : Nat → Prop} {w w' : World} (h : Below w.heap.size w w') : Chg D w w' := ⟨h.os, h.tape, h.output, h.size, fun k hk _ => h.block k hk⟩
theorem Chg.of_off {D : Nat → Prop} {b : Nat} {w w' : World} (h : Off b w w') (hd : D b) : Chg D w w' := ⟨h.os, h.tape, h.output, h.size, fun k hk hn => h.block k hk (fun e => hn (e ▸ hd))⟩
theorem Chg.of_ofb {D : Nat → Prop} {p : Nat} {v : Value} {w w' : World} (h : Cal.Ofb p v w w') (hp : D p) (hv : ∀ k, v.ownBlock = some k → D k) : Chg D w w' :=
  ⟨h.os, h.tape, h.output, h.size, fun k hk hn => h.block k hk (fun e => hn (e ▸ hp)) (fun e => hn (hv k e))⟩
theorem Chg.of_ofc {D : Nat → Prop} {p b : Nat} {w w' : World} (h : Clo.Ofc p b w w') (hp : D p) (hb : D b) : Chg D w w' :=
  ⟨h.os, h.tape, h.output, h.size, fun k hk hn => h.block k hk (fun e => hn (e ▸ hp)) (fun e => hn (e ▸ hb))⟩
theorem Chg.trans {D E : Nat → Prop} {a b c : World} (h : Chg D a b) (hE : ∀ k, E k → D k ∨ a.heap.size ≤ k) (k : Chg E b c) : Chg D a c :=
  ⟨k.os.trans h.os, k.tape.trans h.tape, k.output.trans h.output, Nat.le_trans h.size k.size, fun i hi hn => (k.block i (Nat.lt_of_lt_of_le hi h.size) (fun e => by
    rcases hE i e with f | f
    · exact hn f
    · omega)).trans (h.block i hi hn)⟩
theorem Blk.chg {D : Nat → Prop} {w w' : World} {k : Nat} {cs : Array Value} {t : TypeId} (h : Blk w k cs t) (c : Chg D w w') (hn : ¬ D k) : Blk w' k cs t := (c.block k h.lt hn).trans h
theorem Chg.cell {D : Nat → Prop} {w w' : World} (c : Chg D w w') {a : Addr} {u : Value} (hu : w.cell? a = some u) (hn : ¬ D a.block) : w'.cell? a = some u := by
  have hb := World.block_lt_of_cell? w _ hu
  have h := c.block a.block hb hn
  rw [← hu]
  unfold World.cell?
  rw [h]
theorem Chg.drew {D : Nat → Prop} {w w' : World} (c : Chg D w w') : Chg D w w'.drew := ⟨c.os, c.tape, c.output, c.size, c.block⟩
theorem own_chg {D : Nat → Prop} {w w' : World} {base : Nat} {e : TypeId} {sz : Nat} {v : Value} {n : Nat} {xs : List Value} (ho : w.ownsRow base e sz v n xs) (c : Chg D w w') (hn : ∀ k, v.ownBlock = some k → ¬ D k) : w'.ownsRow base e sz v n xs := by
  obtain ⟨h1, ⟨rfl, h2⟩ | ⟨q, cap, cur, rfl, hb, hh, rest⟩⟩ := ho
  · exact ⟨h1, Or.inl ⟨rfl, h2⟩⟩
  · refine ⟨h1, Or.inr ⟨q, cap, cur, rfl, hb, ?_, rest⟩⟩
    have hq : q < w.heap.size := by
      rcases Nat.lt_or_ge q w.heap.size with h | h
      · exact h
      · rw [Array.getElem?_eq_none h] at hh; cases hh
    exact (c.block q hq (hn q rfl)).trans hh
theorem own_unl {w : World} {base : Nat} {e u : TypeId} {sz : Nat} {v : Value} {n j : Nat} {xs : List Value} {cs : Array Value} (ho : w.ownsRow base e sz v n xs) (h : Blk w j cs u) (hne : e ≠ u) : v.ownBlock ≠ some j := by
  obtain ⟨h1, ⟨rfl, h2⟩ | ⟨q, cap, cur, rfl, hb, hh, rest⟩⟩ := ho
  · simp [Value.ownBlock]
  · intro e1
    simp only [Value.ownBlock, Option.some.injEq] at e1
    subst e1
    unfold Blk at h
    rw [hh] at h
    simp only [Option.some.injEq, Obj.cells.injEq] at h
    exact hne h.2.1

/-- The markets: each one's block and the row of its orders; the row of the pointers to them. -/
structure Mks (w : World) (base g qm : Nat) (bs : List (Nat × Value)) (ms : List Cal.Bo) : Prop where
  nb : bs.length = g
  nm : ms.length = g
  row : ∃ cs : Array Value, Blk w qm cs 53 ∧ ∀ (i : Nat) (b : Nat × Value), bs[i]? = some b → cs[i]? = some (Value.pointer (some ⟨b.1, 0, none⟩))
  bk : ∀ (i : Nat) (b : Nat × Value) (B : Cal.Bo), bs[i]? = some b → ms[i]? = some B → Cal.Bk w base b.1 b.2 B
  dis : ∀ (i j : Nat) (b c : Nat × Value), bs[i]? = some b → bs[j]? = some c → i ≠ j → b.1 ≠ c.1 ∧ ∀ k, b.2.ownBlock = some k → c.2.ownBlock ≠ some k
def ptrS (a : Option (Nat × Nat × Nat)) : Value := .pointer (a.map fun x => ⟨x.1, 0, none⟩)
/-- The auctions: each one's blocks; the row of the pointers to them. -/
structure Sls (w : World) (base g qs : Nat) (sl : List (Option (Nat × Nat × Nat))) (ss : List (Option (Clo.Au × Int))) : Prop where
  ns : sl.length = g
  nn : ss.length = g
  row : Blk w qs (sl.map ptrS).toArray 56
  non : ∀ i : Nat, sl[i]? = some none ↔ ss[i]? = some none
  sal : ∀ (i : Nat) a x, sl[i]? = some (some a) → ss[i]? = some (some x) → Blk w a.1 #[.pointer (some ⟨a.2.1, 0, none⟩), .int .i64 x.2] 60 ∧ Clo.Lc w a.2.1 a.2.2 x.1 ∧ base ≤ a.2.1 ∧ base ≤ a.2.2
  dis : ∀ (i j : Nat) a c, sl[i]? = some (some a) → sl[j]? = some (some c) → i ≠ j → a.1 ≠ c.1 ∧ a.2.1 ≠ c.2.1 ∧ a.2.2 ≠ c.2.2
theorem get_both {α β : Type} {a : List α} {b : List β} {i : Nat} {x : α} (h : a[i]? = some x) (e : b.length = a.length) : ∃ y, b[i]? = some y := by
  have := (List.getElem?_eq_some_iff.1 h).1
  exact ⟨b[i]'(by omega), by simp⟩
theorem Cal.Bk.chg {D : Nat → Prop} {w w' : World} {base p : Nat} {v : Value} {B : Cal.Bo} (h : Cal.Bk w base p v B) (c : Chg D w w') (hp : ¬ D p) (hv : ∀ k, v.ownBlock = some k → ¬ D k) : Cal.Bk w' base p v B :=
  ⟨h.blk.chg c hp, own_chg h.row c hv, h.le, h.ne, h.inv⟩
theorem Clo.Lc.chg {D : Nat → Prop} {w w' : World} {p b : Nat} {A : Clo.Au} (h : Clo.Lc w p b A) (c : Chg D w w') (hp : ¬ D p) (hb : ¬ D b) : Clo.Lc w' p b A := ⟨h.blk.chg c hp, h.row.chg c hb, h.ne, h.inv⟩
theorem Led.Lg.chg {D : Nat → Prop} {w w' : World} {p b g : Nat} {l : Ks} (h : Led.Lg w p b g l) (c : Chg D w w') (hp : ¬ D p) (hb : ¬ D b) : Led.Lg w' p b g l := ⟨h.blk.chg c hp, h.row.chg c hb, h.ne, h.inv⟩
variable {base g qm qs : Nat} {bs : List (Nat × Value)} {ms : List Cal.Bo} {sl : List (Option (Nat × Nat × Nat))} {ss : List (Option (Clo.Au × Int))}
/-- What changes lies elsewhere: blocks of other types. -/
def Elsw (w : World) (D : Nat → Prop) (ts : List TypeId) : Prop := ∀ k cs t, Blk w k cs t → t ∈ ts → ¬ D k
theorem Elsw.own {w : World} {D : Nat → Prop} {ts : List TypeId} (h : Elsw w D ts) {base : Nat} {e : TypeId} {sz : Nat} {v : Value} {n : Nat} {xs : List Value} (ho : w.ownsRow base e sz v n xs) (he : e ∈ ts) : ∀ k, v.ownBlock = some k → ¬ D k := by
  obtain ⟨h1, ⟨rfl, h2⟩ | ⟨q, cap, cur, rfl, hb, hh, rest⟩⟩ := ho
  · intro k hk; cases hk
  · intro k hk
    simp only [Value.ownBlock, Option.some.injEq] at hk
    subst hk
    exact h q cur e hh he
theorem Elsw.one {w : World} {j : Nat} {ds : Array Value} {u : TypeId} {ts : List TypeId} (h : Blk w j ds u) (hu : u ∉ ts) : Elsw w (fun k => k = j) ts := fun k cs t hk ht e => by
  subst e
  exact blk_unl hk h (fun e => hu (e ▸ ht)) rfl
theorem Elsw.two {w : World} {j j' : Nat} {ds ds' : Array Value} {u u' : TypeId} {ts : List TypeId} (h : Blk w j ds u) (hu : u ∉ ts) (h' : Blk w j' ds' u') (hu' : u' ∉ ts) : Elsw w (fun k => k = j ∨ k = j') ts := fun k cs t hk ht e => by
  rcases e with e | e
  · exact Elsw.one h hu k cs t hk ht e
  · exact Elsw.one h' hu' k cs t hk ht e
theorem Elsw.book {w : World} {p : Nat} {v : Value} {B : Cal.Bo} {ts : List TypeId} (h : Cal.Bk w base p v B) (h1 : 89 ∉ ts) (h2 : 92 ∉ ts) : Elsw w (fun k => k = p ∨ v.ownBlock = some k) ts := fun k cs t hk ht e => by
  rcases e with e | e
  · exact Elsw.one h.blk h1 k cs t hk ht e
  · exact own_unl h.row hk (fun e => h2 (e ▸ ht)) e
theorem Mks.chg {D : Nat → Prop} {w w' : World} (h : Mks w base g qm bs ms) (c : Chg D w w') (he : Elsw w D [53, 89, 92]) : Mks w' base g qm bs ms := by
  obtain ⟨cs, hr, hr2⟩ := h.row
  refine ⟨h.nb, h.nm, ⟨cs, hr.chg c (he _ _ _ hr (by simp)), hr2⟩, fun i b B hb hB => ?_, h.dis⟩
  have k := h.bk i b B hb hB
  exact k.chg c (he _ _ _ k.blk (by simp)) (he.own k.row (by simp))
theorem Sls.chg {D : Nat → Prop} {w w' : World} (h : Sls w base g qs sl ss) (c : Chg D w w') (he : Elsw w D [56, 60, 106, 108]) : Sls w' base g qs sl ss := by
  refine ⟨h.ns, h.nn, h.row.chg c (he _ _ _ h.row (by simp)), h.non, fun i a x ha hx => ?_, h.dis⟩
  obtain ⟨k1, k2, k3⟩ := h.sal i a x ha hx
  exact ⟨k1.chg c (he _ _ _ k1 (by simp)), k2.chg c (he _ _ _ k2.blk (by simp)) (he _ _ _ k2.row (by simp)), k3⟩
theorem Ha.chg {D : Nat → Prop} {w w' : World} {p pl bl : Nat} {l : Ks} {mV sV : Value} {now : Int} (h : Ha w p pl bl g l mV sV now) (c : Chg D w w') (he : Elsw w D [52, 83, 85]) : Ha w' p pl bl g l mV sV now :=
  ⟨h.blk.chg c (he _ _ _ h.blk (by simp)), h.lg.chg c (he _ _ _ h.lg.blk (by simp)) (he _ _ _ h.lg.row (by simp))⟩
/-- One market behind a step of its own. -/
theorem Mks.step {w w' : World} {i : Nat} {b : Nat × Value} {v' : Value} {B' : Cal.Bo} (h : Mks w base g qm bs ms) (hi : bs[i]? = some b) (hs : Cal.Bst w w' base b.1 b.2 v' B') : Mks w' base g qm (bs.set i (b.1, v')) (ms.set i B') := by
  obtain ⟨cs, hr, hr2⟩ := h.row
  obtain ⟨B, hB⟩ := get_both hi (h.nm.trans h.nb.symm)
  have hk := h.bk i b B hi hB
  have hil := (List.getElem?_eq_some_iff.1 hi).1
  have hml := (List.getElem?_eq_some_iff.1 hB).1
  have c : Chg (fun k => k = b.1 ∨ b.2.ownBlock = some k) w w' := Chg.of_ofb hs.of (Or.inl rfl) (fun k hk => Or.inr hk)
  have he := Elsw.book hk (ts := [53]) (by decide) (by decide)
  refine ⟨by simpa using h.nb, by simpa using h.nm, ⟨cs, hr.chg c (he _ _ _ hr (by simp)), fun j x hx => ?_⟩, fun j x X hx hX => ?_, fun j k x y hx hy hjk => ?_⟩
  · rw [List.getElem?_set] at hx
    split at hx
    · next e => subst e; simp only [hil, if_true, Option.some.injEq] at hx; subst hx; exact hr2 i b hi
    · exact hr2 j x hx
  · rw [List.getElem?_set] at hx hX
    split at hx
    · next e =>
      subst e
      simp only [hil, hml, if_true, Option.some.injEq] at hx hX
      subst hx hX
      exact hs.bk
    · next e =>
      rw [if_neg e] at hX
      have hd := h.dis i j b x hi hx e
      refine (h.bk j x X hx hX).chg c (fun hh => ?_) (fun q hq hh => ?_)
      · rcases hh with hh | hh
        · exact hd.1 hh.symm
        · exact own_unl hk.row (h.bk j x X hx hX).blk (by decide) hh
      · rcases hh with hh | hh
        · subst hh; exact own_unl (h.bk j x X hx hX).row hk.blk (by decide) hq
        · exact hd.2 q hh hq
  · have old : ∀ (a : Nat) (z : Nat × Value), bs[a]? = some z → a ≠ i → b.1 ≠ z.1 ∧ ∀ q, v'.ownBlock = some q → z.2.ownBlock ≠ some q := fun a z hz ha => by
      have hd := h.dis i a b z hi hz (fun e => ha e.symm)
      refine ⟨hd.1, fun q hq hz2 => ?_⟩
      rcases hs.at_ q hq with e | e
      · exact hd.2 q e hz2
      · obtain ⟨Z, hZ⟩ := get_both hz (h.nm.trans h.nb.symm)
        have := ((h.bk a z Z hz hZ).row.lt q hz2).2
        omega
    rw [List.getElem?_set] at hx hy
    split at hx
    · next e =>
      subst e
      simp only [hil, if_true, Option.some.injEq] at hx
      subst hx
      rw [if_neg hjk] at hy
      exact old k y hy (fun e => hjk e.symm)
    · next e =>
      split at hy
      · next e2 =>
        subst e2
        simp only [hil, if_true, Option.some.injEq] at hy
        subst hy
        obtain ⟨o1, o2⟩ := old j x hx hjk
        exact ⟨fun e => o1 e.symm, fun q hq hq2 => o2 q hq2 hq⟩
      · exact h.dis j k x y hx hy hjk
end Go.Proofs.YtladgfngddgnlaaGreatDoor
