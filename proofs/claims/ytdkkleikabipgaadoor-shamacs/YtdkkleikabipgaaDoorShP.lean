/- SHA-256 on plain numbers: the document's sum, and the bits that both sides reckon with. -/
import Derived.WalkKit
import Derived.Handy
namespace Go.Proofs.YtdkkleikabipgaaDoor
open Go.RowKit
set_option linter.unusedSimpArgs false
set_option linter.unusedVariables false

/-- A word turned to the right. -/
def rotR (x n : Nat) : Nat := (x / 2 ^ n ||| x * 2 ^ (32 - n)) % 4294967296
def sg0 (x : Nat) : Nat := rotR x 7 ^^^ rotR x 18 ^^^ x / 8
def sg1 (x : Nat) : Nat := rotR x 17 ^^^ rotR x 19 ^^^ x / 1024
def bs1 (e : Nat) : Nat := rotR e 6 ^^^ rotR e 11 ^^^ rotR e 25
def bs0 (a : Nat) : Nat := rotR a 2 ^^^ rotR a 13 ^^^ rotR a 22
def chs (e f g : Nat) : Nat := e &&& f ||| (4294967295 - e) &&& g
def mjr (a b c : Nat) : Nat := a &&& b ||| a &&& c ||| b &&& c

theorem rotR_lt (x n : Nat) : rotR x n < 4294967296 := Nat.mod_lt _ (by decide)
theorem xor_lt (a b : Nat) (ha : a < 4294967296) (hb : b < 4294967296) : a ^^^ b < 4294967296 := Nat.xor_lt_two_pow (n := 32) ha hb
theorem and_lt (a b : Nat) (hb : b < 4294967296) : a &&& b < 4294967296 := Nat.and_lt_two_pow (n := 32) _ hb
theorem or_lt (a b : Nat) (ha : a < 4294967296) (hb : b < 4294967296) : a ||| b < 4294967296 := Nat.or_lt_two_pow (n := 32) ha hb
theorem bs1_lt (x : Nat) : bs1 x < 4294967296 := xor_lt _ _ (xor_lt _ _ (rotR_lt _ _) (rotR_lt _ _)) (rotR_lt _ _)
theorem bs0_lt (x : Nat) : bs0 x < 4294967296 := xor_lt _ _ (xor_lt _ _ (rotR_lt _ _) (rotR_lt _ _)) (rotR_lt _ _)
theorem sg0_lt (x : Nat) (h : x < 4294967296) : sg0 x < 4294967296 := xor_lt _ _ (xor_lt _ _ (rotR_lt _ _) (rotR_lt _ _)) (by omega)
theorem sg1_lt (x : Nat) (h : x < 4294967296) : sg1 x < 4294967296 := xor_lt _ _ (xor_lt _ _ (rotR_lt _ _) (rotR_lt _ _)) (by omega)
theorem chs_lt (e f g : Nat) (hf : f < 4294967296) (hg : g < 4294967296) : chs e f g < 4294967296 := or_lt _ _ (and_lt _ _ hf) (and_lt _ _ hg)
theorem mjr_lt (a b c : Nat) (hb : b < 4294967296) (hc : c < 4294967296) : mjr a b c < 4294967296 := or_lt _ _ (or_lt _ _ (and_lt _ _ hb) (and_lt _ _ hc)) (and_lt _ _ hc)

theorem testBit_not32 (e i : Nat) (he : e < 4294967296) : (4294967295 - e).testBit i = (decide (i < 32) && !e.testBit i) := by
  have h := Nat.testBit_two_pow_sub_succ (n := 32) (x := e) he i
  have e1 : 2 ^ 32 - (e + 1) = 4294967295 - e := by omega
  rw [e1] at h
  exact h
/-- The document's choice, by xor. -/
theorem chs_xor (e f g : Nat) (he : e < 4294967296) : (e &&& f) ^^^ ((4294967295 - e) &&& g) = chs e f g := by
  unfold chs
  apply Nat.eq_of_testBit_eq
  intro i
  simp only [Nat.testBit_xor, Nat.testBit_or, Nat.testBit_and, testBit_not32 e i he]
  cases e.testBit i <;> simp
/-- The same, with the mask taken off behind: g and not e. -/
theorem chs_andNot (e f g : Nat) (he : e < 4294967296) : (e &&& f) ^^^ (g &&& (4294967295 - e)) = chs e f g := by
  rw [Nat.and_comm g]; exact chs_xor e f g he
/-- The choice as it is often written: g xor (e and (f xor g)). -/
theorem chs_short (e f g : Nat) (he : e < 4294967296) (hg : g < 4294967296) : g ^^^ (e &&& (f ^^^ g)) = chs e f g := by
  unfold chs
  apply Nat.eq_of_testBit_eq
  intro i
  simp only [Nat.testBit_xor, Nat.testBit_or, Nat.testBit_and, testBit_not32 e i he]
  by_cases hi : i < 32
  · cases e.testBit i <;> cases f.testBit i <;> cases g.testBit i <;> simp [hi]
  · have hgi : g.testBit i = false := Nat.testBit_lt_two_pow (Nat.lt_of_lt_of_le hg (Nat.pow_le_pow_right (n := 2) (i := 32) (j := i) (by decide) (by omega)))
    have hei : e.testBit i = false := Nat.testBit_lt_two_pow (Nat.lt_of_lt_of_le he (Nat.pow_le_pow_right (n := 2) (i := 32) (j := i) (by decide) (by omega)))
    simp [hgi, hei]
/-- The document's majority, by xor. -/
theorem mjr_xor (a b c : Nat) : (a &&& b) ^^^ (a &&& c) ^^^ (b &&& c) = mjr a b c := by
  unfold mjr
  apply Nat.eq_of_testBit_eq
  intro i
  simp only [Nat.testBit_xor, Nat.testBit_or, Nat.testBit_and]
  cases a.testBit i <;> cases b.testBit i <;> cases c.testBit i <;> rfl

theorem i64_and (a b : Nat) (ha : a < 9223372036854775808) (hb : b < 9223372036854775808) : bits .and .i64 (a : Int) (b : Int) = ((a &&& b : Nat) : Int) :=
  (bits_nat .i64 63 (by decide) (fun n h0 h1 => by rw [IntKind.wrap_i64]; omega) a b ha hb).1
theorem i64_or (a b : Nat) (ha : a < 9223372036854775808) (hb : b < 9223372036854775808) : bits .or .i64 (a : Int) (b : Int) = ((a ||| b : Nat) : Int) :=
  (bits_nat .i64 63 (by decide) (fun n h0 h1 => by rw [IntKind.wrap_i64]; omega) a b ha hb).2
theorem i64_xor (a b : Nat) (ha : a < 9223372036854775808) (hb : b < 9223372036854775808) : bits .xor .i64 (a : Int) (b : Int) = ((a ^^^ b : Nat) : Int) := by
  have hx : a ^^^ b < 2 ^ 63 := Nat.xor_lt_two_pow ha hb
  show IntKind.i64.wrap ((BitVec.ofInt 64 (a : Int) ^^^ BitVec.ofInt 64 (b : Int)).toNat : Int) = _
  have ea : (BitVec.ofInt 64 (a : Int)).toNat = a := by rw [BitVec.ofInt_natCast, BitVec.toNat_ofNat]; exact Nat.mod_eq_of_lt (by omega)
  have eb : (BitVec.ofInt 64 (b : Int)).toNat = b := by rw [BitVec.ofInt_natCast, BitVec.toNat_ofNat]; exact Nat.mod_eq_of_lt (by omega)
  rw [BitVec.toNat_xor, ea, eb, IntKind.wrap_i64]
  omega
theorem i64_word (n : Nat) (hn : n < 9223372036854775808) : bits .and .i64 (n : Int) 4294967295 = ((n % 4294967296 : Nat) : Int) := by
  have h := i64_and n 4294967295 hn (by decide)
  have e : n &&& 4294967295 = n % 4294967296 := Nat.and_two_pow_sub_one_eq_mod n 32
  rw [e] at h
  exact h
theorem wraps_i64' (n : Nat) (h : n < 4611686018427387904) : IntKind.i64.wrap (n : Int) = n := by rw [IntKind.wrap_i64]; omega
theorem or_mod32 (a b : Nat) : (a ||| b) % 4294967296 = a % 4294967296 ||| b % 4294967296 := Nat.or_mod_two_pow (n := 32)

/-- The reference's turn of a word, held in 64 bits. -/
theorem rot_i64 (x n : Nat) (hx : x < 4294967296) (h1 : 2 ≤ n) (h2 : n ≤ 32) :
    bits .and .i64 (bits .or .i64 ((x : Int) / 2 ^ n) (IntKind.i64.wrap ((x : Int) * 2 ^ (32 - n)))) 4294967295 = (rotR x n : Int) := by
  have hp : (2 : Nat) ^ (32 - n) ≤ 2 ^ 30 := Nat.pow_le_pow_right (by decide) (by omega)
  have hm : x * 2 ^ (32 - n) < 4611686018427387904 := by
    have : x * 2 ^ (32 - n) ≤ 4294967295 * 2 ^ 30 := Nat.mul_le_mul (by omega) hp
    omega
  have hd : x / 2 ^ n < 4294967296 := Nat.lt_of_le_of_lt (Nat.div_le_self _ _) hx
  have e1 : ((x : Int) / 2 ^ n) = ((x / 2 ^ n : Nat) : Int) := by simp
  have e2 : ((x : Int) * 2 ^ (32 - n)) = ((x * 2 ^ (32 - n) : Nat) : Int) := by simp
  rw [e1, e2, wraps_i64' _ hm, i64_or _ _ (by omega) (by omega), i64_word _ (Nat.or_lt_two_pow (n := 63) (by omega) (by omega))]
  rfl
/-- A word turned, held in 32 bits. -/
theorem rot_u32 (x n : Nat) (hx : x < 4294967296) (h2 : n ≤ 32) :
    bits .or .u32 ((x : Int) / 2 ^ n) (IntKind.u32.wrap ((x : Int) * 2 ^ (32 - n))) = (rotR x n : Int) := by
  have hd : x / 2 ^ n < 4294967296 := Nat.lt_of_le_of_lt (Nat.div_le_self _ _) hx
  have e1 : ((x : Int) / 2 ^ n) = ((x / 2 ^ n : Nat) : Int) := by simp
  have e2 : ((x : Int) * 2 ^ (32 - n)) = ((x * 2 ^ (32 - n) : Nat) : Int) := by simp
  have e3 : IntKind.u32.wrap ((x * 2 ^ (32 - n) : Nat) : Int) = ((x * 2 ^ (32 - n) % 4294967296 : Nat) : Int) := by rw [IntKind.wrap_u32']; omega
  rw [e1, e2, e3, u32_or_nat _ _ hd (Nat.mod_lt _ (by decide))]
  unfold rotR
  rw [or_mod32, Nat.mod_eq_of_lt hd]

/-- The eight words of a round. -/
structure St where
  a : Nat
  b : Nat
  c : Nat
  d : Nat
  e : Nat
  f : Nat
  g : Nat
  z : Nat
def St.fits (s : St) : Prop := s.a < 4294967296 ∧ s.b < 4294967296 ∧ s.c < 4294967296 ∧ s.d < 4294967296 ∧ s.e < 4294967296 ∧ s.f < 4294967296 ∧ s.g < 4294967296 ∧ s.z < 4294967296

/-- The word i of a block's 64, by those ahead of it. -/
def nextW (b : Nat → Nat) (l : List Nat) (i : Nat) : Nat :=
  if i < 16 then b i else (l.getD (i - 16) 0 + sg0 (l.getD (i - 15) 0) + l.getD (i - 7) 0 + sg1 (l.getD (i - 2) 0)) % 4294967296
def sched (b : Nat → Nat) : Nat → List Nat
  | 0 => []
  | i + 1 => sched b i ++ [nextW b (sched b i) i]
theorem sched_length (b : Nat → Nat) : ∀ n, (sched b n).length = n
  | 0 => rfl
  | n + 1 => by simp [sched, sched_length b n]
theorem sched_lt (b : Nat → Nat) (hb : ∀ i, b i < 4294967296) : ∀ n, ∀ x ∈ sched b n, x < 4294967296
  | 0, x, h => by simp [sched] at h
  | n + 1, x, h => by
    simp only [sched, List.mem_append, List.mem_singleton] at h
    rcases h with h | rfl
    · exact sched_lt b hb n x h
    · unfold nextW
      split
      · exact hb n
      · exact Nat.mod_lt _ (by decide)
theorem sched_take (b : Nat → Nat) (n : Nat) : ∀ m, n ≤ m → ∀ i, i < n → (sched b m).getD i 0 = (sched b n).getD i 0 := by
  intro m hm
  induction m with
  | zero => intro i hi; omega
  | succ m ih =>
    intro i hi
    rcases Nat.lt_or_ge m n with h | h
    · have : n = m + 1 := by omega
      rw [this]
    · rw [← ih h i hi]
      have hl : i < (sched b m).length := by rw [sched_length]; omega
      simp only [sched, List.getD_eq_getElem?_getD]
      rw [List.getElem?_append_left hl]

def rndT (k w : Nat) (s : St) : Nat := s.z + bs1 s.e + chs s.e s.f s.g + k + w
def rnd (k w : Nat) (s : St) : St :=
  ⟨(rndT k w s + (bs0 s.a + mjr s.a s.b s.c)) % 4294967296, s.a, s.b, s.c, (s.d + rndT k w s) % 4294967296, s.e, s.f, s.g⟩
theorem rnd_fits (k w : Nat) (s : St) (h : s.fits) : (rnd k w s).fits := by
  obtain ⟨h1, h2, h3, h4, h5, h6, h7, h8⟩ := h
  exact ⟨Nat.mod_lt _ (by decide), h1, h2, h3, Nat.mod_lt _ (by decide), h5, h6, h7⟩
def rnds (k w : Nat → Nat) : Nat → St → St
  | 0, s => s
  | i + 1, s => rnd (k i) (w i) (rnds k w i s)
theorem rnds_fits (k w : Nat → Nat) (s : St) (h : s.fits) : ∀ n, (rnds k w n s).fits
  | 0 => h
  | n + 1 => rnd_fits _ _ _ (rnds_fits k w s h n)
theorem rnds_alike (k k' w w' : Nat → Nat) (s : St) : ∀ n, (∀ i, i < n → k i = k' i) → (∀ i, i < n → w i = w' i) → rnds k w n s = rnds k' w' n s
  | 0, _, _ => rfl
  | n + 1, hk, hw => by
    simp only [rnds]
    rw [rnds_alike k k' w w' s n (fun i hi => hk i (by omega)) (fun i hi => hw i (by omega)), hk n (by omega), hw n (by omega)]

def kTab : List Nat := [1116352408, 1899447441, 3049323471, 3921009573, 961987163, 1508970993, 2453635748, 2870763221,
  3624381080, 310598401, 607225278, 1426881987, 1925078388, 2162078206, 2614888103, 3248222580,
  3835390401, 4022224774, 264347078, 604807628, 770255983, 1249150122, 1555081692, 1996064986,
  2554220882, 2821834349, 2952996808, 3210313671, 3336571891, 3584528711, 113926993, 338241895,
  666307205, 773529912, 1294757372, 1396182291, 1695183700, 1986661051, 2177026350, 2456956037,
  2730485921, 2820302411, 3259730800, 3345764771, 3516065817, 3600352804, 4094571909, 275423344,
  430227734, 506948616, 659060556, 883997877, 958139571, 1322822218, 1537002063, 1747873779,
  1955562222, 2024104815, 2227730452, 2361852424, 2428436474, 2756734187, 3204031479, 3329325298]
theorem kTab_length : kTab.length = 64 := rfl
theorem kTab_lt : ∀ x ∈ kTab, x < 4294967296 := by decide
def h0s : St := ⟨1779033703, 3144134277, 1013904242, 2773480762, 1359893119, 2600822924, 528734635, 1541459225⟩
theorem h0s_fits : h0s.fits := by unfold St.fits h0s; decide

def St.grow (s t : St) : St :=
  ⟨(s.a + t.a) % 4294967296, (s.b + t.b) % 4294967296, (s.c + t.c) % 4294967296, (s.d + t.d) % 4294967296, (s.e + t.e) % 4294967296, (s.f + t.f) % 4294967296, (s.g + t.g) % 4294967296, (s.z + t.z) % 4294967296⟩
theorem grow_fits (s t : St) : (s.grow t).fits := ⟨Nat.mod_lt _ (by decide), Nat.mod_lt _ (by decide), Nat.mod_lt _ (by decide), Nat.mod_lt _ (by decide), Nat.mod_lt _ (by decide), Nat.mod_lt _ (by decide), Nat.mod_lt _ (by decide), Nat.mod_lt _ (by decide)⟩
/-- A state behind one block. -/
def comp (s : St) (b : Nat → Nat) : St := s.grow (rnds (fun i => kTab.getD i 0) (fun i => (sched b 64).getD i 0) 64 s)
theorem comp_fits (s : St) (b : Nat → Nat) : (comp s b).fits := grow_fits _ _
/-- A state behind n blocks of a row of words. -/
def comps (s : St) (l : Nat → Nat) : Nat → St
  | 0 => s
  | n + 1 => comp (comps s l n) (fun i => l (16 * n + i))
theorem comps_fits (s : St) (h : s.fits) (l : Nat → Nat) : ∀ n, (comps s l n).fits
  | 0 => h
  | n + 1 => comp_fits _ _
theorem sched_alike (b b' : Nat → Nat) (h : ∀ i, i < 16 → b i = b' i) : ∀ n, sched b n = sched b' n
  | 0 => rfl
  | n + 1 => by
    simp only [sched, sched_alike b b' h n]
    unfold nextW
    split
    · rw [h n (by omega)]
    · rfl
theorem comp_alike (s : St) (b b' : Nat → Nat) (h : ∀ i, i < 16 → b i = b' i) : comp s b = comp s b' := by
  unfold comp; rw [sched_alike b b' h]
theorem comps_alike (s : St) (l l' : Nat → Nat) : ∀ n, (∀ i, i < 16 * n → l i = l' i) → comps s l n = comps s l' n
  | 0, _ => rfl
  | n + 1, h => by
    simp only [comps]
    rw [comps_alike s l l' n (fun i hi => h i (by omega))]
    exact comp_alike _ _ _ fun i hi => h _ (by omega)
theorem comps_add (s : St) (l : Nat → Nat) (m : Nat) : ∀ n, comps s l (m + n) = comps (comps s l m) (fun i => l (16 * m + i)) n
  | 0 => rfl
  | n + 1 => by
    show comp (comps s l (m + n)) (fun i => l (16 * (m + n) + i)) = _
    rw [comps_add s l m n]
    simp only [comps]
    refine comp_alike _ _ _ fun i _ => ?_
    congr 1; omega

/-- The word i of a row of bytes, the highest byte first. -/
def wordAt (l : List UInt8) (i : Nat) : Nat := (l.getD (4 * i) 0).toNat * 16777216 + (l.getD (4 * i + 1) 0).toNat * 65536 + (l.getD (4 * i + 2) 0).toNat * 256 + (l.getD (4 * i + 3) 0).toNat
theorem wordAt_lt (l : List UInt8) (i : Nat) : wordAt l i < 4294967296 := by
  unfold wordAt
  have h1 := (l.getD (4 * i) 0).toNat_lt
  have h2 := (l.getD (4 * i + 1) 0).toNat_lt
  have h3 := (l.getD (4 * i + 2) 0).toNat_lt
  have h4 := (l.getD (4 * i + 3) 0).toNat_lt
  omega
theorem getD_left (a b : List UInt8) (i : Nat) (h : i < a.length) : (a ++ b).getD i 0 = a.getD i 0 := by
  simp only [List.getD_eq_getElem?_getD]; rw [List.getElem?_append_left h]
theorem getD_right (a b : List UInt8) (i : Nat) : (a ++ b).getD (a.length + i) 0 = b.getD i 0 := by
  simp only [List.getD_eq_getElem?_getD]; rw [List.getElem?_append_right (by omega)]; congr 2; omega
theorem wordAt_left (a b : List UInt8) (i : Nat) (h : 4 * i + 3 < a.length) : wordAt (a ++ b) i = wordAt a i := by
  unfold wordAt
  rw [getD_left a b _ (by omega), getD_left a b _ (by omega), getD_left a b _ (by omega), getD_left a b _ (by omega)]
theorem wordAt_right (a b : List UInt8) (m i : Nat) (h : a.length = 64 * m) : wordAt (a ++ b) (16 * m + i) = wordAt b i := by
  unfold wordAt
  rw [← getD_right a b (4 * i), ← getD_right a b (4 * i + 1), ← getD_right a b (4 * i + 2), ← getD_right a b (4 * i + 3)]
  have e0 : 4 * (16 * m + i) = a.length + 4 * i := by omega
  have e1 : 4 * (16 * m + i) + 1 = a.length + (4 * i + 1) := by omega
  have e2 : 4 * (16 * m + i) + 2 = a.length + (4 * i + 2) := by omega
  have e3 : 4 * (16 * m + i) + 3 = a.length + (4 * i + 3) := by omega
  rw [e1, e2, e3, e0]
/-- Blocks of two rows of bytes, the first of whole blocks. -/
theorem comps_append (s : St) (a b : List UInt8) (m n : Nat) (h : a.length = 64 * m) : comps s (wordAt (a ++ b)) (m + n) = comps (comps s (wordAt a) m) (wordAt b) n := by
  rw [comps_add, comps_alike s (wordAt (a ++ b)) (wordAt a) m (fun i hi => wordAt_left a b i (by omega))]
  exact comps_alike _ _ _ n fun i _ => wordAt_right a b m i h

def padZ (n : Nat) : Nat := (119 - n % 64) % 64
def len8 (n : Nat) : List UInt8 := [UInt8.ofNat (n / 2 ^ 56), UInt8.ofNat (n / 2 ^ 48), UInt8.ofNat (n / 2 ^ 40), UInt8.ofNat (n / 2 ^ 32), UInt8.ofNat (n / 2 ^ 24), UInt8.ofNat (n / 2 ^ 16), UInt8.ofNat (n / 2 ^ 8), UInt8.ofNat n]
theorem len8_length (n : Nat) : (len8 n).length = 8 := rfl
/-- What stands behind a text of n bytes. -/
def padT (n : Nat) : List UInt8 := 128 :: (List.replicate (padZ n) 0 ++ len8 (8 * n))
def padL (l : List UInt8) : List UInt8 := l ++ padT l.length
theorem padT_length (n : Nat) : (padT n).length = padZ n + 9 := by simp [padT, len8]
theorem padL_length (l : List UInt8) : (padL l).length = 64 * ((l.length + 8) / 64 + 1) := by
  unfold padL
  rw [List.length_append, padT_length]
  unfold padZ
  omega
def w4 (x : Nat) : List UInt8 := [UInt8.ofNat (x / 16777216), UInt8.ofNat (x / 65536), UInt8.ofNat (x / 256), UInt8.ofNat x]
def outL (s : St) : List UInt8 := w4 s.a ++ w4 s.b ++ w4 s.c ++ w4 s.d ++ w4 s.e ++ w4 s.f ++ w4 s.g ++ w4 s.z
theorem outL_length (s : St) : (outL s).length = 32 := rfl
/-- The document's sum of a row of bytes. -/
def sumL (l : List UInt8) : List UInt8 := outL (comps h0s (wordAt (padL l)) ((l.length + 8) / 64 + 1))
theorem sumL_length (l : List UInt8) : (sumL l).length = 32 := rfl
/-- The state behind the whole blocks of what was taken so far. -/
def stOf (l : List UInt8) : St := comps h0s (wordAt l) (l.length / 64)
theorem stOf_append (a b : List UInt8) (m : Nat) (h : a.length = 64 * m) : stOf (a ++ b) = comps (comps h0s (wordAt a) m) (wordAt b) (b.length / 64) := by
  unfold stOf
  have e : (a ++ b).length / 64 = m + b.length / 64 := by rw [List.length_append]; omega
  rw [e, comps_append h0s a b m _ h]
theorem stOf_take (l : List UInt8) : stOf l = comps h0s (wordAt (l.take (64 * (l.length / 64)))) (l.length / 64) := by
  have h : (l.take (64 * (l.length / 64))).length = 64 * (l.length / 64) := by rw [List.length_take]; omega
  unfold stOf
  refine comps_alike _ _ _ _ fun i hi => ?_
  conv => lhs; rw [← List.take_append_drop (64 * (l.length / 64)) l]
  exact wordAt_left _ _ i (by omega)
/-- The sum by the state behind whole blocks and the rest of the bytes. -/
theorem sumL_rest (l : List UInt8) : sumL l = outL (comps (stOf l) (wordAt (l.drop (64 * (l.length / 64)) ++ padT l.length)) ((l.length % 64 + 8) / 64 + 1)) := by
  have h : (l.take (64 * (l.length / 64))).length = 64 * (l.length / 64) := by rw [List.length_take]; omega
  have e : (l.length + 8) / 64 + 1 = l.length / 64 + ((l.length % 64 + 8) / 64 + 1) := by omega
  unfold sumL
  have e2 : padL l = l.take (64 * (l.length / 64)) ++ (l.drop (64 * (l.length / 64)) ++ padT l.length) := by
    rw [← List.append_assoc, List.take_append_drop]; rfl
  rw [e, e2, comps_append _ _ _ _ _ h, ← stOf_take]
/-- More bytes: the state goes on by the whole blocks of the rest and of them. -/
theorem stOf_more (l b : List UInt8) : stOf (l ++ b) = comps (stOf l) (wordAt (l.drop (64 * (l.length / 64)) ++ b)) ((l.length % 64 + b.length) / 64) := by
  have h : (l.take (64 * (l.length / 64))).length = 64 * (l.length / 64) := by rw [List.length_take]; omega
  have e2 : l ++ b = l.take (64 * (l.length / 64)) ++ (l.drop (64 * (l.length / 64)) ++ b) := by
    rw [← List.append_assoc, List.take_append_drop]
  rw [e2, stOf_append _ _ _ h, ← stOf_take]
  congr 1
  rw [List.length_append, List.length_drop]; omega

/-- The key's 64 bytes, each xor x. -/
def keyX (k : List UInt8) (x : UInt8) : List UInt8 := (k ++ List.replicate (64 - k.length) 0).map (· ^^^ x)
def keyL (k : List UInt8) : List UInt8 := if 64 < k.length then sumL k else k
theorem keyL_length (k : List UInt8) : (keyL k).length ≤ 64 := by
  unfold keyL; split
  · rw [sumL_length]; decide
  · omega
/-- The document's HMAC. -/
def macL (k s : List UInt8) : List UInt8 := sumL (keyX (keyL k) 92 ++ sumL (keyX (keyL k) 54 ++ s))
theorem keyX_zeros (k : List UInt8) (n : Nat) (x : UInt8) (h : k.length + n ≤ 64) : keyX (k ++ List.replicate n 0) x = keyX k x := by
  unfold keyX
  rw [List.append_assoc, List.replicate_append_replicate, List.length_append, List.length_replicate]
  congr 3; omega
/-- Noughts behind a key of at most 64 bytes, up to 64, change nothing. -/
theorem macL_zeros (k s : List UInt8) (n : Nat) (h : k.length + n ≤ 64) : macL (k ++ List.replicate n 0) s = macL k s := by
  have e1 : keyL (k ++ List.replicate n 0) = k ++ List.replicate n 0 := by
    unfold keyL; rw [if_neg]; rw [List.length_append, List.length_replicate]; omega
  have e2 : keyL k = k := by unfold keyL; rw [if_neg]; omega
  unfold macL
  rw [e1, e2, keyX_zeros k n _ h, keyX_zeros k n _ h]
/-- A key of more than 64 bytes stands for its sum. -/
theorem macL_long (k s : List UInt8) (h : 64 < k.length) : macL (sumL k) s = macL k s := by
  have e1 : keyL (sumL k) = sumL k := by unfold keyL; rw [if_neg]; rw [sumL_length]; decide
  have e2 : keyL k = sumL k := by unfold keyL; rw [if_pos h]
  unfold macL
  rw [e1, e2]
end Go.Proofs.YtdkkleikabipgaaDoor
