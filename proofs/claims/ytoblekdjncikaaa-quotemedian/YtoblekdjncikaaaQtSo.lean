/- The program's Sorted: by the shelf's contract of slices.SortFunc. -/
import Derived.Test.YtoblekdjncikaaaQtSp
import Derived.Test.YtoblekdjncikaaaFl3
import Derived.Test.YtoblekdjncikaaaShLs
import Derived.Deep.OwnRows
namespace Go.Proofs.Ytoblekdjncikaaa
open Go.RowKit Go.Sort Go.Shelf
set_option linter.unusedSimpArgs false
set_option linter.unusedVariables false

def cmpF (x y : Nat) : Int := if x < y then -1 else if y < x then 1 else 0
theorem isNaNu_calls (x : Int) (w : World) : Calls Try.prog 42 #[.int .u64 x] w fun e w' => e = .returned (.bool false) ∧ w' = w := by
  have h : (x != x) = false := by simp
  go_enter Try.func42, Try.ntmps42
  go_wp2
  go_ret
  exact ⟨rfl, rfl⟩
theorem compare_calls (x y : Nat) (w : World) : Calls Try.prog 26 #[.int .u64 x, .int .u64 y] w fun e w' => e = .returned (.int .i64 (cmpF x y)) ∧ w' = w := by
  have hA : cmpF x y = if x < y then -1 else if y < x then 1 else 0 := rfl
  generalize cmpF x y = A at *
  have HA : Hid _ := hA
  clear hA
  rcases Nat.lt_trichotomy x y with h | h | h
  · have d1 : decide ((x : Int) < (y : Int)) = true := by simp only [decide_eq_true_eq]; omega
    rw [if_pos h] at HA
    go_enter Try.func26, Try.ntmps26
    go_wp2_with fail
    refine (isNaNu_calls x _).mono ?_
    rintro e w1 ⟨rfl, rfl⟩
    go_wp2_with fail
    refine (isNaNu_calls y _).mono ?_
    rintro e w1 ⟨rfl, rfl⟩
    go_wp2
    go_ret
    exact ⟨by rw [HA.out]; rfl, rfl⟩
  · subst h
    rw [if_neg (by omega), if_neg (by omega)] at HA
    go_enter Try.func26, Try.ntmps26
    go_wp2_with fail
    refine (isNaNu_calls x _).mono ?_
    rintro e w1 ⟨rfl, rfl⟩
    go_wp2_with fail
    refine (isNaNu_calls x _).mono ?_
    rintro e w1 ⟨rfl, rfl⟩
    go_wp2
    go_ret
    exact ⟨by rw [HA.out]; rfl, rfl⟩
  · have d1 : decide ((x : Int) < (y : Int)) = false := by simp only [decide_eq_false_iff_not]; omega
    have d2 : decide ((y : Int) < (x : Int)) = true := by simp only [decide_eq_true_eq]; omega
    have d3 : decide (x < y) = false := by simp only [decide_eq_false_iff_not]; omega
    rw [if_neg (by omega), if_pos h] at HA
    go_enter Try.func26, Try.ntmps26
    go_wp2_with fail
    refine (isNaNu_calls x _).mono ?_
    rintro e w1 ⟨rfl, rfl⟩
    go_wp2_with fail
    refine (isNaNu_calls y _).mono ?_
    rintro e w1 ⟨rfl, rfl⟩
    go_wp2
    go_ret
    exact ⟨by rw [HA.out]; rfl, rfl⟩
theorem closure_calls (a b : Nat) (w : World) (ha : a < 18446744073709551616) (hb : b < 18446744073709551616) : Calls Try.prog 25 #[.float .f64 a, .float .f64 b] w fun e w' => e = .returned (.int .i64 (cmpF (rankR a) (rankR b))) ∧ w' = w := by
  go_enter Try.func25, Try.ntmps25
  go_wp2_with fail
  refine (rank_calls a _ ha).mono ?_
  rintro e w1 ⟨rfl, rfl⟩
  go_wp2_with fail
  refine (rank_calls b _ hb).mono ?_
  rintro e w1 ⟨rfl, rfl⟩
  go_wp2_with fail
  refine (compare_calls _ _ _).mono ?_
  rintro e w1 ⟨rfl, rfl⟩
  go_wp2
  go_ret
  exact ⟨rfl, rfl⟩

/-- Floats that are told, as a type. -/
abbrev TF : Type := { x : Nat // Tld x }
def encT (x : TF) : Value := .float .f64 x.1
def cfT (x y : TF) : Int := cmpF (rankR x.1) (rankR y.1)
theorem ltT (x y : TF) : ltOf cfT x y = decide (rankR x.1 < rankR y.1) := by
  unfold ltOf cfT cmpF
  by_cases h1 : rankR x.1 < rankR y.1
  · simp [h1]
  · by_cases h2 : rankR y.1 < rankR x.1 <;> simp [h1, h2]
theorem swoT : SWO (ltOf cfT) := {
  irrefl := fun x => by rw [ltT]; simp
  trans := fun x y z h1 h2 => by rw [ltT] at *; simp at *; omega
  ntrans := fun x y z h1 h2 => by rw [ltT] at *; simp at *; omega }
theorem tld_zero : Tld 0 := ⟨by decide, fun h => by cases h⟩

/-- What a sort leaves in memory. -/
theorem sort_blk {α : Type} [Inhabited α] {enc : α → Value} {W : World} {g q : Nat} {t : TypeId} {cs : Array Value} {d : Array α} {os : Array Obj} (hB : Blk W g cs t) (hs : cs.size = d.size) :
    Blk (sortWorld enc W g 0 q d os) g (d.toList.map enc).toArray t := by
  have hgl := hB.lt
  have hB' : W.heap[g]? = some (.cells cs t (0, 0)) := hB
  show (sortWorld enc W g 0 q d os).heap[g]? = some (.cells (d.toList.map enc).toArray t (0, 0))
  unfold sortWorld grow putRow mapBlock
  show (W.heap.modify g (onCells (putCells enc 0 d)) ++ os)[g]? = _
  rw [Array.getElem?_append_left (by simpa using hgl), Array.getElem?_modify, if_pos rfl, hB']
  simp only [Option.map_some, onCells]
  congr 2
  apply Array.ext_getElem?
  intro k
  unfold putCells
  rcases Nat.lt_or_ge k d.size with hk | hk
  · simp [hs, hk]
  · simp [hs, hk]
theorem sort_below {α : Type} [Inhabited α] {enc : α → Value} {W : World} {g q base : Nat} {d : Array α} {os : Array Obj} (hb : base ≤ g) (hl : base ≤ W.heap.size) : Below base W (sortWorld enc W g 0 q d os) := by
  refine ⟨rfl, rfl, rfl, ?_, ?_⟩
  · unfold sortWorld grow putRow mapBlock
    show W.heap.size ≤ (W.heap.modify g (onCells (putCells enc 0 d)) ++ os).size
    simp
  · intro k hk
    unfold sortWorld grow putRow mapBlock
    show (W.heap.modify g (onCells (putCells enc 0 d)) ++ os)[k]? = W.heap[k]?
    rw [Array.getElem?_append_left (by simp; omega), Array.getElem?_modify, if_neg (by omega)]

/-- What is told so far. -/
def tdL (l : List Nat) (k : Nat) : List Nat := (l.take k).map toldR ++ List.replicate (l.length - k) 0
theorem tdL_length (l : List Nat) (k : Nat) (hk : k ≤ l.length) : (tdL l k).length = l.length := by simp [tdL]; omega
theorem tdL_zero (l : List Nat) : madeCells #[.float .f64 0] l.length = (flC (tdL l 0)).toArray := by
  apply Array.ext_getElem?
  intro i
  by_cases hi : i < l.length
  · have a1 : (madeCells #[.float .f64 0] l.length)[i]? = some (.float .f64 0) := by simp [madeCells, hi, Nat.mod_one]
    rw [a1]; simp [flC, tdL, hi]
  · rw [Array.getElem?_eq_none (by rw [size_madeCells]; omega), Array.getElem?_eq_none (by simp [flC, tdL]; omega)]
theorem tdL_set (l : List Nat) (k : Nat) (hk : k < l.length) : (flC (tdL l k)).toArray.setIfInBounds k (.float .f64 (toldR l[k])) = (flC (tdL l (k + 1))).toArray := by
  have ap : ∀ a b : List Nat, flC (a ++ b) = flC a ++ flC b := fun a b => by simp [flC]
  have e1 : flC (tdL l k) = flC ((l.take k).map toldR) ++ [.float .f64 0] ++ flC (List.replicate (l.length - (k + 1)) 0) := by
    unfold tdL
    rw [show l.length - k = (l.length - (k + 1)) + 1 by omega, List.replicate_succ, ap, List.append_assoc]; rfl
  have e2 : flC (tdL l (k + 1)) = flC ((l.take k).map toldR) ++ [.float .f64 (toldR l[k])] ++ flC (List.replicate (l.length - (k + 1)) 0) := by
    unfold tdL
    rw [List.take_succ_eq_append_getElem hk, List.map_append, ap, ap]; rfl
  have hlen : (flC ((l.take k).map toldR)).length = k := by simp [flC]; omega
  rw [e1, e2]
  generalize flC ((l.take k).map toldR) = xs at *
  generalize flC (List.replicate (l.length - (k + 1)) 0) = ys at *
  apply Array.ext'
  simp
  rw [List.set_append_right _ _ (by omega)]
  simp [hlen]
theorem tdL_full (l : List Nat) : tdL l l.length = l.map toldR := by simp [tdL]
theorem flC_arr (l : List Nat) (k : Nat) (hk : k < l.length) : ((flC l).toArray)[k]? = some (.float .f64 l[k]) := by simp [flC, hk]

/-- The told floats of a list, as an array of their type. -/
def tfA (l : List Nat) (h : ∀ x ∈ l, x < 18446744073709551616) : Array TF := Array.ofFn (n := l.length) fun i => ⟨toldR l[i], tld_told (h _ (List.getElem_mem i.2))⟩
theorem tfA_size (l : List Nat) (h : ∀ x ∈ l, x < 18446744073709551616) : (tfA l h).size = l.length := by simp [tfA]
theorem tfA_list (l : List Nat) (h : ∀ x ∈ l, x < 18446744073709551616) : (tfA l h).toList.map (·.1) = l.map toldR := by
  apply List.ext_getElem?
  intro k
  by_cases hk : k < l.length
  · simp [tfA, hk]
  · rw [List.getElem?_eq_none (by simp [tfA]; omega), List.getElem?_eq_none (by simp; omega)]
theorem tfA_sorted [Inhabited TF] (l : List Nat) (h : ∀ x ∈ l, x < 18446744073709551616) (d' : Array TF) (hp : PermIn 0 (tfA l h).size (tfA l h) d') (hs : SortedIn (ltOf cfT) 0 (tfA l h).size d') :
    d'.toList.map encT = flC (srtR l) ∧ d'.size = l.length := by
  obtain ⟨h1, _, h3⟩ := hp
  have hsz := tfA_size l h
  have e : d'.toList.map (·.1) = srtR l := by
    refine srt_one _ _ ?_ ?_ (srtR_srt l) ?_
    · have h4 : d'.toList.Perm (tfA l h).toList := by
        have a1 : (d'.extract 0 (tfA l h).size) = d' := by rw [← h1]; simp
        have a2 : ((tfA l h).extract 0 (tfA l h).size) = tfA l h := by simp
        rw [a1, a2] at h3; exact h3
      have := h4.map (fun x : TF => x.1)
      rw [tfA_list] at this
      exact this.trans (srtR_perm l).symm
    · unfold Srt
      rw [List.pairwise_iff_getElem]
      intro i j hi hj hij
      have hi' : i < d'.size := by simpa using hi
      have hj' : j < d'.size := by simpa using hj
      have := hs i j (Nat.zero_le _) hij (by omega)
      rw [ltT] at this
      simp only [decide_eq_false_iff_not] at this
      rw [getElem!_pos d' i hi', getElem!_pos d' j hj'] at this
      simp only [List.getElem_map, Array.getElem_toList]
      omega
    · intro x hx
      obtain ⟨y, _, rfl⟩ := List.mem_map.1 hx
      exact y.2
  refine ⟨?_, by omega⟩
  rw [← e]; unfold flC; rw [List.map_map]; rfl

set_option maxHeartbeats 1000000 in
set_option maxRecDepth 100000 in
theorem sorted_calls (lv : Value) (l : List Nat) (w : World) (hl : Fls w lv l) (hz : l.length ≤ 1000) :
    Calls Try.prog 11 #[lv] w fun e w' => ∃ g, e = .returned (.slice (some ⟨g, 0, none⟩) l.length l.length) ∧ w.heap.size ≤ g ∧ Blk w' g (flC (srtR l)).toArray 24 ∧ Below w.heap.size w w' := by
  have HB : Hid _ := fls_bound hl
  obtain ⟨a, c, rfl, hc⟩ := hl.any
  have HC : Hid _ := hc
  clear hl hc
  have hmk := fun wx => run_make_row' (P := Try.prog) 22 24 (.float .f64 0) 8 Try.underlying22 infoFl rfl .i64 .i64 l.length (by omega) (by omega) wx
  obtain ⟨W0, hW0⟩ : ∃ W0, w.alloc (.cells (madeCells #[.float .f64 0] l.length) 24) = W0 := ⟨_, rfl⟩
  have B0 : Below w.heap.size w W0 := by rw [← hW0]; exact (Below.refl _ _).alloc (Nat.le_refl _) _
  have X0 : Blk W0 w.heap.size (flC (tdL l 0)).toArray 24 := by rw [← hW0, tdL_zero]; exact blk_new _ _ _ _ rfl
  go_enter Try.func11, Try.ntmps11
  go_wp2_with fail
  go_loopw [11] (fun i wr => ∃ k : Nat, k ≤ l.length ∧ i = .int .i64 k ∧ Blk wr w.heap.size (flC (tdL l k)).toArray 24 ∧ Below w.heap.size w wr) (fun i _ => l.length - (intOf i).toNat)
  case atStart => exact ⟨0, Nat.zero_le _, rfl, X0, B0⟩
  case round =>
    obtain ⟨k, hk, rfl, hX, hb⟩ := hrel
    by_cases hlt : k < l.length
    · have hd : decide ((k : Int) < (l.length : Int)) = true := by simp only [decide_eq_true_eq]; omega
      obtain ⟨g, o, rfl, hlc, hg, hcc, hbx⟩ := HC.out k hlt
      have c1 : wr.cell? ⟨g, o + k, none⟩ = some (.float .f64 l[k]) := (hb.cell (p := ⟨g, o + k, none⟩) hg).trans (by simpa using hcc 0 _ rfl)
      have hf := hX.frozen (o := k)
      have hc0 := hX.cell (flC_arr (tdL l k) k (by rw [tdL_length l k hk]; exact hlt))
      have HS : Hid _ := tdL_set l k hlt
      have HX : Hid _ := hX
      generalize l[k] = x at *
      clear hcc hX
      go_wp2_with fail
      refine (told_calls x _).mono ?_
      rintro e w1 ⟨rfl, rfl⟩
      go_wp2_with fail
      refine ⟨⟨k + 1, by omega, by go_num, ?_, hb.setCell (Nat.le_refl _) _⟩, by simp [intOf]; omega⟩
      rw [← HS.out]; exact Blk.set HX.out _ _
    · have hd : decide ((k : Int) < (l.length : Int)) = false := by simp only [decide_eq_false_iff_not]; omega
      obtain rfl : k = l.length := by omega
      rw [tdL_full] at hX
      rcases Nat.eq_zero_or_pos l.length with h0 | h0
      · have hl0 : l = [] := List.eq_nil_of_length_eq_zero h0
        subst hl0
        have HX : Hid _ := hX
        clear hX
        have hcon := fun wx => AnyF.slices_SortFunc_none (P := Try.prog) (ρ := sortL_ren) { sortL with } (some ⟨w.heap.size, 0, none⟩) 0 (.func (.func 25) #[] #[]) wx
        change ∀ wx, Calls Try.prog 24 _ wx _ at hcon
        have HCon : Hid _ := hcon
        clear hcon
        simp only [List.length_nil] at *
        go_wp2_with fail
        refine (HCon.out _).mono ?_
        rintro e w1 ⟨rfl, rfl⟩
        go_wp2
        go_ret
        exact ⟨_, rfl, Nat.le_refl _, HX.out, hb⟩
      · letI : Inhabited TF := ⟨⟨0, tld_zero⟩⟩
        have hsz := tfA_size l HB.out
        have hH : Holds encT wr w.heap.size 0 (tfA l HB.out) := by
          intro j hj
          rw [hsz] at hj
          rw [Nat.zero_add]
          refine ⟨?_, hX.frozen⟩
          rw [hX.cell (flC_arr (l.map toldR) j (by simpa using hj)), getElem!_pos _ j (by rw [hsz]; exact hj)]
          simp [tfA, encT]
        have eg : ∀ args w, (callFunc 25 args).run Try.prog w = .ok (.enter 25 args) w := enters_of Try.func25 (by kernel_rfl) rfl
        have hcmp : CmpReads Try.prog 25 #[] encT cfT w.heap.size 0 (tfA l HB.out).size wr := by
          intro m os dk _ x y
          refine (closure_calls x.1 y.1 _ x.2.1 y.2.1).mono ?_
          rintro e w' ⟨rfl, rfl⟩
          exact ⟨rfl, 0, rfl⟩
        have hcon := Any.slices_SortFunc sortL encT (fun _ => rfl) cfT swoT 25 #[] w.heap.size 0 l.length (tfA l HB.out) wr eg hcmp.lays hH hX.lt (by omega)
        have HS : Hid _ := fun d' => tfA_sorted l HB.out d'
        generalize tfA l HB.out = d at *
        have HX : Hid _ := hX
        rw [hsz] at hcon HS
        change Calls Try.prog 24 _ wr _ at hcon
        have HCon : Hid _ := hcon
        clear hcon hX hH hcmp eg
        go_wp2_with fail
        refine (Calls.mono HCon.out) ?_
        rintro e w1 ⟨rfl, d', q, os, hp, hs, rfl⟩
        obtain ⟨e1, e2⟩ := HS.out d' hp hs
        go_wp2
        go_ret
        refine ⟨_, rfl, Nat.le_refl _, ?_, hb.trans ((sort_below (Nat.le_refl _) hb.size).mono (Nat.le_refl _))⟩
        rw [← e1]
        exact sort_blk HX.out (by simp [flC, e2])
end Go.Proofs.Ytoblekdjncikaaa
