/- What a client's value tells: number by number; pure. -/
import Derived.Test.YtmcafgmjfgfaeaaDoorLr05
import Derived.Test.YtmcafgmjfgfaeaaDoorLr07
import Derived.Test.YtmcafgmjfgfaeaaDoorLr21
namespace Go.Proofs.YtmcafgmjfgfaeaaDoor
open Go.RowKit
set_option linter.unusedSimpArgs false
set_option linter.unusedVariables false

/-- One number more: it, where the next begins, whether all was right so far. -/
def nxt (s : ByteArray) (st : Nat × Bool) : Int × Nat × Bool :=
  match rdInt s st.1 with
  | .ok (m, nx) => ((m : Int), nx, st.2 && decide ((m : Int) ≤ 1099511627776))
  | .error _ => (0, 0, false)
def nxs (s : ByteArray) : Nat → (Nat × Bool) × List Int
  | 0 => ((0, true), [])
  | j + 1 => (((nxt s (nxs s j).1).2.1, (nxt s (nxs s j).1).2.2), (nxs s j).2 ++ [(nxt s (nxs s j).1).1])
theorem nxt_le (s : ByteArray) (st : Nat × Bool) : (nxt s st).2.1 ≤ s.size ∧ 0 ≤ (nxt s st).1 ∧ (nxt s st).1 ≤ 9007199254740992 := by
  unfold nxt
  cases h : rdInt s st.1 with
  | error e => exact ⟨Nat.zero_le _, by show (0 : Int) ≤ 0; decide, by show (0 : Int) ≤ 9007199254740992; decide⟩
  | ok q =>
    obtain ⟨m, nx⟩ := q
    obtain ⟨h1, h2, h3⟩ := rdInt_le h
    exact ⟨h2, by show (0 : Int) ≤ (m : Int); omega, by show (m : Int) ≤ _; omega⟩
theorem nxs_at (s : ByteArray) : ∀ j, (nxs s j).1.1 ≤ s.size
  | 0 => Nat.zero_le _
  | j + 1 => (nxt_le s _).1
theorem nxs_len (s : ByteArray) : ∀ j, (nxs s j).2.length = j
  | 0 => rfl
  | j + 1 => by show ((nxs s j).2 ++ _).length = _; rw [List.length_append, nxs_len s j]; rfl
end Go.Proofs.YtmcafgmjfgfaeaaDoor

namespace Go.Proofs.YtmcafgmjfgfaeaaDoor
open Go.RowKit
set_option linter.unusedSimpArgs false
set_option linter.unusedVariables false

theorem rdF_err0 (s : ByteArray) (a : Nat) : ∀ (k i n : Nat) (er : Int), rdF s a k i n = .error er → er ≠ 0 := by
  intro k
  induction k with
  | zero => intro i n er h; simp [rdF] at h; omega
  | succ k ih =>
    intro i n er h
    simp only [rdF] at h
    split at h
    · split at h
      · exact ih _ _ _ h
      · split at h
        · simp at h; omega
        · cases h
    · simp at h; omega
theorem rdInt_err0 {s : ByteArray} {a : Nat} {er : Int} (h : rdInt s a = .error er) : er ≠ 0 := rdF_err0 s a 8 0 0 er h
theorem rdText_err0 {s : ByteArray} {a : Nat} {er : Int} (h : rdText s a = .error er) : er ≠ 0 := by
  unfold rdText at h
  cases hr : rdInt s a with
  | error e => rw [hr] at h; injection h with h; rw [← h]; exact rdInt_err0 hr
  | ok q =>
    obtain ⟨m, nx⟩ := q
    rw [hr] at h
    simp only at h
    split at h
    · injection h with h; omega
    · split at h
      · injection h with h; omega
      · cases h
/-- All but two blocks are as they were. -/
structure Ofn (a b : Nat) (w w' : World) : Prop where
  os : w'.os = w.os
  tape : w'.tape = w.tape
  output : w'.output = w.output
  size : w.heap.size ≤ w'.heap.size
  block : ∀ k, k < w.heap.size → k ≠ a → k ≠ b → w'.heap[k]? = w.heap[k]?
theorem Ofn.refl (a b : Nat) (w : World) : Ofn a b w w := ⟨rfl, rfl, rfl, Nat.le_refl _, fun _ _ _ _ => rfl⟩
theorem Ofn.trans {a b : Nat} {x y z : World} (h : Ofn a b x y) (k : Ofn a b y z) : Ofn a b x z :=
  ⟨k.os.trans h.os, k.tape.trans h.tape, k.output.trans h.output, Nat.le_trans h.size k.size, fun i hi h1 h2 => (k.block i (Nat.lt_of_lt_of_le hi h.size) h1 h2).trans (h.block i hi h1 h2)⟩
theorem Ofn.of_below {a b : Nat} {w w' : World} (h : Below w.heap.size w w') : Ofn a b w w' := ⟨h.os, h.tape, h.output, h.size, fun k hk _ _ => h.block k hk⟩
theorem Ofn.setA {a b : Nat} {x w : World} (h : Ofn a b x w) {p : Addr} (hp : p.block = a ∨ p.block = b) (u : Value) : Ofn a b x (w.setCell p u) :=
  h.trans ⟨rfl, rfl, rfl, by simp [World.setCell], fun k _ h1 h2 => Below.heap_setCell _ _ _ _ (by rcases hp with e | e <;> omega)⟩
theorem Blk.ofn {w w' : World} {k a b : Nat} {cs : Array Value} {t : TypeId} (h : Blk w k cs t) (o : Ofn a b w w') (h1 : k ≠ a) (h2 : k ≠ b) : Blk w' k cs t := (o.block k h.lt h1 h2).trans h
/-- Where the reading stands: the text, the place, whether all was right. -/
structure Knx (w : World) (s : ByteArray) (a : Nat) (k : Bool) (sb ab ob : Nat) : Prop where
  xs : Blk w sb #[.string s] 9
  xa : Blk w ab #[.int .i64 a] 3
  xo : Blk w ob #[.bool k] 4
  le : a ≤ s.size
theorem Knx.ne1 {w : World} {s : ByteArray} {a : Nat} {k : Bool} {sb ab ob : Nat} (h : Knx w s a k sb ab ob) : sb ≠ ab ∧ sb ≠ ob ∧ ab ≠ ob := by
  have h1 := h.xs
  have h2 := h.xa
  have h3 := h.xo
  unfold Blk at h1 h2 h3
  refine ⟨fun e => ?_, fun e => ?_, fun e => ?_⟩
  · rw [e, h2] at h1; injection h1 with h1; injection h1 with _ h1; exact absurd h1 (by decide)
  · rw [e, h3] at h1; injection h1 with h1; injection h1 with _ h1; exact absurd h1 (by decide)
  · rw [e, h3] at h2; injection h2 with h2; injection h2 with _ h2; exact absurd h2 (by decide)
theorem Knx.below {w w' : World} {s : ByteArray} {a : Nat} {k : Bool} {sb ab ob : Nat} (h : Knx w s a k sb ab ob) (hb : Below w.heap.size w w') : Knx w' s a k sb ab ob := ⟨h.xs.below hb, h.xa.below hb, h.xo.below hb, h.le⟩
set_option maxHeartbeats 4000000 in
set_option maxRecDepth 100000 in
theorem next_calls (s : ByteArray) (a : Nat) (k : Bool) (sb ab ob : Nat) (w : World) (hs : s.size ≤ maxLen) (h : Knx w s a k sb ab ob) :
    Calls Tryd.prog 63 #[.pointer (some ⟨sb, 0, none⟩), .pointer (some ⟨ab, 0, none⟩), .pointer (some ⟨ob, 0, none⟩)] w fun e w' => e = .returned (.int .i64 (nxt s (a, k)).1) ∧ Knx w' s (nxt s (a, k)).2.1 (nxt s (a, k)).2.2 sb ab ob ∧ Ofn ab ob w w' := by
  have hg := getInt_calls s a w hs h.le
  obtain ⟨n1, n2, n3⟩ := h.ne1
  have x0 : w.cell? ⟨sb, 0, none⟩ = some (.string s) := h.xs.cell rfl
  have x1 : w.cell? ⟨ab, 0, none⟩ = some (.int .i64 a) := h.xa.cell rfl
  have HH : Hid _ := h
  have HLE : Hid (∀ r, nxt s (a, k) = r → r.2.1 ≤ s.size) := fun r hr => by rw [← hr]; exact (nxt_le s _).1
  obtain ⟨r, HR⟩ : ∃ r, Hid (nxt s (a, k) = r) := ⟨_, rfl⟩
  rw [HR.out]
  have hr := HR.out
  unfold nxt at hr
  have fin : ∀ (w2 : World) (nx : Nat) (kk : Bool), Below w.heap.size w w2 → nx ≤ s.size → Knx ((w2.setCell ⟨ob, 0, none⟩ (.bool kk)).setCell ⟨ab, 0, none⟩ (.int .i64 nx)) s nx kk sb ab ob ∧ Ofn ab ob w ((w2.setCell ⟨ob, 0, none⟩ (.bool kk)).setCell ⟨ab, 0, none⟩ (.int .i64 nx)) := fun w2 nx kk hb hn => by
    have K2 := HH.out.below hb
    refine ⟨⟨(K2.xs.setOther (p := ⟨ob, 0, none⟩) n2 _).setOther (p := ⟨ab, 0, none⟩) n1 _, (K2.xa.setOther (p := ⟨ob, 0, none⟩) n3 _).set 0 _, (K2.xo.set 0 _).setOther (p := ⟨ab, 0, none⟩) (Ne.symm n3) _, hn⟩, ?_⟩
    exact ((Ofn.of_below hb).setA (p := ⟨ob, 0, none⟩) (Or.inr rfl) _).setA (p := ⟨ab, 0, none⟩) (Or.inl rfl) _
  have FIN : Hid _ := fin
  clear fin
  cases hrd : rdInt s a with
  | error er =>
    rw [hrd] at hg
    simp only [hrd] at hr
    subst hr
    have her := rdInt_err0 hrd
    have de : (er == 0) = false := by simpa using her
    unfold gotG at hg
    simp only at hg
    clear hrd h HR
    go_enter Tryd.func63, Tryd.ntmps63
    go_wp2_with fail
    refine hg.mono ?_
    rintro e w2 ⟨rfl, b2⟩
    have K2 := Knx.below HH.out b2
    have y2 : w2.cell? ⟨ob, 0, none⟩ = some (.bool k) := K2.xo.cell rfl
    have f2 : w2.frozen? ⟨ob, 0, none⟩ = false := K2.xo.frozen
    have XA3 : Blk (w2.setCell ⟨ob, 0, none⟩ (.bool false)) ab #[.int .i64 a] 3 := K2.xa.setOther (p := ⟨ob, 0, none⟩) n3 _
    have y1 : (w2.setCell ⟨ob, 0, none⟩ (.bool false)).cell? ⟨ab, 0, none⟩ = some (.int .i64 a) := XA3.cell rfl
    have f1 : (w2.setCell ⟨ob, 0, none⟩ (.bool false)).frozen? ⟨ab, 0, none⟩ = false := XA3.frozen
    have HF : Hid _ := FIN.out w2 0 false b2 (Nat.zero_le _)
    clear b2 K2 XA3 hg
    cases k
    · go_wp2
      go_ret
      exact ⟨rfl, HF.out⟩
    · go_wp2
      go_ret
      exact ⟨rfl, HF.out⟩
  | ok q =>
    obtain ⟨m, nx⟩ := q
    rw [hrd] at hg
    simp only [hrd] at hr
    subst hr
    have hle := rdInt_le hrd
    unfold gotG at hg
    simp only at hg
    clear hrd h HR
    obtain ⟨dm, hdm⟩ : ∃ dm, decide ((m : Int) ≤ 1099511627776) = dm := ⟨_, rfl⟩
    simp only [hdm]
    go_enter Tryd.func63, Tryd.ntmps63
    go_wp2_with fail
    refine hg.mono ?_
    rintro e w2 ⟨rfl, b2⟩
    have K2 := Knx.below HH.out b2
    have y2 : w2.cell? ⟨ob, 0, none⟩ = some (.bool k) := K2.xo.cell rfl
    have f2 : w2.frozen? ⟨ob, 0, none⟩ = false := K2.xo.frozen
    have XA3 : ∀ kk, Blk (w2.setCell ⟨ob, 0, none⟩ (.bool kk)) ab #[.int .i64 a] 3 := fun kk => K2.xa.setOther (p := ⟨ob, 0, none⟩) n3 _
    have y1 : ∀ kk, (w2.setCell ⟨ob, 0, none⟩ (.bool kk)).cell? ⟨ab, 0, none⟩ = some (.int .i64 a) := fun kk => (XA3 kk).cell rfl
    have f1 : ∀ kk, (w2.setCell ⟨ob, 0, none⟩ (.bool kk)).frozen? ⟨ab, 0, none⟩ = false := fun kk => (XA3 kk).frozen
    have HF : Hid _ := fun kk => FIN.out w2 nx kk b2 hle.2.1
    clear b2 K2 XA3 hg hle
    cases k
    · go_wp2
      go_ret
      exact ⟨rfl, HF.out _⟩
    · cases dm
      · go_wp2
        go_ret
        exact ⟨rfl, HF.out _⟩
      · go_wp2
        go_ret
        exact ⟨rfl, HF.out _⟩
end Go.Proofs.YtmcafgmjfgfaeaaDoor
