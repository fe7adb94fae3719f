/- The document's root: half, over, root. -/
import Derived.Test.YtpcafjbebhcilaaGreatTmR
namespace Go.Proofs.YtpcafjbebhcilaaGreat
open Go.RowKit
set_option linter.unusedSimpArgs false
set_option linter.unusedVariables false
variable {p b x y : Nat} {T : List ByteArray} {S : List (Int × ByteArray)}

theorem hf_is {n j : Nat} (h : 2 ≤ n) (h1 : 2 ^ j < n) (h2 : n ≤ 2 ^ (j + 1)) : hf n = 2 ^ j := by
  have : Nat.log2 (n - 1) = j := (Nat.log2_eq_iff (by omega)).2 ⟨by omega, by omega⟩
  unfold hf
  rw [this]
set_option maxHeartbeats 1000000 in
set_option maxRecDepth 100000 in
theorem half_calls (n : Nat) (w : World) (h2 : 2 ≤ n) (hn : n ≤ 4096) : Calls Tryz.prog 56 #[.int .i64 n] w fun e w' => e = .returned (.int .i64 (hf n)) ∧ w' = w := by
  go_enter Tryz.func56, Tryz.ntmps56
  go_wp2_with fail
  go_loopw [3, 4] (fun bv kv wr => ∃ j kn bn : Nat, kv = .int .i64 kn ∧ bv = .int .i64 bn ∧ Hid (kn = 2 ^ j ∧ bn = 2 ^ (j - 1)) ∧ Hid (1 ≤ j → bn < n) ∧ 1 ≤ kn ∧ kn ≤ 8192 ∧ wr = w) (fun _ kv _ => n - (intOf kv).toNat)
  case atStart => exact ⟨0, 1, 1, rfl, rfl, ⟨rfl, rfl⟩, fun h => by omega, by omega, by omega, rfl⟩
  case round =>
    obtain ⟨j, kn, bn, rfl, rfl, hk, hb, hk1, hk2, rfl⟩ := hrel
    by_cases hlt : kn < n
    · have hd : decide ((kn : Int) < (n : Int)) = true := by simp only [decide_eq_true_eq]; omega
      go_wp2
      refine ⟨⟨j + 1, 2 * kn, kn, by norm_cast, rfl, ⟨by rw [hk.out.1, Nat.pow_succ]; omega, by rw [hk.out.1]; rfl⟩, fun _ => hlt, by omega, by omega, by trivial⟩, ?_⟩
      simp [intOf]; omega
    · have hd : decide ((kn : Int) < (n : Int)) = false := by simp only [decide_eq_false_iff_not]; omega
      go_wp2
      go_ret
      have hj : 1 ≤ j := by
        rcases Nat.eq_zero_or_pos j with h0 | h0
        · have := hk.out.1; rw [h0] at this; simp at this; omega
        · exact h0
      have h3 := hb.out hj
      rw [hk.out.2] at h3
      have h4 := hk.out.1
      have e : hf n = bn := by
        rw [hk.out.2]
        exact hf_is h2 h3 (by rw [Nat.sub_add_cancel hj, ← h4]; omega)
      exact ⟨by rw [e]; rfl, rfl⟩

/-- What over answers. -/
def OverP (x y p b : Nat) (T : List ByteArray) (S : List (Int × ByteArray)) (w : World) (m : List Rc) (e : Ending) (w' : World) : Prop :=
  ∃ a T' ls, e = .returned (.string a) ∧ Lvs T' m ls ∧ Top T' ls a ∧ Grew x y p b T S w (2 * m.length - 1) T' w'
theorem Lvs.append {T : List ByteArray} {l m : List Rc} {ls ms : List ByteArray} (h : Lvs T l ls) (k : Lvs T m ms) : Lvs T (l ++ m) (ls ++ ms) :=
  ⟨by rw [h.1, k.1, List.map_append], fun n hn => (List.mem_append.1 hn).elim (h.2 n) (k.2 n)⟩

set_option maxHeartbeats 4000000 in
set_option maxRecDepth 100000 in
theorem over_law : ∀ (n f : Nat) (v : Value) (l : List Rc) (T : List ByteArray) (w : World), f + n ≤ l.length → l.length ≤ 4096 → Rcs w v l → (∀ m ∈ l, m.key.size ≤ 64 ∧ m.dat.size ≤ 4096) → Book w p b x y T S → T.length + 2 * n < 1000000 →
    Calls Tryz.prog 33 #[.pointer (some ⟨p, 0, none⟩), v, .int .i64 f, .int .i64 (f + n : Nat)] w (OverP x y p b T S w ((l.drop f).take n)) := by
  intro n
  induction n using Nat.strongRecOn with
  | _ n ih =>
  intro f v l T w hfn hl hr hz hB hT
  have hlen : ((l.drop f).take n).length = n := by rw [List.length_take, List.length_drop]; omega
  obtain ⟨tn, htn⟩ : ∃ tn : Nat, f + n = tn := ⟨_, rfl⟩
  rw [htn]
  obtain ⟨a, cap, rfl⟩ := hr.len
  by_cases h0 : n = 0
  · subst h0
    have d0 : decide ((tn : Int) ≤ (f : Int)) = true := decide_eq_true (by omega)
    have HB : Hid _ := hB
    clear hr hB ih hz
    go_enter Tryz.func33, Tryz.ntmps33
    go_wp2
    go_ret
    exact ⟨_, T, [], rfl, by simpa using Lvs.nil T, .none, (Grew.refl HB.out).le (Nat.zero_le _)⟩
  have d0 : decide ((tn : Int) ≤ (f : Int)) = false := decide_eq_false (by omega)
  by_cases h1 : n = 1
  · subst h1
    have d1 : decide ((tn : Int) - (f : Int) = 1) = true := decide_eq_true (by omega)
    have d1' : ((tn : Int) - (f : Int) == 1) = true := d1
    have hfl : f < l.length := by omega
    have hM : (l.drop f).take 1 = [l[f]] := by
      rw [List.drop_eq_getElem_cons hfl]; rfl
    rw [hM]
    obtain ⟨g, off, rfl, m0, m1⟩ : ∃ g off, a = some ⟨g, off, none⟩ ∧ w.cell? ⟨g, off + f * 2, none⟩ = some (.string l[f].key) ∧ w.cell? ⟨g, off + f * 2 + 1, none⟩ = some (.string l[f].dat) := by
      rcases hr with ⟨_, h0⟩ | ⟨g, off, c, e, hx⟩
      · rw [h0] at hfl; simp at hfl
      · simp only [Value.slice.injEq] at e
        exact ⟨g, off, e.1, (hx f hfl).1, (hx f hfl).2.1⟩
    have hzz := hz l[f] (List.getElem_mem hfl)
    have hfl' : (f : Int) < (l.length : Int) := by omega
    generalize l[f] = m at *
    have HL : Hid _ := lawLeaf_calls m w hB (by omega) (by omega) (by omega)
    have HB : Hid _ := hB
    clear hr hB ih hz hM hlen
    go_enter Tryz.func33, Tryz.ntmps33
    go_wp2_with fail
    refine Calls.mono HL.out ?_
    rintro e w1 A
    obtain rfl := A.ret
    go_wp2
    go_ret
    refine ⟨_, note T (leafT m), [dig (note T (leafT m)) (leafT m)], rfl, ⟨rfl, fun k hk => ?_⟩, .one _, A.grew.le (by simp)⟩
    rw [List.mem_singleton] at hk
    subst hk
    exact mem_noted _ _
  have h2 : 2 ≤ n := by omega
  have d1 : decide ((tn : Int) - (f : Int) = 1) = false := decide_eq_false (by omega)
  have d1' : ((tn : Int) - (f : Int) == 1) = false := d1
  obtain ⟨k1, k2⟩ := hf_bounds h2
  have HH : Hid _ := half_calls n w h2 (by omega)
  have e1 : (tn : Int) - (f : Int) = (n : Int) := by omega
  have H1 : Hid _ := ih (hf n) (by omega) f (.slice a l.length cap) l T w (by omega) hl hr hz hB (by omega)
  obtain ⟨kn, hkn⟩ : ∃ kn : Nat, f + hf n = kn := ⟨_, rfl⟩
  rw [hkn] at H1
  have e2 : (f : Int) + (hf n : Int) = (kn : Int) := by omega
  have l1 : ((l.drop f).take (hf n)).length = hf n := by rw [List.length_take, List.length_drop]; omega
  have l2 : ((l.drop kn).take (n - hf n)).length = n - hf n := by rw [List.length_take, List.length_drop]; omega
  have H2 : Hid _ := fun (T1 : List ByteArray) (w1 : World) (G : Grew x y p b T S w (2 * ((l.drop f).take (hf n)).length - 1) T1 w1) =>
    ih (n - hf n) (by omega) kn (.slice a l.length cap) l T1 w1 (by omega) hl (Rcs.off2 hr hB G.off) hz G.book (by have := G.len; omega)
  have e3 : kn + (n - hf n) = tn := by omega
  rw [e3] at H2
  have hMM : (l.drop f).take n = (l.drop f).take (hf n) ++ (l.drop kn).take (n - hf n) := by
    have : (l.drop f).take n = ((l.drop f).take n).take (hf n) ++ ((l.drop f).take n).drop (hf n) := (List.take_append_drop _ _).symm
    rw [this, List.take_take, Nat.min_eq_left (by omega), List.drop_take, List.drop_drop, hkn]
  have HMM : Hid _ := hMM
  have HX : Hid _ := lawLaid_calls
  have HD : Hid _ := fun (T2 : List ByteArray) (a1 a2 : ByteArray) (wx : World) (hx : Book wx p b x y T2 S) (hT : T2.length < 1000000) (h1 : a1.size ≤ 32) (h2 : a2.size ≤ 32) => bookDigest_calls (nodeT a1 a2) wx hx hT (Nat.le_trans (nodeT_size a1 a2 (by omega) (by omega)) (by decide))
  have HL1 : Hid _ := l1
  have HL2 : Hid _ := l2
  have HLN : Hid _ := hlen
  clear hr hB ih hz hMM l1 l2 hlen
  go_enter Tryz.func33, Tryz.ntmps33
  go_wp2_with fail
  refine Calls.mono HH.out ?_
  rintro e w1 ⟨rfl, rfl⟩
  go_wp2_with fail
  refine Calls.mono H1.out ?_
  rintro e w2 ⟨a1, T1, ls1, rfl, v1, t1, G1⟩
  go_wp2_with fail
  refine (H2.out T1 w2 G1).mono ?_
  rintro e w3 ⟨a2, T2, ls2, rfl, v2, t2, G2⟩
  have s1 := t1.small v1.small
  have s2 := t2.small v2.small
  have g1 := G1.len
  have g2 := G2.len
  have hcat := nodeT_cat a1 a2
  have zk := arr_sz (txtB a1)
  have zl := txtB_len a1
  have zd := arr_sz (txtB a2)
  have zm := txtB_len a2
  rw [HL1.out] at g1
  rw [HL2.out] at g2
  go_wp2_with fail
  refine (HX.out a1 _ (by omega)).mono ?_
  rintro e w4 ⟨rfl, b4⟩
  go_wp2_with fail
  refine (HX.out a2 _ (by omega)).mono ?_
  rintro e w5 ⟨rfl, b5⟩
  go_wp2_with fail
  refine (HD.out T2 a1 a2 _ ((G2.book.below b4).below b5) (by omega) s1 s2).mono ?_
  rintro e w6 ⟨rfl, K6, o6⟩
  go_wp2
  go_ret
  have e6 := Ext.note T2 (nodeT a1 a2)
  have w1' := (v1.ext G2.ext).ext e6
  have w2' := v2.ext e6
  have q1 : ls1.length = hf n := by rw [v1.len, HL1.out]
  have q2 : ls2.length = n - hf n := by rw [v2.len, HL2.out]
  have q3 : (ls1 ++ ls2).length = n := by rw [List.length_append]; omega
  refine ⟨_, note T2 (nodeT a1 a2), ls1 ++ ls2, rfl, by rw [HMM.out]; exact w1'.append w2', ?_, ?_⟩
  · refine Top.node (ls1 ++ ls2) a1 a2 (by omega) ?_ ?_ (mem_noted _ _)
    · rw [q3, ← q1, List.take_left]; exact (t1.ext G2.ext).ext e6
    · rw [q3, ← q1, List.drop_left]; exact t2.ext e6
  · have GA : Grew x y p b T2 S w5 1 (note T2 (nodeT a1 a2)) w6 := ⟨e6, note_len _ _, K6, o6⟩
    exact ((((G1.trans G2).below b4).below b5).trans GA).le (by rw [HL1.out, HL2.out, HLN.out]; omega)

set_option maxHeartbeats 4000000 in
set_option maxRecDepth 100000 in
theorem root_law (v : Value) (l : List Rc) (w : World) (hl : l.length ≤ 4096) (hr : Rcs w v l) (hz : ∀ m ∈ l, m.key.size ≤ 64 ∧ m.dat.size ≤ 4096) (hB : Book w p b x y T S) (hT : T.length < 900000) :
    Calls Tryz.prog 10 #[.pointer (some ⟨p, 0, none⟩), v] w fun e w' => ∃ r T', e = .returned (.string r) ∧ RootOf T' l r ∧ Grew x y p b T S w (2 * l.length + 1) T' w' := by
  obtain ⟨a, cap, rfl⟩ := hr.len
  have HNM : Hid _ := number_ref l.length w (by omega)
  have HO : Hid _ := fun wx (hb : Below w.heap.size w wx) => over_law l.length 0 (.slice a l.length cap) l T wx (by omega) hl (hr.below hb) hz (hB.below hb) (by omega)
  have e0 : (l.drop 0).take l.length = l := by rw [List.drop_zero, List.take_length]
  rw [e0, Nat.zero_add] at HO
  have HX : Hid _ := lawLaid_calls
  have HD : Hid _ := fun (T2 : List ByteArray) (a1 : ByteArray) (wx : World) (hx : Book wx p b x y T2 S) (hT : T2.length < 1000000) (h1 : a1.size ≤ 32) => bookDigest_calls (rootT l.length a1) wx hx hT (Nat.le_trans (rootT_size l.length a1 (by omega)) (by decide))
  have HG : Hid _ := Grew.refl hB
  clear hr hB hz e0
  have zk := arr_sz (enc l.length)
  have zl := enc_le l.length
  go_enter Tryz.func10, Tryz.ntmps10
  go_wp2_with fail
  refine Calls.mono HNM.out ?_
  rintro e w1 ⟨rfl, b1⟩
  go_wp2_with fail
  refine (HO.out _ b1).mono ?_
  rintro e w2 ⟨t, T1, ls, rfl, v1, t1, G1⟩
  have s1 := t1.small v1.small
  have g1 := G1.len
  have hcat := rootT_cat l.length t
  have zd := arr_sz (txtB t)
  have zm := txtB_len t
  go_wp2_with fail
  refine (HX.out t _ (by omega)).mono ?_
  rintro e w3 ⟨rfl, b3⟩
  go_wp2_with fail
  refine (HD.out T1 t _ (G1.book.below b3) (by omega) s1).mono ?_
  rintro e w4 ⟨rfl, K4, o4⟩
  go_wp2
  go_ret
  have e6 := Ext.note T1 (rootT l.length t)
  have GA : Grew x y p b T1 S w3 1 (note T1 (rootT l.length t)) w4 := ⟨e6, note_len _ _, K4, o4⟩
  exact ⟨_, _, rfl, ⟨ls, t, v1.ext e6, t1.ext e6, mem_noted _ _, rfl⟩, ((((HG.out.below b1).trans G1).below b3).trans GA).le (by omega)⟩
end Go.Proofs.YtpcafjbebhcilaaGreat
