/- The library's stable sort at orders: the whole. -/
import Derived.Test.YtpekfpfhonechaaGreatWa17
namespace Go.Proofs.YtpekfpfhonechaaGreat.Cal
open Go.Shelf Go.RowKit Go.Lib Go.Sort
set_option linter.unusedSimpArgs false
set_option linter.unusedVariables false

theorem insS_len {α : Type} {lt : α → α → Bool} (x : α) : ∀ s : List α, (insS lt x s).length = s.length + 1
  | [] => rfl
  | y :: t => by rw [insS]; split <;> simp [insS_len x t]
theorem stab_len {α : Type} {lt : α → α → Bool} (l : List α) : (stab lt l).length = l.length := by
  have : ∀ (l s : List α), (l.foldl (fun acc x => insS lt x acc) s).length = s.length + l.length := by
    intro l
    induction l with
    | nil => intro s; simp
    | cons x l ih => intro s; rw [List.foldl_cons, ih, insS_len]; simp; omega
  simpa [stab] using this l []

theorem sym_all (k : Nat) (aE : ∀ w, (isAgg 51).run Tryz.prog w = .ok true w) (zE : ∀ w, (Go.sizeOf 51).run Tryz.prog w = .ok k w) (cf : Od → Od → Int) (hO : SWO (ltOf cf)) (g : Nat) (cb : Array Value) (blk off cap : Nat) (d0 : Array Od) (w0 : World) (eg : ∀ args w, (callFunc g args).run Tryz.prog w = .ok (.enter g args) w) (hcmp : CmpLays Tryz.prog g cb oC k cf blk off d0.size w0) (R : RowK oC k w0 blk off d0) :
    ∀ (N a m b : Nat) (d : Array Od) (w : World) (A U V C : List Od), U.length + V.length ≤ N → d0.size = d.size → SWK oC k w0 blk off d w → d.toList = A ++ U ++ V ++ C → a = A.length → m = A.length + U.length → b = A.length + U.length + V.length → 0 < U.length → 0 < V.length → Srt (ltOf cf) U → Srt (ltOf cf) V → d.size < 1000000 →
    Calls Tryz.prog 157 #[.slice (some ⟨blk, off, none⟩) d.size cap, .int .i64 a, .int .i64 m, .int .i64 b, .func (.func g) #[] cb] w fun e w' => e = .returned (.tuple #[]) ∧ ∃ (d' : Array Od) (r : List Od), d'.toList = A ++ r ++ C ∧ Srt (ltOf cf) r ∧ Stb (ltOf cf) (U ++ V) r ∧ r.length = U.length + V.length ∧ SWK oC k w0 blk off d' w' := by
  intro N
  induction N with
  | zero => intro a m b d w A U V C h1 h2 h3 h4 h5 h6 h7 h8; omega
  | succ N ih =>
    intro a m b d w A U V C h1 hs S hd ha hm hb hu hv sU sV hsz
    by_cases c1 : U.length = 1
    · obtain ⟨x, hx⟩ := List.length_eq_one_iff.1 c1
      exact sym_one k aE zE cf hO g cb blk off cap a m b d0 d w0 w eg hcmp R hs S A U V C hd ha hm hb sU sV hsz x hx
    · by_cases c2 : V.length = 1
      · obtain ⟨x, hx⟩ := List.length_eq_one_iff.1 c2
        exact sym_last k aE zE cf hO g cb blk off cap a m b d0 d w0 w eg hcmp R hs S A U V C hd ha hm hb sU sV hsz x hx (by omega)
      · have IH : ∀ (a m b z : Int) (d : Array Od) (w : World) (A U' V' C : List Od), U'.length + V'.length < U.length + V.length → z = d.size → d0.size = d.size → SWK oC k w0 blk off d w → d.toList = A ++ U' ++ V' ++ C → a = A.length → m = A.length + U'.length → b = A.length + U'.length + V'.length → 0 < U'.length → 0 < V'.length → Srt (ltOf cf) U' → Srt (ltOf cf) V' → d.size < 1000000 → Calls Tryz.prog 157 #[.slice (some ⟨blk, off, none⟩) z.toNat cap, .int .i64 a, .int .i64 m, .int .i64 b, .func (.func g) #[] cb] w fun e w' => e = .returned (.tuple #[]) ∧ ∃ (d' : Array Od) (r : List Od), d'.toList = A ++ r ++ C ∧ Srt (ltOf cf) r ∧ Stb (ltOf cf) (U' ++ V') r ∧ r.length = U'.length + V'.length ∧ SWK oC k w0 blk off d' w' := by
          intro a m b z d w A U' V' C g1 g2 g3 g4 g5 g6 g7 g8 g9 g10 g11 g12 g13
          have := ih A.length (A.length + U'.length) (A.length + U'.length + V'.length) d w A U' V' C (by omega) g3 g4 g5 rfl rfl rfl g9 g10 g11 g12 g13
          rw [g2, g6, g7, g8, Int.toNat_natCast]
          simpa using this
        by_cases c3 : (a + b) / 2 < m
        · exact sym_hi k aE zE cf hO g cb blk off cap a m b d0 d w0 w eg hcmp R hs S A U V C hd ha hm hb sU sV hsz (by omega) (by omega) (U.length + V.length) ((a + b) / 2) rfl (by omega) (by omega) c3 IH
        · exact sym_lo k aE zE cf hO g cb blk off cap a m b d0 d w0 w eg hcmp R hs S A U V C hd ha hm hb sU sV hsz (by omega) (by omega) (U.length + V.length) ((a + b) / 2) rfl (by omega) (by omega) (by omega) IH
theorem sym_int (k : Nat) (aE : ∀ w, (isAgg 51).run Tryz.prog w = .ok true w) (zE : ∀ w, (Go.sizeOf 51).run Tryz.prog w = .ok k w) (cf : Od → Od → Int) (hO : SWO (ltOf cf)) (g : Nat) (cb : Array Value) (blk off cap : Nat) (d0 : Array Od) (w0 : World) (eg : ∀ args w, (callFunc g args).run Tryz.prog w = .ok (.enter g args) w) (hcmp : CmpLays Tryz.prog g cb oC k cf blk off d0.size w0) (R : RowK oC k w0 blk off d0) (a m b z : Int) (d : Array Od) (w : World) (A U V C : List Od) (hz : z = d.size) (hs : d0.size = d.size) (S : SWK oC k w0 blk off d w) (hd : d.toList = A ++ U ++ V ++ C)
    (ha : a = A.length) (hm : m = A.length + U.length) (hb : b = A.length + U.length + V.length) (hu : 0 < U.length) (hv : 0 < V.length) (sU : Srt (ltOf cf) U) (sV : Srt (ltOf cf) V) (hsz : d.size < 1000000) :
    Calls Tryz.prog 157 #[.slice (some ⟨blk, off, none⟩) z.toNat cap, .int .i64 a, .int .i64 m, .int .i64 b, .func (.func g) #[] cb] w fun e w' => e = .returned (.tuple #[]) ∧ ∃ (d' : Array Od) (r : List Od), d'.toList = A ++ r ++ C ∧ Srt (ltOf cf) r ∧ Stb (ltOf cf) (U ++ V) r ∧ r.length = U.length + V.length ∧ SWK oC k w0 blk off d' w' := by
  have := sym_all k aE zE cf hO g cb blk off cap d0 w0 eg hcmp R _ A.length (A.length + U.length) (A.length + U.length + V.length) d w A U V C (Nat.le_refl _) hs S hd rfl rfl rfl hu hv sU sV hsz
  rw [hz, ha, hm, hb, Int.toNat_natCast]
  simpa using this
theorem ins_int (k : Nat) (aE : ∀ w, (isAgg 51).run Tryz.prog w = .ok true w) (zE : ∀ w, (Go.sizeOf 51).run Tryz.prog w = .ok k w) (cf : Od → Od → Int) (hO : SWO (ltOf cf)) (g : Nat) (cb : Array Value) (blk off cap : Nat) (a b z : Int) (d0 d : Array Od) (w0 w : World) (eg : ∀ args w, (callFunc g args).run Tryz.prog w = .ok (.enter g args) w) (hcmp : CmpLays Tryz.prog g cb oC k cf blk off d0.size w0) (R : RowK oC k w0 blk off d0) (hs : d0.size = d.size) (S : SWK oC k w0 blk off d w) (A X C : List Od)
    (hz : z = d.size) (hd : d.toList = A ++ X ++ C) (ha : a = A.length) (hb : b = A.length + X.length) (hsz : d.size < 1000000) :
    Calls Tryz.prog 156 #[.slice (some ⟨blk, off, none⟩) z.toNat cap, .int .i64 a, .int .i64 b, .func (.func g) #[] cb] w fun e w' => e = .returned (.tuple #[]) ∧ ∃ d' : Array Od, d'.toList = A ++ stab (ltOf cf) X ++ C ∧ SWK oC k w0 blk off d' w' := by
  have := ins_calls k aE zE cf hO g cb blk off cap A.length (A.length + X.length) d0 d w0 w eg hcmp R hs S A X C hd rfl rfl hsz
  rw [hz, ha, hb, Int.toNat_natCast]
  simpa using this

/-- Lists cut into sorted runs of so many. -/
def Runs (lt : Od → Od → Bool) (n : Nat) (L : List (List Od)) : Prop := ∀ c ∈ L, c.length = n ∧ Srt lt c
theorem Runs.len {lt : Od → Od → Bool} {n : Nat} : ∀ {L : List (List Od)}, Runs lt n L → L.flatten.length = L.length * n
  | [], _ => by simp
  | c :: L, h => by
    have h1 := (h c (List.mem_cons_self ..)).1
    have h2 := Runs.len (L := L) (fun d hd => h d (List.mem_cons_of_mem _ hd))
    rw [List.flatten_cons, List.length_append, h1, h2, List.length_cons, Nat.add_mul]; omega
theorem Runs.nil {lt : Od → Od → Bool} {n : Nat} : Runs lt n [] := fun c hc => by cases hc
theorem Runs.snoc {lt : Od → Od → Bool} {n : Nat} {L : List (List Od)} {c : List Od} (h : Runs lt n L) (h1 : c.length = n) (h2 : Srt lt c) : Runs lt n (L ++ [c]) := by
  intro d hd
  rcases List.mem_append.1 hd with e | e
  · exact h d e
  · rw [List.mem_singleton.1 e]; exact ⟨h1, h2⟩

set_option maxHeartbeats 8000000 in
set_option maxRecDepth 1000000 in
theorem stable_calls (k : Nat) (aE : ∀ w, (isAgg 51).run Tryz.prog w = .ok true w) (zE : ∀ w, (Go.sizeOf 51).run Tryz.prog w = .ok k w) (cf : Od → Od → Int) (hO : SWO (ltOf cf)) (g : Nat) (cb : Array Value) (blk off cap : Nat) (d : Array Od) (w : World) (eg : ∀ args w, (callFunc g args).run Tryz.prog w = .ok (.enter g args) w) (hcmp : CmpLays Tryz.prog g cb oC k cf blk off d.size w) (R : RowK oC k w blk off d) (hsz : d.size < 1000000) :
    Calls Tryz.prog 155 #[.slice (some ⟨blk, off, none⟩) d.size cap, .int .i64 d.size, .func (.func g) #[] cb] w fun e w' => e = .returned (.tuple #[]) ∧ ∃ d' : Array Od, d'.toList = stab (ltOf cf) d.toList ∧ SWK oC k w blk off d' w' := by
  obtain ⟨w0, hw0⟩ : ∃ w0, w0 = w := ⟨_, rfl⟩
  rw [← hw0] at hcmp R
  have S0 : Aside (SWK oC k w0 blk off d w) := by rw [← hw0]; exact SWK.start R.hH
  have HI : Hid _ := fun (a b z : Int) (d' : Array Od) (w' : World) (hs : d.size = d'.size) (S : SWK oC k w0 blk off d' w') (A X C : List Od) (hz : z = d'.size) (hd : d'.toList = A ++ X ++ C) (ha : a = A.length) (hb : b = A.length + X.length) (hsz : d'.size < 1000000) => ins_int k aE zE cf hO g cb blk off cap a b z d d' w0 w' eg hcmp R hs S A X C hz hd ha hb hsz
  have HM : Hid _ := fun (a m b z : Int) (d' : Array Od) (w' : World) (A U V C : List Od) => sym_int k aE zE cf hO g cb blk off cap d w0 eg hcmp R a m b z d' w' A U V C
  have HH : Hid _ := hO
  have HW : Hid _ := hw0
  obtain ⟨n, hn⟩ : ∃ n, d.size = n := ⟨_, rfl⟩
  have HN : Hid _ := hn
  rw [hn] at hsz ⊢
  clear hn hw0 hcmp hO R eg aE zE
  go_enter Tryz.func155, Tryz.ntmps155
  go_wp2
  go_loopg [7, 8] n (fun g1 va vb wr => ∃ (a b : Nat) (dk : Array Od), va = .int .i64 a ∧ vb = .int .i64 b ∧ a + 20 ≤ b ∧ b ≤ a + 20 ∧ a ≤ n ∧ n - a ≤ g1 ∧ Hid (∃ L X, Runs (ltOf cf) 20 L ∧ L.flatten.length = a ∧ dk.toList = L.flatten ++ X ∧ Stb (ltOf cf) d.toList dk.toList ∧ dk.size = n) ∧ Aside (SWK oC k w0 blk off dk wr))
  case atStart => exact ⟨0, 20, d, rfl, rfl, by omega, by omega, by omega, by omega, ⟨[], d.toList, Runs.nil, rfl, by simp, Stb.refl _, HN.out⟩, S0⟩
  case round =>
    clear S0
    obtain ⟨a, b, dk, rfl, rfl, hb1, hb2, han, hg1, HL, S1⟩ := hrel
    by_cases hbn : b ≤ n
    · have hbz : (b : Int) ≤ (n : Int) := by omega
      obtain ⟨L, X, e1, e2, e3, e4, e5⟩ := HL.out
      obtain ⟨c, X3, f1, f2⟩ : ∃ c X3, X = c ++ X3 ∧ c.length = 20 := cut2 (by have := size_of e3; simp [e2] at this; omega)
      have HC : Hid _ := HI.out (a : Int) (b : Int) (n : Int) dk wr (by have := HN.out; omega) S1.out L.flatten c X3 (by omega) (by rw [e3, f1]; simp) (by omega) (by omega) (by omega)
      rw [Int.toNat_natCast] at HC
      have HE : Hid (Runs (ltOf cf) 20 L ∧ L.flatten.length = a ∧ dk.toList = L.flatten ++ c ++ X3 ∧ Stb (ltOf cf) d.toList dk.toList ∧ dk.size = n ∧ c.length = 20) := ⟨e1, e2, by rw [e3, f1]; simp, e4, e5, f2⟩
      clear e1 e2 e3 e4 e5 f1 f2 HL S1
      go_wp2_with fail
      refine Calls.mono HC.out ?_
      rintro e w2 ⟨rfl, d2, hd2, S2⟩
      have HD2 : Hid _ := hd2
      have S2' : Aside _ := S2
      clear hd2 S2
      go_wp2
      go_roundg (n - b)
      case measure => omega
      case rel =>
        obtain ⟨e1, e2, e3, e4, e5, e6⟩ := HE.out
        refine ⟨b, b + 20, d2, rfl, by go_num, by omega, by omega, hbn, Nat.le_refl _, ⟨L ++ [stab (ltOf cf) c], X3, e1.snoc (by rw [stab_len]; exact e6) (stab_srt HH.out c), by simp only [List.flatten_append, List.length_append, e2, List.flatten_cons, List.flatten_nil, List.append_nil, stab_len, e6]; omega, by rw [HD2.out]; simp, ?_, ?_⟩, S2'⟩
        · rw [HD2.out]
          exact e4.trans (by rw [e3]; exact Stb.mid (stab_stb HH.out c))
        · have h1 := size_of HD2.out; have h2 := size_of e3; simp only [List.length_append, stab_len] at h1 h2; omega
    · have hbz : ¬ (b : Int) ≤ (n : Int) := by omega
      have hbz2 : (n : Int) < (b : Int) := by omega
      obtain ⟨L, X, e1, e2, e3, e4, e5⟩ := HL.out
      have HC : Hid _ := HI.out (a : Int) (n : Int) (n : Int) dk wr (by have := HN.out; omega) S1.out L.flatten X [] (by omega) (by rw [e3]; simp) (by omega) (by have := size_of e3; simp [e2] at this; omega) (by omega)
      rw [Int.toNat_natCast] at HC
      have HE : Hid (Runs (ltOf cf) 20 L ∧ L.flatten.length = a ∧ dk.toList = L.flatten ++ X ++ [] ∧ Stb (ltOf cf) d.toList dk.toList ∧ dk.size = n ∧ X.length + a = n) := ⟨e1, e2, by rw [e3]; simp, e4, e5, by have := size_of e3; simp [e2] at this; omega⟩
      clear e1 e2 e3 e4 e5 HL S1
      go_wp2_with fail
      refine Calls.mono HC.out ?_
      rintro e w2 ⟨rfl, d2, hd2, S2⟩
      have HK : Hid (∃ L last, Runs (ltOf cf) 20 L ∧ Srt (ltOf cf) last ∧ last.length < 20 ∧ d2.toList = L.flatten ++ last ∧ Stb (ltOf cf) d.toList d2.toList ∧ d2.size = n) := by
        obtain ⟨e1, e2, e3, e4, e5, e6⟩ := HE.out
        refine ⟨L, stab (ltOf cf) X, e1, stab_srt HH.out X, by rw [stab_len]; omega, by rw [hd2]; simp, ?_, ?_⟩
        · rw [hd2]
          exact e4.trans (by rw [e3]; exact Stb.mid (stab_stb HH.out X))
        · have h1 := size_of hd2; have h2 := size_of e3; simp only [List.length_append, stab_len] at h1 h2; omega
      have S2' : Aside _ := S2
      clear hd2 S2 HE HC
      go_wp2
      go_loopg [6] n (fun g2 vs wr2 => ∃ (bs : Nat) (dk : Array Od), vs = .int .i64 bs ∧ 20 ≤ bs ∧ bs ≤ 2000000 ∧ n - bs ≤ g2 ∧ Hid (∃ L last, Runs (ltOf cf) bs L ∧ Srt (ltOf cf) last ∧ last.length < bs ∧ dk.toList = L.flatten ++ last ∧ Stb (ltOf cf) d.toList dk.toList ∧ dk.size = n) ∧ Aside (SWK oC k w0 blk off dk wr2))
      case atStart => exact ⟨20, d2, rfl, by omega, by omega, by omega, HK.out, S2'⟩
      case round =>
        clear S2' HK
        obtain ⟨bs, dk2, rfl, hbs, hbs2, hg2, HK, S3⟩ := hrel
        obtain ⟨w3, hw3⟩ : ∃ w3, w3 = wr := ⟨_, rfl⟩
        rw [← hw3] at S3
        rw [← hw3]
        clear hw3
        by_cases hlt : bs < n
        · have hltz : (bs : Int) < (n : Int) := by omega
          obtain ⟨L0, last, k1, k2, k3, k4, k5, k6⟩ := HK.out
          have HT : Hid (Srt (ltOf cf) last ∧ last.length < bs) := ⟨k2, k3⟩
          have HF : Hid (Runs (ltOf cf) bs L0 ∧ dk2.toList = L0.flatten ++ last ∧ Stb (ltOf cf) d.toList dk2.toList ∧ dk2.size = n) := ⟨k1, k4, k5, k6⟩
          clear k1 k2 k3 k4 k5 k6 HK
          go_wp2
          go_loopg [7, 8] n (fun g3 va vb wr3 => ∃ (a b : Nat) (dk : Array Od), va = .int .i64 a ∧ vb = .int .i64 b ∧ a + 2 * bs ≤ b ∧ b ≤ a + 2 * bs ∧ a ≤ n ∧ n - a ≤ g3 ∧ Hid (∃ D L, Runs (ltOf cf) (2 * bs) D ∧ Runs (ltOf cf) bs L ∧ D.flatten.length = a ∧ dk.toList = D.flatten ++ L.flatten ++ last ∧ Stb (ltOf cf) d.toList dk.toList ∧ dk.size = n) ∧ Aside (SWK oC k w0 blk off dk wr3))
          case atStart => exact ⟨0, 2 * bs, dk2, rfl, by go_num, by omega, by omega, by omega, by omega, ⟨[], L0, Runs.nil, HF.out.1, rfl, by simpa using HF.out.2.1, HF.out.2.2.1, HF.out.2.2.2⟩, S3⟩
          case round =>
            clear S3 HF
            obtain ⟨a2, b2, dk3, rfl, rfl, hc1, hc2, han2, hg3, HG, S3⟩ := hrel
            by_cases hbn2 : b2 ≤ n
            · have hbz3 : (b2 : Int) ≤ (n : Int) := by omega
              obtain ⟨D, L, e1, e2, e3, e4, e5, e6⟩ := HG.out
              have hlen := size_of e4
              simp only [List.length_append, e2.len, e3] at hlen
              obtain ⟨u, v, L', rfl⟩ : ∃ u v L', L = u :: v :: L' := by
                cases L with
                | nil => exfalso; have := HT.out.2; simp at hlen; omega
                | cons u t =>
                  cases t with
                  | nil => exfalso; have := HT.out.2; simp at hlen; omega
                  | cons v t => exact ⟨u, v, t, rfl⟩
              have hu := e2 u (List.mem_cons_self ..)
              have hv := e2 v (List.mem_cons_of_mem _ (List.mem_cons_self ..))
              have HC : Hid _ := HM.out (a2 : Int) ((a2 : Int) + (bs : Int)) (b2 : Int) (n : Int) dk3 wr D.flatten u v (L'.flatten ++ last) (by omega) (by have := HN.out; omega) S3.out (by rw [e4]; simp) (by omega) (by omega) (by omega) (by omega) (by omega) hu.2 hv.2 (by omega)
              rw [Int.toNat_natCast] at HC
              have HE : Hid (Runs (ltOf cf) (2 * bs) D ∧ Runs (ltOf cf) bs L' ∧ D.flatten.length = a2 ∧ dk3.toList = D.flatten ++ (u ++ v) ++ (L'.flatten ++ last) ∧ Stb (ltOf cf) d.toList dk3.toList ∧ dk3.size = n ∧ u.length = bs ∧ v.length = bs) :=
                ⟨e1, fun c hc => e2 c (List.mem_cons_of_mem _ (List.mem_cons_of_mem _ hc)), e3, by rw [e4]; simp, e5, e6, hu.1, hv.1⟩
              clear e1 e2 e3 e4 e5 e6 hu hv hlen HG S3
              go_wp2_with fail
              refine Calls.mono HC.out ?_
              rintro e w5 ⟨rfl, d5, r, hd5, hr1, hr2, hr3, S5⟩
              have HD5 : Hid (d5.toList = D.flatten ++ r ++ (L'.flatten ++ last) ∧ Srt (ltOf cf) r ∧ Stb (ltOf cf) (u ++ v) r ∧ r.length = u.length + v.length) := ⟨hd5, hr1, hr2, hr3⟩
              have S5' : Aside _ := S5
              clear hd5 hr1 hr2 hr3 S5 HC
              go_wp2
              go_roundg (n - b2)
              case measure => omega
              case rel =>
                obtain ⟨e1, e2, e3, e4, e5, e6, e7, e8⟩ := HE.out
                obtain ⟨f1, f2, f3, f4⟩ := HD5.out
                refine ⟨b2, b2 + 2 * bs, d5, rfl, by go_num, by omega, by omega, hbn2, Nat.le_refl _, ⟨D ++ [r], L', e1.snoc (by omega) f2, e2, by simp only [List.flatten_append, List.length_append, e3, List.flatten_cons, List.flatten_nil, List.append_nil]; omega, by rw [f1]; simp, ?_, ?_⟩, S5'⟩
                · rw [f1]
                  exact e5.trans (by rw [e4]; exact Stb.mid f3)
                · have h1 := size_of f1; have h2 := size_of e4; simp only [List.length_append] at h1 h2; omega
            · have hbz3 : ¬ (b2 : Int) ≤ (n : Int) := by omega
              have hbz4 : (n : Int) < (b2 : Int) := by omega
              by_cases hm : a2 + bs < n
              · have hmz : (a2 : Int) + (bs : Int) < (n : Int) := by omega
                obtain ⟨D, L, e1, e2, e3, e4, e5, e6⟩ := HG.out
                have hlen := size_of e4
                simp only [List.length_append, e2.len, e3] at hlen
                obtain ⟨u, rfl⟩ : ∃ u, L = [u] := by
                  cases L with
                  | nil => exfalso; have := HT.out.2; simp at hlen; omega
                  | cons u t =>
                    cases t with
                    | nil => exact ⟨u, rfl⟩
                    | cons v t => exfalso; simp [Nat.add_mul] at hlen; omega
                have hu := e2 u (List.mem_cons_self ..)
                simp at hlen
                have HC : Hid _ := HM.out (a2 : Int) ((a2 : Int) + (bs : Int)) (n : Int) (n : Int) dk3 wr D.flatten u last [] (by omega) (by have := HN.out; omega) S3.out (by rw [e4]; simp) (by omega) (by omega) (by omega) (by omega) (by omega) hu.2 HT.out.1 (by omega)
                rw [Int.toNat_natCast] at HC
                have HE : Hid (Runs (ltOf cf) (2 * bs) D ∧ D.flatten.length = a2 ∧ dk3.toList = D.flatten ++ (u ++ last) ++ [] ∧ Stb (ltOf cf) d.toList dk3.toList ∧ dk3.size = n ∧ u.length = bs) := ⟨e1, e3, by rw [e4]; simp, e5, e6, hu.1⟩
                clear e1 e2 e3 e4 e5 e6 hu hlen HG S3
                go_wp2_with fail
                refine Calls.mono HC.out ?_
                rintro e w5 ⟨rfl, d5, r, hd5, hr1, hr2, hr3, S5⟩
                have HD5 : Hid (d5.toList = D.flatten ++ r ++ [] ∧ Srt (ltOf cf) r ∧ Stb (ltOf cf) (u ++ last) r ∧ r.length = u.length + last.length) := ⟨hd5, hr1, hr2, hr3⟩
                have S5' : Aside _ := S5
                clear hd5 hr1 hr2 hr3 S5 HC
                go_wp2
                go_roundg (n - 2 * bs)
                case measure => omega
                case rel =>
                  obtain ⟨e1, e3, e4, e5, e6, e7⟩ := HE.out
                  obtain ⟨f1, f2, f3, f4⟩ := HD5.out
                  refine ⟨2 * bs, d5, by first | go_num | (congr 1; omega), by omega, by omega, Nat.le_refl _, ⟨D, r, e1, f2, by have := HT.out.2; omega, by rw [f1]; simp, ?_, ?_⟩, S5'⟩
                  · rw [f1]
                    exact e5.trans (by rw [e4]; exact Stb.mid f3)
                  · have h1 := size_of f1; have h2 := size_of e4; simp only [List.length_append] at h1 h2; omega
              · have hmz : ¬ (a2 : Int) + (bs : Int) < (n : Int) := by omega
                have hmz2 : (n : Int) ≤ (a2 : Int) + (bs : Int) := by omega
                go_wp2
                go_roundg (n - 2 * bs)
                case measure => omega
                case rel =>
                  refine ⟨2 * bs, dk3, by first | go_num | (congr 1; omega), by omega, by omega, Nat.le_refl _, ?_, S3⟩
                  obtain ⟨D, L, e1, e2, e3, e4, e5, e6⟩ := HG.out
                  have hlen := size_of e4
                  simp only [List.length_append, e2.len, e3] at hlen
                  cases L with
                  | nil => exact ⟨D, last, e1, HT.out.1, by have := HT.out.2; omega, by rw [e4]; simp, e5, e6⟩
                  | cons u t =>
                    cases t with
                    | nil =>
                      have hu := e2 u (List.mem_cons_self ..)
                      simp at hlen
                      have hz : last = [] := List.eq_nil_of_length_eq_zero (by omega)
                      subst hz
                      exact ⟨D, u, e1, hu.2, by omega, by rw [e4]; simp, e5, e6⟩
                    | cons v t => exfalso; simp [Nat.add_mul] at hlen; omega
        · have hltz : ¬ (bs : Int) < (n : Int) := by omega
          have hltz2 : (n : Int) ≤ (bs : Int) := by omega
          go_wp2
          go_end0
          obtain ⟨L, last, k1, k2, k3, k4, k5, k6⟩ := HK.out
          have hlen := size_of k4
          simp only [List.length_append, k1.len] at hlen
          rw [HW.out] at S3
          refine ⟨rfl, dk2, stab_of HH.out ?_ k5, S3.out⟩
          rw [k4]
          cases L with
          | nil => simpa using k2
          | cons u t =>
            cases t with
            | nil =>
              have hu := k1 u (List.mem_cons_self ..)
              simp at hlen
              have hz : last = [] := List.eq_nil_of_length_eq_zero (by omega)
              subst hz
              simpa using hu.2
            | cons v t => exfalso; simp [Nat.add_mul] at hlen; omega
end Go.Proofs.YtpekfpfhonechaaGreat.Cal
