/- TypeOfWalk of the model. -/
import Derived.Test.YtkipfjdlmomkfaaImplTy
import Derived.Test.YtkipfjdlmomkfaaSpecPerm
import Derived.Test.YtkipfjdlmomkfaaOwn
set_option linter.unusedSimpArgs false
set_option linter.unusedVariables false
set_option maxRecDepth 100000
namespace Go.Proofs.Ytkipfjdlmomkfaa
open Go.RowKit

/-- the model's inner loop: the numbers met, and how many are new -/
def sCyc (T M : List Int) (k : Int) (len : Nat) : Nat → List Int × Nat
  | 0 => ([], 99)
  | f + 1 => if M.contains k then (M, len) else sCyc T (M ++ [k]) (T.getD k.toNat 0) (len + 1) f
/-- the place of a length -/
def atOf (out : List Int) (len : Int) : Nat → Nat
  | 0 => 0
  | a + 1 => if out.getD a 0 < len then atOf out len a else a + 1
def insAt (out : List Int) (len : Int) : List Int := out.take (atOf out len out.length) ++ len :: out.drop (atOf out len out.length)
def sTy (T : List Int) : Nat → List Int × List Int
  | 0 => ([], [])
  | k + 1 => if 0 < (sCyc T (sTy T k).1 k 0 6).2 then ((sCyc T (sTy T k).1 k 0 6).1, insAt (sTy T k).2 (sCyc T (sTy T k).1 k 0 6).2) else ((sCyc T (sTy T k).1 k 0 6).1, (sTy T k).2)
theorem atOf_le (out : List Int) (len : Int) (k : Nat) : atOf out len k ≤ k := by
  induction k with
  | zero => exact Nat.le_refl _
  | succ k ih => unfold atOf; split <;> omega
def sOk (T : List Int) : Bool := (List.range T.length).all (fun k => decide ((sCyc T (sTy T k).1 k 0 6).2 ≤ 4)) && (decide ((sTy T T.length).2 = typL T) && ((typL T).all (fun x => decide (1 ≤ x) && decide (x ≤ 4))))
theorem sOk1 : ∀ a ∈ four, permB 1 [a] = true → sOk [a] = true := by decide +kernel
theorem sOk2 : ∀ a ∈ four, ∀ b ∈ four, permB 2 [a, b] = true → sOk [a, b] = true := by decide +kernel
theorem sOk3 : ∀ a ∈ four, ∀ b ∈ four, ∀ c ∈ four, permB 3 [a, b, c] = true → sOk [a, b, c] = true := by decide +kernel
theorem sOk4 : ∀ a ∈ four, ∀ b ∈ four, ∀ c ∈ four, ∀ d ∈ four, permB 4 [a, b, c, d] = true → sOk [a, b, c, d] = true := by decide +kernel
theorem sTy_ok {S : Nat} {t : List Int} (h1 : 1 ≤ S) (h4 : S ≤ 4) (h : permB S t = true) : (∀ k, k < S → (sCyc t (sTy t k).1 k 0 6).2 ≤ 4) ∧ (sTy t S).2 = typL t ∧ ∀ x ∈ typL t, 1 ≤ x ∧ x ≤ 4 := by
  have hl := permB_len h
  have hin : ∀ x ∈ t, x ∈ four := fun x hx => by
    obtain ⟨i, hi, rfl⟩ := List.getElem_of_mem hx
    have := permB_in h i hi
    simp only [List.getD, List.getElem?_eq_getElem hi, Option.getD_some] at this
    exact inR_four this (by omega)
  have hok : sOk t = true := by
    have hs : S = 1 ∨ S = 2 ∨ S = 3 ∨ S = 4 := by omega
    rcases hs with rfl | rfl | rfl | rfl
    · obtain ⟨a, rfl⟩ := len1 (by omega : t.length = 1)
      exact sOk1 a (hin a (by simp)) h
    · obtain ⟨a, b, rfl⟩ := len2 (by omega : t.length = 2)
      exact sOk2 a (hin a (by simp)) b (hin b (by simp)) h
    · obtain ⟨a, b, c, rfl⟩ := len3 (by omega : t.length = 3)
      exact sOk3 a (hin a (by simp)) b (hin b (by simp)) c (hin c (by simp)) h
    · obtain ⟨a, b, c, d, rfl⟩ := len4 (by omega : t.length = 4)
      exact sOk4 a (hin a (by simp)) b (hin b (by simp)) c (hin c (by simp)) d (hin d (by simp)) h
  have hS : t.length = S := by omega
  unfold sOk at hok
  rw [hS] at hok
  simp only [Bool.and_eq_true, decide_eq_true_eq, List.all_eq_true, List.mem_range] at hok
  exact ⟨fun k hk => hok.1 k hk, hok.2.1, fun x hx => hok.2.2 x hx⟩
theorem insAt_len (out : List Int) (len : Int) : (insAt out len).length = out.length + 1 := by
  have := atOf_le out len out.length
  unfold insAt
  simp only [List.length_append, List.length_cons, List.length_take, List.length_drop]
  omega
theorem sTy_len (T : List Int) : ∀ k, (sTy T k).2.length ≤ k
  | 0 => Nat.le_refl _
  | k + 1 => by
    have := sTy_len T k
    rw [sTy]
    split
    · simp only [insAt_len]; omega
    · simp only; omega


theorem sTy_in {T : List Int} {S : Nat} (h : ∀ k, k < S → (sCyc T (sTy T k).1 k 0 6).2 ≤ 4) : ∀ k, k ≤ S → ∀ x ∈ (sTy T k).2, 1 ≤ x ∧ x ≤ 4
  | 0, _, x, hx => by simp [sTy] at hx
  | k + 1, hk, x, hx => by
    have ih := sTy_in h k (by omega)
    have h4 := h k (by omega)
    rw [sTy] at hx
    split at hx
    · simp only [insAt, List.mem_append, List.mem_cons] at hx
      rcases hx with hx | rfl | hx
      · exact ih x (List.mem_of_mem_take hx)
      · omega
      · exact ih x (List.mem_of_mem_drop hx)
    · exact ih x hx
theorem OwX.le {lo cap : Nat} {w : World} {b n : Nat} {xs : List Int} (h : OwX lo cap w b n xs) : n ≤ cap := by
  rcases h.2 with ⟨hv, _⟩ | ⟨g, c, cur, hv, _, _, hle, _⟩
  · simp at hv
  · simp only [Value.slice.injEq] at hv
    omega
theorem OwX.rd {lo cap : Nat} {w : World} {b n : Nat} {xs : List Int} (h : OwX lo cap w b n xs) (hn : n ≤ 1000) (hx : ∀ x ∈ xs, 1 ≤ x ∧ x ≤ 4) : RdI lo w.heap.size w (.slice (some ⟨b, 0, none⟩) n cap) xs :=
  (OwI.mk h (by omega) (fun x h' => by have := hx x h'; unfold I64; omega)).rd

theorem add_at (g A j : Nat) : (Addr.mk g A none).add j = ⟨g, A + j, none⟩ := by unfold Addr.add; split <;> simp_all
theorem OwX.news {lo cap : Nat} {w : World} {b n : Nat} {xs : List Int} (h : OwX lo cap w b n xs) : ∀ j u, (xs.map (Value.int .i64))[j]? = some u → w.cell? ((Addr.mk b 0 none).add j) = some u := by
  intro j u hj
  have hl := h.len
  have hj2 : j < n := by
    rcases Nat.lt_or_ge j n with h' | h'
    · exact h'
    · rw [List.getElem?_eq_none (by rw [List.length_map, hl]; exact h')] at hj; cases hj
  rw [add_at, Nat.zero_add, World.ownsRow.cellAt h j (by omega)]
  exact hj
theorem one_int (xs : List Int) : ∀ u ∈ xs.map (Value.int .i64), u.oneCell' = true := by intro u hu; simp only [List.mem_map] at hu; obtain ⟨x, _, rfl⟩ := hu; rfl
/-- what the outer loop keeps -/
structure TyI (S L b B0 : Nat) (lo hi : Nat) (ta : Option Addr) (tc : Nat) (T : List Int) (w : World) (M out : List Int) (g m co : Nat) (W : World) : Prop where
  box : BoxM W b M
  turn : RdI lo hi W (.slice ta S tc) T
  out : OwX L co W g m out
  cap : m ≤ co
  ne : g ≠ b
  below : Below B0 w W
  k0 : W.cell? ⟨B0, 2, none⟩ = some (.int .i64 (S : Int))
  hib : hi ≤ b
  lt : B0 < L
  lb : L < b
theorem TyI.box' {S L b B0 lo hi : Nat} {ta : Option Addr} {tc : Nat} {T : List Int} {w : World} {M out : List Int} {g m co : Nat} {W W' : World} {M' : List Int} (h : TyI S L b B0 lo hi ta tc T w M out g m co W) (hb : BoxM W' b M') (hc : Chg b (b + 1) W W') : TyI S L b B0 lo hi ta tc T w M' out g m co W' := by
  have hlt := h.lt
  have hlb := h.lb
  have hbx := h.box.1
  exact ⟨hb, h.turn.chg hc (.inl h.hib), ownsRow_chg h.out hc (fun k hk => by have e : g = k := by simpa [Value.ownBlock] using hk
                                                                              have := h.ne; omega), h.cap, h.ne, h.below.chgn hc (by omega) (by omega), hc.cell h.k0 (.inl (by show B0 < b; omega)), h.hib, h.lt, h.lb⟩
theorem BoxM.at {w : World} {b : Nat} {M : List Int} (h : BoxM w b M) {X : Nat} (hX : X < 4) : w.cell? ⟨b, X, none⟩ = some (.bool (M.contains (X : Int))) ∧ w.frozen? ⟨b, X, none⟩ = false := by
  obtain ⟨_, r0, r1, r2, r3, f0, f1, f2, f3⟩ := h
  have hj' : X = 0 ∨ X = 1 ∨ X = 2 ∨ X = 3 := by omega
  rcases hj' with rfl | rfl | rfl | rfl
  · exact ⟨r0, f0⟩
  · exact ⟨r1, f1⟩
  · exact ⟨r2, f2⟩
  · exact ⟨r3, f3⟩
theorem TyI.next {S L b B0 lo hi : Nat} {ta : Option Addr} {tc : Nat} {T : List Int} {w : World} {M out : List Int} {g m co : Nat} {W W' : World} (h : TyI S L b B0 lo hi ta tc T w M out g m co W) (hb : Below W.heap.size W W') {out' : List Int} {g' m' co' : Nat} (ho : OwX W.heap.size co' W' g' m' out') : TyI S L b B0 lo hi ta tc T w M out' g' m' co' W' := by
  have hlt := h.lt
  have hlb := h.lb
  have hbx := h.box.1
  have hg := (ho.lt g' rfl).1
  exact ⟨Box4.below h.box hb, h.turn.below hb, ownsRow_mono ho (by omega), ho.le, by omega, h.below.trans (hb.mono (by omega)), hb.keep h.k0, h.hib, h.lt, h.lb⟩
theorem TyI.low {S L b B0 lo hi : Nat} {ta : Option Addr} {tc : Nat} {T : List Int} {w : World} {M out : List Int} {g m co : Nat} {W : World} (h : TyI S L b B0 lo hi ta tc T w M out g m co W) : B0 ≤ W.heap.size := by
  have hlt := h.lt
  have hlb := h.lb
  have hbx := h.box.1
  omega

set_option maxHeartbeats 6400000 in
theorem specTy_yes {lo hi lo' hi' lo1 hi1 : Nat} (s : Int) (a : Option Addr) (n c : Nat) (xss : List (List Int)) (S : Nat) (ta : Option Addr) (tn tc : Nat) (ts : List (List Int)) (a1 : Option Addr) (n1 c1 : Nat) (ws : List Int) (w : World)
    (h : RdR lo hi w (.slice a n c) xss) (hn : xss.length = n) (h' : RdR lo' hi' w (.slice ta tn tc) ts) (hn' : ts.length = tn) (h1 : RdI lo1 hi1 w (.slice a1 n1 c1) ws) (hl : ws.length = n1) (hc : pwCode s xss S ts ws = 0) :
    Calls Try.prog 30 #[.agg #[.int .i64 s, .slice a n c, .int .i64 (S : Int), .slice ta tn tc], .slice a1 n1 c1] w fun e w' => ∃ a' c', e = .returned (.tuple #[.slice a' (tyOf s xss S ts ws).1.length c', .int .i64 (tyOf s xss S ts ws).2]) ∧ OwI w.heap.size w'.heap.size w' (.slice a' (tyOf s xss S ts ws).1.length c') (tyOf s xss S ts ws).1 ∧ Below w.heap.size w w' := by
  obtain ⟨i0, hi', z0, z1, z2⟩ := info_parts Try.info2
  have hb0 : ∀ o, Below w.heap.size w (w.alloc o) := fun o => (Below.refl _ _).alloc (Nat.le_refl _) o
  have HCK := Lib.hid (fun W (hB : Below w.heap.size w W) => l04Walk s a n c xss S ta tn tc ts a1 n1 c1 ws W (h.below hB) hn (h'.below hB) hn' (h1.below hB) hl)
  unfold LstA at HCK
  obtain ⟨g1, g2, g3, g4⟩ := path_take hc
  rw [pwOf_ok hc] at HCK
  have hty : tyOf s xss S ts ws = (typL ((pathL ts ws ws.length).take S), 0) := by unfold tyOf; rw [if_pos hc, Int.toNat_natCast]
  rw [hty]
  rw [Int.toNat_natCast] at HCK
  generalize (pathL ts ws ws.length).take S = T at *
  dsimp only at HCK ⊢
  rw [g4] at HCK
  obtain ⟨s1, s2, s3⟩ := sTy_ok g1 g2 g3
  have HS1 := Lib.hid s1
  have HIO := Lib.hid (sTy_in s1)
  have HS2 := Lib.hid s2
  have HS3 := Lib.hid s3
  have HIN : Hid (∀ j, j < S → ∃ X : Nat, T.getD j 0 = (X : Int) ∧ X < S) := Lib.hid (fun j hj => by
    have := permB_in g3 j (by omega)
    unfold inR at this
    simp only [Bool.and_eq_true, decide_eq_true_eq] at this
    exact ⟨(T.getD j 0).toNat, by omega, by omega⟩)
  have HT4 := Lib.hid g4
  clear h hn h' hn' h1 hl hc hty s1 s2 s3 g3 g4
  go_enter Try.func30, Try.ntmps30
  go_wp2_with fail
  refine calls_gen (fun W => Below w.heap.size w W ∧ w.heap.size < W.heap.size ∧ W.cell? ⟨w.heap.size, 2, none⟩ = some (.int .i64 (S : Int))) ⟨hb0 _, by simp, by go_simp⟩ ?_
  rintro W ⟨hB, hzz, k0⟩
  refine (HCK.out W hB).mono ?_
  clear HCK
  rintro e w1 ⟨a', c', rfl, o1, b1⟩
  replace hB := hB.next b1
  replace k0 := b1.keep k0
  replace hzz := Nat.lt_of_lt_of_le hzz b1.size
  have HO := Lib.hid (⟨o1.rd, hB, k0, hzz⟩ : RdI W.heap.size w1.heap.size w1 (.slice a' S c') T ∧ _ ∧ _ ∧ _)
  clear b1 o1 hB
  go_wp2_with fail
  have hT0 : TyI S w1.heap.size (w1.heap.size + 1) w.heap.size W.heap.size w1.heap.size a' c' T w [] [] w1.heap.size 0 0 ((w1.alloc (.cells #[] 2)).alloc (.cells #[.bool false, .bool false, .bool false, .bool false] 78)) := by
    obtain ⟨o1, hB, k0, hzz⟩ := HO.out
    have hA := (Below.refl w1.heap.size w1).alloc (Nat.le_refl _) (.cells #[] 2)
    have hA2 := hA.alloc (by simp) (.cells #[.bool false, .bool false, .bool false, .bool false] 78)
    have hl0 := World.ownsRow_lit (base := w1.heap.size) (e := 2) (size := 1) w1 #[] 0 (Nat.le_refl _) (by unfold maxLen; omega) rfl
    refine ⟨⟨by simp, ?_, ?_, ?_, ?_, ?_, ?_, ?_, ?_⟩, o1.below hA2, ?_, Nat.le_refl _, by omega, hB.next hA2, hA2.keep k0, by omega, hzz, by omega⟩
    iterate 8 ((try simp only [List.contains_nil]); go_simp)
    exact World.ownsRow.alloc hl0 _
  have HT0 := Lib.hid hT0
  obtain ⟨L, hL⟩ : ∃ L, L = w1.heap.size := ⟨_, rfl⟩
  rw [← hL] at HT0 ⊢
  clear hT0 HO k0 hzz hL
  generalize (w1.alloc (.cells #[] 2)).alloc (.cells #[.bool false, .bool false, .bool false, .bool false] 78) = V at HT0 ⊢
  obtain ⟨b, hbL⟩ : ∃ b, b = L + 1 := ⟨_, rfl⟩
  rw [← hbL] at HT0 ⊢
  clear hbL
  go_loopw [10, 9] (fun i v wr => ∃ (k m g co : Nat), k ≤ S ∧ i = .int .i64 k ∧ v = .slice (some ⟨g, 0, none⟩) m co ∧ m ≤ k ∧ TyI S L b w.heap.size W.heap.size L a' c' T w (sTy T k).1 (sTy T k).2 g m co wr) (fun i _ _ => S - (intOf i).toNat)
  case atStart => exact ⟨0, 0, L, 0, Nat.zero_le _, rfl, rfl, Nat.le_refl _, HT0.out⟩
  case round =>
    clear HT0
    obtain ⟨k, m, g, co, hk, rfl, rfl, hm, hT⟩ := hrel
    obtain ⟨U, rfl⟩ : ∃ U, U = wr := ⟨_, rfl⟩
    have k0 := hT.k0
    by_cases hlt : k < S
    · have HT := Lib.hid hT
      have hs4 := HS1.out k hlt
      have hstep : sTy T (k+1) = if 0 < (sCyc T (sTy T k).1 k 0 6).2 then ((sCyc T (sTy T k).1 k 0 6).1, insAt (sTy T k).2 (sCyc T (sTy T k).1 k 0 6).2) else ((sCyc T (sTy T k).1 k 0 6).1, (sTy T k).2) := rfl
      obtain ⟨R, hR⟩ : ∃ R, sCyc T (sTy T k).1 k 0 6 = R := ⟨_, rfl⟩
      rw [hR] at hs4 hstep
      have HST := Lib.hid hR
      clear hR
      have HSTEP := Lib.hid hstep
      have HS4 := Lib.hid hs4
      have hX0 : k < 4 := by omega
      clear hT hstep hs4
      have HX4 := Lib.hid (HIO.out k hk)
      generalize (sTy T k).1 = M0 at HT HST
      generalize (sTy T k).2 = out at HT HSTEP HX4
      go_wp2_with fail
      clear k0
      go_loopw [12, 11] (fun kv lv wr2 => ∃ (X Ln f : Nat) (M : List Int), kv = .int .i64 X ∧ X < S ∧ lv = .int .i64 Ln ∧ Ln + f = 6 ∧ Hid (sCyc T M X Ln f = R) ∧ TyI S L b w.heap.size W.heap.size L a' c' T w M out g m co wr2) (fun _ lv _ => 6 - (intOf lv).toNat)
      case atStart => exact ⟨k, 0, 6, M0, rfl, hlt, rfl, rfl, HST, HT.out⟩
      case round =>
        clear HT HST
        obtain ⟨X, Ln, f, M, rfl, hX, rfl, hLf, HS, hT⟩ := hrel
        have hf : f ≠ 0 := by
          rintro rfl
          have h1 := HS.out
          have h2 := HS4.out
          rw [← h1] at h2
          simp [sCyc] at h2
        obtain ⟨f', rfl⟩ : ∃ f', f = f' + 1 := ⟨f - 1, by omega⟩
        have hcy := HS.out
        rw [sCyc] at hcy
        obtain ⟨rj, fj⟩ := hT.box.at (X := X) (by omega)
        have HT := Lib.hid hT
        have hX0 : (0 : Int) ≤ (X : Int) := by omega
        have hX4 : (X : Int) < 4 := by omega
        cases hm : M.contains (X : Int) with
        | false =>
          rw [hm] at rj hcy
          rw [if_neg (by simp), Int.toNat_natCast] at hcy
          obtain ⟨Y, hY, hYn⟩ := HIN.out X hX
          rw [hY] at hcy
          have HNX := Lib.hid hcy
          obtain ⟨bb, ofb, rfl, g2⟩ := hT.turn.cellsC HT4.out X hX
          rw [hY] at g2
          have hch : Chg b (b + 1) wr (wr.setCell ⟨b, X, none⟩ (.bool true)) := (Chg.refl b (b + 1) wr).setCell (p := ⟨b, X, none⟩) ⟨Nat.le_refl _, Nat.lt_succ_self _⟩ _
          have hT2 := hT.box' (hT.box.put (x := X) (by omega)) hch
          obtain ⟨bb', ofb', hbb, g3⟩ := hT2.turn.cellsC HT4.out X hX
          simp only [Option.some.injEq, Addr.mk.injEq] at hbb
          obtain ⟨rfl, rfl, _⟩ := hbb
          rw [hY] at g3
          have HF := Lib.hid hT2
          have hXS : (X : Int) < (S : Int) := by omega
          clear hT hcy hm hY hch hT2 g2 HT
          go_wp2
          go_roundw
          case rel => exact ⟨Y, Ln + 1, f', _, rfl, hYn, by go_num, by omega, HNX, HF.out⟩
          case measure => simp [intOf]; omega
        | true =>
          rw [hm] at rj hcy
          rw [if_pos rfl] at hcy
          have hst := HSTEP.out
          rw [← hcy] at hst
          dsimp only at hst
          have HST := Lib.hid hst
          have hL6 : Ln ≤ 6 := by omega
          clear hT hcy hm hst HSTEP HS4 hLf HS
          go_wp2_with fail
          clear rj fj
          go_loopw [13] (fun av wr3 => ∃ A : Nat, A ≤ m ∧ av = .int .i64 A ∧ Hid (atOf out Ln A = atOf out Ln m) ∧ wr3 = wr) (fun av _ => (intOf av).toNat)
          case atStart => exact ⟨m, Nat.le_refl _, rfl, Lib.hid rfl, rfl⟩
          case round =>
            rename_i hrel
            obtain ⟨A, hA, rfl, HA, rfl⟩ := hrel
            have HLO : Hid (out.length = m) := Lib.hid HT.out.out.len
            have hmc : m ≤ co := HT.out.cap
            rcases Nat.eq_zero_or_pos A with hA0 | hA0
            case inl =>
              subst hA0
              have HAT := Lib.hid (show atOf out Ln m = 0 from HA.out.symm)
              have hins : insAt out Ln = out.take 0 ++ (Ln : Int) :: out.drop 0 := by unfold insAt; rw [HLO.out, HAT.out]
              by_cases hL0 : Ln = 0
              · subst hL0
                have hst := HST.out
                rw [if_neg (by omega)] at hst
                have HF := Lib.hid (show TyI S L b w.heap.size W.heap.size L a' c' T w (sTy T (k+1)).1 (sTy T (k+1)).2 g m co wr by rw [hst]; exact HT.out)
                clear hins hst HST HT HA HAT
                go_wp2
                go_roundw
                case rel => exact ⟨k+1, m, g, co, by omega, by go_num, rfl, by omega, HF.out⟩
                case measure => simp [intOf]; omega
              have hst := HST.out
              rw [if_pos (by omega), hins] at hst
              have HST2 := Lib.hid hst
              have hL1 : (0 : Int) < (Ln : Int) := by omega
              clear hins hst HST HA HAT
              have hownL : (wr.alloc (.cells #[.int .i64 (Ln : Int)] 2)).ownsRow wr.heap.size 2 1 (.slice (some ⟨wr.heap.size, 0, none⟩) 1 1) 1 [.int .i64 (Ln : Int)] := World.ownsRow_lit (base := wr.heap.size) (e := 2) (size := 1) wr #[.int .i64 (Ln : Int)] 1 (Nat.le_refl _) (by unfold maxLen; omega) rfl
              have hbL := (Below.refl wr.heap.size wr).alloc (Nat.le_refl _) (.cells #[.int .i64 (Ln : Int)] 2)
              have HOL := Lib.hid (⟨hownL, hbL⟩ : _ ∧ _)
              clear hbL
              have hl1 : ((out.drop 0).map (Value.int .i64)).length = (m) * 1 := by rw [List.length_map, List.length_drop, HLO.out]; omega
              have hn1 : ∀ j u, ((out.drop 0).map (Value.int .i64))[j]? = some u → (wr.alloc (.cells #[.int .i64 (Ln : Int)] 2)).cell? ((Addr.mk g 0 none).add j) = some u := by
                intro j u hj
                have hj2 : j < m - 0 := by
                  rcases Nat.lt_or_ge j (m - 0) with h | h
                  · exact h
                  · rw [List.getElem?_eq_none (by rw [List.length_map, List.length_drop, HLO.out]; exact h)] at hj; cases hj
                have hc := HOL.out.2.keep (HT.out.out.cell (0 + j) (by omega))
                have hu : u = .int .i64 (out.getD (0 + j) 0) := by
                  have hlo := HLO.out
                  simp only [List.getElem?_map, List.getElem?_drop, List.getElem?_eq_getElem (show 0 + j < out.length by omega), Option.map_some, Option.some.injEq] at hj
                  rw [← hj]; simp only [List.getD, List.getElem?_eq_getElem (show 0 + j < out.length by omega), Option.getD_some]
                rw [hu, add_at]
                exact hc
              have hc1 : ∀ u ∈ (out.drop 0).map (Value.int .i64), u.oneCell' = true := by intro u hu; simp only [List.mem_map] at hu; obtain ⟨x, _, rfl⟩ := hu; rfl
              have hp1 : 1 + (m) ≤ maxLen := by unfold maxLen; omega
              have hq1 : (1 + (m)) * 8 ≤ 140737488355328 := by omega
              have hr1 : wr.heap.size ≤ (wr.alloc (.cells #[.int .i64 (Ln : Int)] 2)).heap.size := by simp
              have HLN := Lib.hid (⟨hl1, hn1, hc1, hp1, hq1, hr1⟩ : _ ∧ _ ∧ _ ∧ _ ∧ _ ∧ _)
              clear hl1 hn1 hc1 hp1 hq1 hr1
              go_wp2_with (at_builtin; refine wpList_append_own _ rfl _ _ 35 rfl wr.heap.size 2 i0 (.int .i64 0) 1 8 Try.underlying35 hi' z0 z1 z2 rfl (by decide) _ _ _ rfl hownL ⟨g, 0, none⟩ _ _ ((out.drop 0).map (.int .i64)) rfl HLN.out.1 HLN.out.2.1 HLN.out.2.2.1 HLN.out.2.2.2.1 HLN.out.2.2.2.2.1 HLN.out.2.2.2.2.2 ?_)
              intro v3 w3 hown3 hgr _
              have hb3 := HOL.out.2.grown hgr (by simp) (fun x hx => by have := (HOL.out.1.lt x hx).1; exact this)
              obtain ⟨g3, c3, rfl, hg3, _⟩ := hown3.form (by omega)
              have H3 : OwX wr.heap.size c3 w3 g3 (1 + (m)) ((Ln : Int) :: out.drop 0) := by
                unfold OwX
                rw [List.map_cons, List.map_drop]
                exact hown3
              have hrt := ((HT.out.out.rd (by omega) HX4.out).below hb3).take HLO.out (show 0 ≤ m by omega)
              have hto := l01Own _ _ w3 hrt
              rw [show (out.take 0).length = 0 by rw [List.length_take, HLO.out]; omega] at hto
              have HW3 := Lib.hid (⟨H3, hb3⟩ : _ ∧ _)
              clear hown3 hgr hb3 H3 hrt hownL HOL
              go_wp2_with fail
              refine hto.mono ?_
              clear hto
              rintro e w4 ⟨a5, c5, rfl, o5, b5⟩
              have hown5 : w4.ownsRow w3.heap.size 2 1 (.slice a5 0 c5) 0 ((out.take 0).map (Value.int .i64)) := by
                have := o5.2.2.1
                rw [show (out.take 0).length = 0 by rw [List.length_take, HLO.out]; omega] at this
                exact this
              have H4 : OwX wr.heap.size c3 w4 g3 (1 + (m)) ((Ln : Int) :: out.drop 0) := ownsRow_chg HW3.out.1 (b5.chg 0 0) (fun _ _ => .inr (Nat.zero_le _))
              have HA4 := Lib.hid (⟨hown5, H4.news, one_int ((Ln : Int) :: out.drop 0), b5, (by rw [List.length_map]; exact H4.len.trans (Nat.mul_one _).symm), b5.size⟩ : w4.ownsRow w3.heap.size 2 1 (.slice a5 0 c5) 0 ((out.take 0).map (Value.int .i64)) ∧ _ ∧ _ ∧ Below w3.heap.size w3 w4 ∧ (((Ln : Int) :: out.drop 0).map (Value.int .i64)).length = (1 + (m)) * 1 ∧ w3.heap.size ≤ w4.heap.size)
              clear o5 hown5 H4 b5
              go_wp2_with (at_builtin; refine wpList_append_lies _ rfl _ _ 35 rfl w3.heap.size 2 i0 (.int .i64 0) 1 8 Try.underlying35 hi' z0 z1 z2 rfl (by decide) _ _ _ rfl HA4.out.1 ⟨g3, 0, none⟩ _ _ (((Ln : Int) :: out.drop 0).map (Value.int .i64)) rfl HA4.out.2.2.2.2.1 HA4.out.2.1 HA4.out.2.2.1 (by omega) (by unfold maxLen; omega) (by omega) HA4.out.2.2.2.2.2 w4.heap.size rfl ?_)
              intro g6 c6 w6 hown6 hgr6 hlie hlt6
              have hb6 : Below w3.heap.size w3 w6 := HA4.out.2.2.2.1.grown hgr6 HA4.out.2.2.2.2.2 (fun x hx => (HA4.out.1.lt x hx).1)
              have hof : OwX wr.heap.size c6 w6 g6 (0 + (1 + (m))) (out.take 0 ++ (Ln : Int) :: out.drop 0) := by
                have h0 := ownsRow_mono hown6 HW3.out.2.size
                unfold OwX
                simpa only [List.map_append, List.map_cons, List.map_take, List.map_drop, Nat.add_zero, Nat.zero_add, List.drop_zero, List.take_zero, List.nil_append, List.map_nil] using h0
              have hnx := HT.out.next (HW3.out.2.next hb6) hof
              have HF := Lib.hid (show TyI S L b w.heap.size W.heap.size L a' c' T w (sTy T (k+1)).1 (sTy T (k+1)).2 g6 (0 + (1 + (m))) c6 w6 by rw [HST2.out]; exact hnx)
              clear hof hnx hb6 hown6 hgr6 hlie
              go_wp2
              go_roundw
              case rel => exact ⟨k+1, _, g6, c6, by omega, by go_num, rfl, by omega, by have := HF.out; rwa [Nat.zero_add] at this⟩
              case measure => simp [intOf]; omega

            have c0 := HT.out.out.cell (A - 1) (by omega)
            generalize hx : out.getD (A - 1) 0 = x at c0
            have hAp : (0 : Int) < (A : Int) := by omega
            have hstep : atOf out Ln A = if x < Ln then atOf out Ln (A - 1) else A := by
              obtain ⟨A', rfl⟩ : ∃ A', A = A' + 1 := ⟨A - 1, by omega⟩
              rw [Nat.add_sub_cancel] at hx ⊢
              rw [atOf, hx]
            have HSX := Lib.hid hstep
            clear hstep hx
            by_cases hlx : x < (Ln : Int)
            · have HA2 := Lib.hid (show atOf out Ln (A - 1) = atOf out Ln m by rw [← HA.out, HSX.out, if_pos hlx])
              clear HSX HA
              go_wp2
              go_roundw
              case rel => exact ⟨A - 1, by omega, by go_num, HA2, by first | rfl | trivial⟩
              case measure => simp [intOf]; omega
            have HAT := Lib.hid (show atOf out Ln m = A by rw [← HA.out, HSX.out, if_neg hlx])
            clear HSX
            by_cases hco : co = A
            case pos =>
              have e1 : m = A := by omega
              have e2 : m = co := by omega
              clear hco
              subst e1
              subst e2
              have hins : insAt out Ln = out.take m ++ (Ln : Int) :: out.drop m := by unfold insAt; rw [HLO.out, HAT.out]
              by_cases hL0 : Ln = 0
              · subst hL0
                have hst := HST.out
                rw [if_neg (by omega)] at hst
                have HF := Lib.hid (show TyI S L b w.heap.size W.heap.size L a' c' T w (sTy T (k+1)).1 (sTy T (k+1)).2 g m m wr by rw [hst]; exact HT.out)
                clear hins hst HST HT HA HAT
                go_wp2
                go_roundw
                case rel => exact ⟨k+1, m, g, m, by omega, by go_num, rfl, by omega, HF.out⟩
                case measure => simp [intOf]; omega
              have hst := HST.out
              rw [if_pos (by omega), hins] at hst
              have HST2 := Lib.hid hst
              have hL1 : (0 : Int) < (Ln : Int) := by omega
              clear hins hst HST HA HAT
              have hownL : (wr.alloc (.cells #[.int .i64 (Ln : Int)] 2)).ownsRow wr.heap.size 2 1 (.slice (some ⟨wr.heap.size, 0, none⟩) 1 1) 1 [.int .i64 (Ln : Int)] := World.ownsRow_lit (base := wr.heap.size) (e := 2) (size := 1) wr #[.int .i64 (Ln : Int)] 1 (Nat.le_refl _) (by unfold maxLen; omega) rfl
              have hbL := (Below.refl wr.heap.size wr).alloc (Nat.le_refl _) (.cells #[.int .i64 (Ln : Int)] 2)
              have HOL := Lib.hid (⟨hownL, hbL⟩ : _ ∧ _)
              clear hbL
              have hl1 : ((out.drop m).map (Value.int .i64)).length = (0) * 1 := by rw [List.length_map, List.length_drop, HLO.out]; omega
              have hn1 : ∀ j u, ((out.drop m).map (Value.int .i64))[j]? = some u → (wr.alloc (.cells #[.int .i64 (Ln : Int)] 2)).cell? ((Addr.mk g 0 none).add j) = some u := by
                intro j u hj
                have hj2 : j < m - m := by
                  rcases Nat.lt_or_ge j (m - m) with h | h
                  · exact h
                  · rw [List.getElem?_eq_none (by rw [List.length_map, List.length_drop, HLO.out]; exact h)] at hj; cases hj
                omega
              have hc1 : ∀ u ∈ (out.drop m).map (Value.int .i64), u.oneCell' = true := by intro u hu; simp only [List.mem_map] at hu; obtain ⟨x, _, rfl⟩ := hu; rfl
              have hp1 : 1 + (0) ≤ maxLen := by unfold maxLen; omega
              have hq1 : (1 + (0)) * 8 ≤ 140737488355328 := by omega
              have hr1 : wr.heap.size ≤ (wr.alloc (.cells #[.int .i64 (Ln : Int)] 2)).heap.size := by simp
              have HLN := Lib.hid (⟨hl1, hn1, hc1, hp1, hq1, hr1⟩ : _ ∧ _ ∧ _ ∧ _ ∧ _ ∧ _)
              clear hl1 hn1 hc1 hp1 hq1 hr1
              go_wp2_with (at_builtin; refine wpList_append_own _ rfl _ _ 35 rfl wr.heap.size 2 i0 (.int .i64 0) 1 8 Try.underlying35 hi' z0 z1 z2 rfl (by decide) _ _ _ rfl hownL ⟨g, 0, none⟩ _ _ ((out.drop m).map (.int .i64)) rfl HLN.out.1 HLN.out.2.1 HLN.out.2.2.1 HLN.out.2.2.2.1 HLN.out.2.2.2.2.1 HLN.out.2.2.2.2.2 ?_)
              intro v3 w3 hown3 hgr _
              have hb3 := HOL.out.2.grown hgr (by simp) (fun x hx => by have := (HOL.out.1.lt x hx).1; exact this)
              obtain ⟨g3, c3, rfl, hg3, _⟩ := hown3.form (by omega)
              have H3 : OwX wr.heap.size c3 w3 g3 (1 + (0)) ((Ln : Int) :: out.drop m) := by
                unfold OwX
                rw [List.map_cons, List.map_drop]
                exact hown3
              have hrt := ((HT.out.out.rd (by omega) HX4.out).below hb3).take HLO.out (show m ≤ m by omega)
              have hto := l01Own _ _ w3 hrt
              rw [show (out.take m).length = m by rw [List.length_take, HLO.out]; omega] at hto
              have HW3 := Lib.hid (⟨H3, hb3⟩ : _ ∧ _)
              clear hown3 hgr hb3 H3 hrt hownL HOL
              go_wp2_with fail
              refine hto.mono ?_
              clear hto
              rintro e w4 ⟨a5, c5, rfl, o5, b5⟩
              have hown5 : w4.ownsRow w3.heap.size 2 1 (.slice a5 m c5) m ((out.take m).map (Value.int .i64)) := by
                have := o5.2.2.1
                rw [show (out.take m).length = m by rw [List.length_take, HLO.out]; omega] at this
                exact this
              have H4 : OwX wr.heap.size c3 w4 g3 (1 + (0)) ((Ln : Int) :: out.drop m) := ownsRow_chg HW3.out.1 (b5.chg 0 0) (fun _ _ => .inr (Nat.zero_le _))
              have HA4 := Lib.hid (⟨hown5, H4.news, one_int ((Ln : Int) :: out.drop m), b5, (by rw [List.length_map]; exact H4.len.trans (Nat.mul_one _).symm), b5.size⟩ : w4.ownsRow w3.heap.size 2 1 (.slice a5 m c5) m ((out.take m).map (Value.int .i64)) ∧ _ ∧ _ ∧ Below w3.heap.size w3 w4 ∧ (((Ln : Int) :: out.drop m).map (Value.int .i64)).length = (1 + (0)) * 1 ∧ w3.heap.size ≤ w4.heap.size)
              clear o5 hown5 H4 b5
              go_wp2_with (at_builtin; refine wpList_append_lies _ rfl _ _ 35 rfl w3.heap.size 2 i0 (.int .i64 0) 1 8 Try.underlying35 hi' z0 z1 z2 rfl (by decide) _ _ _ rfl HA4.out.1 ⟨g3, 0, none⟩ _ _ (((Ln : Int) :: out.drop m).map (Value.int .i64)) rfl HA4.out.2.2.2.2.1 HA4.out.2.1 HA4.out.2.2.1 (by omega) (by unfold maxLen; omega) (by omega) HA4.out.2.2.2.2.2 w4.heap.size rfl ?_)
              intro g6 c6 w6 hown6 hgr6 hlie hlt6
              have hb6 : Below w3.heap.size w3 w6 := HA4.out.2.2.2.1.grown hgr6 HA4.out.2.2.2.2.2 (fun x hx => (HA4.out.1.lt x hx).1)
              have hof : OwX wr.heap.size c6 w6 g6 (m + (1 + (0))) (out.take m ++ (Ln : Int) :: out.drop m) := by
                have h0 := ownsRow_mono hown6 HW3.out.2.size
                unfold OwX
                simpa only [List.map_append, List.map_cons, List.map_take, List.map_drop, Nat.add_zero, Nat.zero_add, List.drop_zero, List.take_zero, List.nil_append, List.map_nil] using h0
              have hnx := HT.out.next (HW3.out.2.next hb6) hof
              have HF := Lib.hid (show TyI S L b w.heap.size W.heap.size L a' c' T w (sTy T (k+1)).1 (sTy T (k+1)).2 g6 (m + (1 + (0))) c6 w6 by rw [HST2.out]; exact hnx)
              clear hof hnx hb6 hown6 hgr6 hlie
              go_wp2
              go_roundw
              case rel => exact ⟨k+1, _, g6, c6, by omega, by go_num, rfl, by omega, HF.out⟩
              case measure => simp [intOf]; omega
            have hins : insAt out Ln = out.take A ++ (Ln : Int) :: out.drop A := by unfold insAt; rw [HLO.out, HAT.out]
            by_cases hL0 : Ln = 0
            · subst hL0
              have hst := HST.out
              rw [if_neg (by omega)] at hst
              have HF := Lib.hid (show TyI S L b w.heap.size W.heap.size L a' c' T w (sTy T (k+1)).1 (sTy T (k+1)).2 g m co wr by rw [hst]; exact HT.out)
              clear hins hst HST HT HA HAT
              go_wp2
              go_roundw
              case rel => exact ⟨k+1, m, g, co, by omega, by go_num, rfl, by omega, HF.out⟩
              case measure => simp [intOf]; omega
            have hst := HST.out
            rw [if_pos (by omega), hins] at hst
            have HST2 := Lib.hid hst
            have hL1 : (0 : Int) < (Ln : Int) := by omega
            clear hins hst HST HA HAT
            have hownL : (wr.alloc (.cells #[.int .i64 (Ln : Int)] 2)).ownsRow wr.heap.size 2 1 (.slice (some ⟨wr.heap.size, 0, none⟩) 1 1) 1 [.int .i64 (Ln : Int)] := World.ownsRow_lit (base := wr.heap.size) (e := 2) (size := 1) wr #[.int .i64 (Ln : Int)] 1 (Nat.le_refl _) (by unfold maxLen; omega) rfl
            have hbL := (Below.refl wr.heap.size wr).alloc (Nat.le_refl _) (.cells #[.int .i64 (Ln : Int)] 2)
            have HOL := Lib.hid (⟨hownL, hbL⟩ : _ ∧ _)
            clear hbL
            have hl1 : ((out.drop A).map (Value.int .i64)).length = (m - A) * 1 := by rw [List.length_map, List.length_drop, HLO.out]; omega
            have hn1 : ∀ j u, ((out.drop A).map (Value.int .i64))[j]? = some u → (wr.alloc (.cells #[.int .i64 (Ln : Int)] 2)).cell? ((Addr.mk g A none).add j) = some u := by
              intro j u hj
              have hj2 : j < m - A := by
                rcases Nat.lt_or_ge j (m - A) with h | h
                · exact h
                · rw [List.getElem?_eq_none (by rw [List.length_map, List.length_drop, HLO.out]; exact h)] at hj; cases hj
              have hc := HOL.out.2.keep (HT.out.out.cell (A + j) (by omega))
              have hu : u = .int .i64 (out.getD (A + j) 0) := by
                have hlo := HLO.out
                simp only [List.getElem?_map, List.getElem?_drop, List.getElem?_eq_getElem (show A + j < out.length by omega), Option.map_some, Option.some.injEq] at hj
                rw [← hj]; simp only [List.getD, List.getElem?_eq_getElem (show A + j < out.length by omega), Option.getD_some]
              rw [hu, add_at]
              exact hc
            have hc1 : ∀ u ∈ (out.drop A).map (Value.int .i64), u.oneCell' = true := by intro u hu; simp only [List.mem_map] at hu; obtain ⟨x, _, rfl⟩ := hu; rfl
            have hp1 : 1 + (m - A) ≤ maxLen := by unfold maxLen; omega
            have hq1 : (1 + (m - A)) * 8 ≤ 140737488355328 := by omega
            have hr1 : wr.heap.size ≤ (wr.alloc (.cells #[.int .i64 (Ln : Int)] 2)).heap.size := by simp
            have HLN := Lib.hid (⟨hl1, hn1, hc1, hp1, hq1, hr1⟩ : _ ∧ _ ∧ _ ∧ _ ∧ _ ∧ _)
            clear hl1 hn1 hc1 hp1 hq1 hr1
            go_wp2_with (at_builtin; refine wpList_append_own _ rfl _ _ 35 rfl wr.heap.size 2 i0 (.int .i64 0) 1 8 Try.underlying35 hi' z0 z1 z2 rfl (by decide) _ _ _ rfl hownL ⟨g, A, none⟩ _ _ ((out.drop A).map (.int .i64)) rfl HLN.out.1 HLN.out.2.1 HLN.out.2.2.1 HLN.out.2.2.2.1 HLN.out.2.2.2.2.1 HLN.out.2.2.2.2.2 ?_)
            intro v3 w3 hown3 hgr _
            have hb3 := HOL.out.2.grown hgr (by simp) (fun x hx => by have := (HOL.out.1.lt x hx).1; exact this)
            obtain ⟨g3, c3, rfl, hg3, _⟩ := hown3.form (by omega)
            have H3 : OwX wr.heap.size c3 w3 g3 (1 + (m - A)) ((Ln : Int) :: out.drop A) := by
              unfold OwX
              rw [List.map_cons, List.map_drop]
              exact hown3
            have hrt := ((HT.out.out.rd (by omega) HX4.out).below hb3).take HLO.out (show A ≤ m by omega)
            have hto := l01Own _ _ w3 hrt
            rw [show (out.take A).length = A by rw [List.length_take, HLO.out]; omega] at hto
            have HW3 := Lib.hid (⟨H3, hb3⟩ : _ ∧ _)
            clear hown3 hgr hb3 H3 hrt hownL HOL
            go_wp2_with fail
            refine hto.mono ?_
            clear hto
            rintro e w4 ⟨a5, c5, rfl, o5, b5⟩
            have hown5 : w4.ownsRow w3.heap.size 2 1 (.slice a5 A c5) A ((out.take A).map (Value.int .i64)) := by
              have := o5.2.2.1
              rw [show (out.take A).length = A by rw [List.length_take, HLO.out]; omega] at this
              exact this
            have H4 : OwX wr.heap.size c3 w4 g3 (1 + (m - A)) ((Ln : Int) :: out.drop A) := ownsRow_chg HW3.out.1 (b5.chg 0 0) (fun _ _ => .inr (Nat.zero_le _))
            have HA4 := Lib.hid (⟨hown5, H4.news, one_int ((Ln : Int) :: out.drop A), b5, (by rw [List.length_map]; exact H4.len.trans (Nat.mul_one _).symm), b5.size⟩ : w4.ownsRow w3.heap.size 2 1 (.slice a5 A c5) A ((out.take A).map (Value.int .i64)) ∧ _ ∧ _ ∧ Below w3.heap.size w3 w4 ∧ (((Ln : Int) :: out.drop A).map (Value.int .i64)).length = (1 + (m - A)) * 1 ∧ w3.heap.size ≤ w4.heap.size)
            clear o5 hown5 H4 b5
            go_wp2_with (at_builtin; refine wpList_append_lies _ rfl _ _ 35 rfl w3.heap.size 2 i0 (.int .i64 0) 1 8 Try.underlying35 hi' z0 z1 z2 rfl (by decide) _ _ _ rfl HA4.out.1 ⟨g3, 0, none⟩ _ _ (((Ln : Int) :: out.drop A).map (Value.int .i64)) rfl HA4.out.2.2.2.2.1 HA4.out.2.1 HA4.out.2.2.1 (by omega) (by unfold maxLen; omega) (by omega) HA4.out.2.2.2.2.2 w4.heap.size rfl ?_)
            intro g6 c6 w6 hown6 hgr6 hlie hlt6
            have hb6 : Below w3.heap.size w3 w6 := HA4.out.2.2.2.1.grown hgr6 HA4.out.2.2.2.2.2 (fun x hx => (HA4.out.1.lt x hx).1)
            have hof : OwX wr.heap.size c6 w6 g6 (A + (1 + (m - A))) (out.take A ++ (Ln : Int) :: out.drop A) := by
              have h0 := ownsRow_mono hown6 HW3.out.2.size
              unfold OwX
              simpa only [List.map_append, List.map_cons, List.map_take, List.map_drop, Nat.add_zero, Nat.zero_add, List.drop_zero, List.take_zero, List.nil_append, List.map_nil] using h0
            have hnx := HT.out.next (HW3.out.2.next hb6) hof
            have HF := Lib.hid (show TyI S L b w.heap.size W.heap.size L a' c' T w (sTy T (k+1)).1 (sTy T (k+1)).2 g6 (A + (1 + (m - A))) c6 w6 by rw [HST2.out]; exact hnx)
            clear hof hnx hb6 hown6 hgr6 hlie
            go_wp2
            go_roundw
            case rel => exact ⟨k+1, _, g6, c6, by omega, by go_num, rfl, by omega, HF.out⟩
            case measure => simp [intOf]; omega
    · obtain rfl : k = S := by omega
      have hty := HS2.out
      have hO : OwI w.heap.size U.heap.size U (.slice (some ⟨g, 0, none⟩) m co) (typL T) := by
        have h1 := hT.out
        rw [hty] at h1
        exact OwI.mk (ownsRow_mono h1 (Nat.le_of_lt hT.lt)) (by omega) (fun x hx => by have := HS3.out x hx; unfold I64; omega)
      have hlen : (typL T).length = m := by rw [← hty]; exact hT.out.len
      have HF := Lib.hid (⟨hO, hT.below, hlen⟩ : _ ∧ _ ∧ _)
      clear hO hlen hty hT
      go_wp2
      go_ret2
      exact ⟨some ⟨g, 0, none⟩, co, by rw [HF.out.2.2]; rfl, by rw [HF.out.2.2]; exact HF.out.1, HF.out.2.1⟩

set_option maxHeartbeats 1600000 in
theorem specTyL {lo hi lo' hi' lo1 hi1 : Nat} (s : Int) (a : Option Addr) (n c : Nat) (xss : List (List Int)) (sh : Int) (ta : Option Addr) (tn tc : Nat) (ts : List (List Int)) (a1 : Option Addr) (n1 c1 : Nat) (ws : List Int) (w : World)
    (h : RdR lo hi w (.slice a n c) xss) (hn : xss.length = n) (h' : RdR lo' hi' w (.slice ta tn tc) ts) (hn' : ts.length = tn) (h1 : RdI lo1 hi1 w (.slice a1 n1 c1) ws) (hl : ws.length = n1) :
    Calls Try.prog 30 #[.agg #[.int .i64 s, .slice a n c, .int .i64 sh, .slice ta tn tc], .slice a1 n1 c1] w fun e w' => ∃ a' c', e = .returned (.tuple #[.slice a' (tyOf s xss sh ts ws).1.length c', .int .i64 (tyOf s xss sh ts ws).2]) ∧ OwI w.heap.size w'.heap.size w' (.slice a' (tyOf s xss sh ts ws).1.length c') (tyOf s xss sh ts ws).1 ∧ Below w.heap.size w w' := by
  by_cases hc : pwCode s xss sh ts ws = 0
  · obtain ⟨_, _, ⟨hs1, _⟩, _⟩ := cvB_hd (pw_ok hc).1
    obtain ⟨S, rfl⟩ : ∃ S : Nat, sh = S := ⟨sh.toNat, by omega⟩
    exact specTy_yes s a n c xss S ta tn tc ts a1 n1 c1 ws w h hn h' hn' h1 hl hc
  · have hb0 : ∀ o, Below w.heap.size w (w.alloc o) := fun o => (Below.refl _ _).alloc (Nat.le_refl _) o
    have HCK := Lib.hid (fun W (hB : Below w.heap.size w W) => l04Walk s a n c xss sh ta tn tc ts a1 n1 c1 ws W (h.below hB) hn (h'.below hB) hn' (h1.below hB) hl)
    unfold LstA at HCK
    have hty : tyOf s xss sh ts ws = ([], pwCode s xss sh ts ws) := by unfold tyOf; rw [if_neg hc]
    rw [hty]
    rw [pwOf_no hc] at HCK
    have hne : (pwCode s xss sh ts ws != 0) = true := by simpa using hc
    generalize pwCode s xss sh ts ws = cd at *
    dsimp only [List.length_nil] at HCK ⊢
    clear h hn h' hn' h1 hl hc hty
    go_enter Try.func30, Try.ntmps30
    go_wp2_with fail
    refine calls_gen (fun W => Below w.heap.size w W) (hb0 _) ?_
    intro W hB
    refine (HCK.out W hB).mono ?_
    rintro e w1 ⟨a', c', rfl, o1, b1⟩
    replace hB := hB.next b1
    clear b1 o1
    go_wp2
    go_ret2
    exact ⟨none, 0, rfl, OwI.nil' _ _ _, hB⟩

end Go.Proofs.Ytkipfjdlmomkfaa
