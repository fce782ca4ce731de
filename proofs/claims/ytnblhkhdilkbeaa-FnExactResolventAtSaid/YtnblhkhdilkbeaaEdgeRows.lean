/- The rows of the edge matrix, by the program: a range over its set of steps, in whatever order. -/
import Derived.Test.YtnblhkhdilkbeaaCoreG
import Derived.Test.YtnblhkhdilkbeaaCoreF
set_option linter.unusedSimpArgs false
set_option linter.unusedVariables false
namespace Go.Proofs.Ytnblhkhdilkbeaa
open Go.RowKit Go.Maps

/-- .. without the steps that are still to come -/
def edgeL (ds : List (Int × Int)) (left : Lit → Bool) : Nat → Nat → Int := fun i j => if stepQ ds i j = true ∧ left (pk i j) = false then 1 else 0
theorem edgeL_none (ds : List (Int × Int)) (left : Lit → Bool) (h : ∀ kl, left kl = false) : edgeL ds left = edgeM ds := by
  funext i j
  simp [edgeL, edgeM, h]
theorem edgeL_start {ds : List (Int × Int)} {left : Lit → Bool} {N : Nat} (hN : N ≤ 1000) (h : ∀ i j : Nat, i < N → j < N → stepQ ds i j = true → left (pk i j) = true) : tab N zeros = tab N (edgeL ds left) := by
  refine tab_congr fun i j hi hj => ?_
  unfold edgeL zeros
  by_cases hs : stepQ ds i j = true
  · rw [h i j hi hj hs]; simp
  · simp [hs]
theorem pk_wf {e f : Int} (he : I64 e) (hf : I64 f) : WideAt.IsKeyLit (pk e f) := stepKey.key (pk_key he hf)
theorem edgeL_step {ds : List (Int × Int)} {left : Lit → Bool} {N e f : Nat} (hN : N ≤ 1000) (he : e < N) (hf : f < N) (hs : stepQ ds e f = true) :
    tab N (put (edgeL ds left) e f 1) = tab N (edgeL ds (fun z => left z && !z.sameKey (pk e f))) := by
  refine tab_congr fun i j hi hj => ?_
  have hI : ∀ x : Nat, x < N → I64 (x : Int) := fun x hx => by unfold I64; omega
  unfold put edgeL
  by_cases h : i = e ∧ j = f
  · obtain ⟨rfl, rfl⟩ := h
    have hself := WideAt.sameKey_self (pk_wf (hI _ hi) (hI _ hj))
    simp [hs, hself]
  · rw [if_neg h]
    have hne : pk (i : Int) (j : Int) ≠ pk (e : Int) (f : Int) := fun e' => by
      have := pk_inj (hI _ hi) (hI _ hj) (hI _ he) (hI _ hf) e'
      omega
    have hno := sameKey_ne hne
    simp [hno]

theorem ranges_ne_cell {w : World} {b M R k : Nat} {D : DataW Unit} {left : Lit → Bool} {cnt : Nat} {o : Nat} {v : Value} (h : w.ranges Try.prog 155 (plainElem Try.prog 4) M R k D left cnt) (hc : w.cell? ⟨b, o, none⟩ = some v) : M ≠ b ∧ R ≠ b := by
  obtain ⟨es, clock, since, seen, c0, h1, _, _, _, h2, _⟩ := h
  refine ⟨fun e => ?_, fun e => ?_⟩
  · subst e; simp [World.cell?, h1] at hc
  · subst e; simp [World.cell?, h2] at hc

set_option maxRecDepth 100000 in
set_option maxHeartbeats 6400000 in
theorem edgeRows {lo hi : Nat} (s : Int) (a : Option Addr) (n c : Nat) (xss : List (List Int)) (w : World) (h : RdR lo hi w (.slice a n c) xss) (hn : xss.length = n) (hg : grB s xss = true) :
    Calls Try.prog 114 #[.agg #[.int .i64 s, .slice a n c]] w fun e w' => ∃ a' c', e = .returned (.slice a' (2 * n) c') ∧ OwR w.heap.size w'.heap.size w' (.slice a' (2 * n) c') (tab (2 * n) (edgeM (dirE (pairs xss)))) ∧ Below w.heap.size w w' := by
  have hn10 : n ≤ 10 := by have := grB_iff hg; omega
  have HR := Lib.hid h
  have HSO := Lib.hid (fun W' (h' : RdR lo hi W' (.slice a n c) xss) => stepsOf s a n c xss W' h' hn hg)
  obtain ⟨ds, hds⟩ : ∃ ds, ds = dirE (pairs xss) := ⟨_, rfl⟩
  obtain ⟨N, hN⟩ : ∃ N, N = 2 * n := ⟨_, rfl⟩
  have HDL := Lib.hid (show ds.length = N by rw [hds, dirE_len, pairs_len, hn, hN])
  rw [← hds] at HSO ⊢
  have hN20 : N ≤ 20 := by omega
  have hm2 : IntKind.i64.wrap (2 * (n : Int)) = (N : Int) := by rw [hN]; rw [IntWalk.i64_in _ (by omega)]; omega
  have hm2' : wrap64 (2 * (n : Int)) = (N : Int) := by rw [hN]; rw [IntWalk.wrap64_in _ (by omega)]; omega
  have hm3 : 2 * (n : Int) = (N : Int) := by omega
  rw [← hN]
  clear h hn hg hds hN
  go_enter Try.func114, Try.ntmps114
  go_wp2_with fail
  refine calls_gen (fun W => Below w.heap.size w W ∧ 0 < W.heap.size ∧ W.cell? ⟨w.heap.size, 0, none⟩ = some (.int .i64 s) ∧ W.cell? ⟨w.heap.size, 1, none⟩ = some (.slice a n c)) ⟨(Below.refl _ _).alloc (Nat.le_refl _) _, by simp, by go_simp, by go_simp⟩ ?_
  rintro W ⟨hB, hz, k0, k1⟩
  refine (zeroRows N W (by omega) (.inr hz)).mono ?_
  rintro e w1 ⟨v, rfl, o1, b1⟩
  obtain ⟨a', c', rfl⟩ := o1.rd.shape
  rw [tab_len] at o1 ⊢
  replace o1 := o1.mono hB.size (Nat.le_refl _)
  replace hB := hB.next b1
  replace k0 := b1.keep k0
  replace k1 := b1.keep k1
  obtain ⟨H1, hH1⟩ : ∃ H, H = w1.heap.size := ⟨_, rfl⟩
  rw [← hH1] at o1
  have HH1 := Lib.hid hH1
  clear b1 hz hH1
  go_wp2_with fail
  refine (HSO.out w1 (HR.out.below hB)).mono ?_
  rintro e w2 ⟨M, k, rfl, hM, b2⟩
  replace hB := hB.next b2
  replace o1 := o1.below b2
  obtain ⟨D, hown, hat, hkeys⟩ := hM
  have hst := edgeL_start (ds := ds) (left := has D) (N := N) (by omega) (fun i j hi hj hs => by
    have hI : ∀ x : Nat, x < N → I64 (x : Int) := fun x hx => by unfold I64; omega
    have := hat i j (hI _ hi) (hI _ hj)
    rw [hs] at this
    cases hh : has D (pk i j) with
    | true => rfl
    | false => rw [atKey_of_not_has hh] at this; cases this)
  rw [hst] at o1
  obtain ⟨R, hR⟩ : ∃ R, R = w2.heap.size := ⟨_, rfl⟩
  have hRH : H1 ≤ R := by rw [hR, HH1.out]; exact b2.size
  have hwR : w.heap.size ≤ R := by rw [hR]; exact hB.size
  have HAT := Lib.hid hkeys
  have HRR := Lib.hid hR
  have HBO := Lib.hid (⟨hB, o1⟩ : _ ∧ _)
  clear hst hat hkeys b2 k0 k1 hB o1 hR
  go_wp2_with (first | (at_range; refine wpList_range_own _ rfl _ 153 rfl 155 4 stepKey Try.underlying153 _ M k D rfl hown ?_; intro w3 hrg hg0 hs0) | go_in)
  go_frame
  have hb3 : Below w2.heap.size w2 w3 := (Below.refl _ _).grown hg0 (Nat.le_refl _) (fun j hj => by cases hj)
  have HF := Lib.hid (⟨hrg, Lib.hid (fun kl (h : has D kl = true) => h), HBO.out.2.below hb3, HBO.out.1.next hb3, by rw [hs0]; exact Nat.lt_succ_self _⟩ : _ ∧ Hid _ ∧ _ ∧ _ ∧ w2.heap.size < w3.heap.size)
  rw [← HRR.out] at HF ⊢
  clear hrg hg0 hs0 hb3 HBO hown
  go_loopw [4] (fun _ wr => ∃ left cnt, wr.ranges Try.prog 155 (plainElem Try.prog 4) M R k D left cnt ∧ Hid (∀ kl, left kl = true → has D kl = true) ∧ OwR w.heap.size H1 wr (.slice a' N c') (tab N (edgeL ds left)) ∧ Below w.heap.size w wr ∧ R < wr.heap.size) (fun _ wr => wr.rangeLeft M R)
  case atStart => exact ⟨_, _, HF.out⟩
  case round =>
    clear HF
    obtain ⟨left, cnt, hrg, HLE, hO, hB, hRz⟩ := hrel
    go_wp2_with (first
      | (at_next; refine wpList_next_ranges _ rfl _ rfl 155 stepKey (plainElem Try.prog 4) (fun v : Value => v) (fun v : Value => v) (fun key kl _ => ⟨key, rfl⟩) (fun v y _ => ⟨v, rfl⟩) M R k D left cnt rfl hrg ?_ ?_)
      | go_in)
    · intro hc0 hl0
      have hfin := hO
      rw [edgeL_none ds left hl0] at hfin
      have HF := Lib.hid (⟨hfin.mono (Nat.le_refl _) (by omega), hB⟩ : OwR w.heap.size wr.heap.size wr (.slice a' N c') (tab N (edgeM ds)) ∧ _)
      clear hfin hO hB hrg hc0 hl0
      go_wp2
      go_ret
      exact ⟨a', c', rfl, HF.out⟩
    · intro x cv kl y ps w4 cnt4 hkey hlk hv hat4 hrg4 hlt4 hgr4 hsz4 hen
      obtain ⟨e, f, he, hf, rfl, hs⟩ := HAT.out kl (HLE.out kl hlk)
      obtain rfl := stepKey.inj hkey (pk_key he hf)
      have hin := stepQ_in hs
      rw [HDL.out] at hin
      obtain ⟨i, rfl⟩ : ∃ i : Nat, e = (i : Int) := ⟨e.toNat, by omega⟩
      obtain ⟨j, rfl⟩ : ∃ j : Nat, f = (j : Int) := ⟨f.toNat, by omega⟩
      have hiN : i < N := by omega
      have hjN : j < N := by omega
      have hi1 : (i : Int) < (N : Int) := by omega
      have hj1 : (j : Int) < (N : Int) := by omega
      have hstp := edgeL_step (left := left) (by omega) hiN hjN hs
      have hLE2 : Hid (∀ kl, (left kl && !kl.sameKey (pk i j)) = true → has D kl = true) := Lib.hid (fun kl h => HLE.out kl (by simp at h; exact h.1))
      have hO4 := hO.chg (Chg.grown (lo := R) (hi := R + 1) hgr4 (fun q hq => by cases hq; omega)) (.inl hRH)
      have hB4 : Below w.heap.size w w4 := hB.grown hgr4 hB.size (fun q hq => by cases hq; exact hwR)
      have hA := (Below.refl w4.heap.size w4).alloc (Nat.le_refl _) (.cells #[.int .i64 (i : Int), .int .i64 (j : Int)] 155)
      have u0 : (w4.alloc (.cells #[.int .i64 (i : Int), .int .i64 (j : Int)] 155)).cell? ⟨w4.heap.size, 0, none⟩ = some (.int .i64 (i : Int)) := by go_simp
      have u1 : (w4.alloc (.cells #[.int .i64 (i : Int), .int .i64 (j : Int)] 155)).cell? ⟨w4.heap.size, 1, none⟩ = some (.int .i64 (j : Int)) := by go_simp
      have hrA := hrg4.alloc (.cells #[.int .i64 (i : Int), .int .i64 (j : Int)] 155)
      have hOA := hO4.below hA
      have hBA := hB4.next hA
      have hRA := Nat.lt_of_lt_of_le (hsz4 ▸ hRz : R < w4.heap.size) hA.size
      have HG := Lib.hid (⟨hrA, hOA, hBA, hRA, hstp, hLE2, hlt4, u0, u1⟩ : _ ∧ _ ∧ _ ∧ _ ∧ _ ∧ _ ∧ _ ∧ _ ∧ _)
      have HRG := Lib.hid hrg
      clear hrA hOA hBA hRA hstp hLE2 hlt4 hO4 hB4 hA hrg hO hB hRz hkey hlk hv hat4 hrg4 hgr4 hsz4 hin hs he hf u0 u1
      go_wp2
      obtain ⟨rA, oA, bA, RA, hstp, hLE2, hlt4, u0, u1⟩ := HG.out
      generalize w4.alloc (.cells #[.int .i64 (i : Int), .int .i64 (j : Int)] 155) = V at rA oA bA RA u0 u1 ⊢
      generalize w4.heap.size = X at u0 u1 ⊢
      clear HG
      obtain ⟨g, b, cb, rfl, g1, g2, g3, g4, g5, g6, g7⟩ := (oA.qt ((Qt.refl V).drew)).ent hiN hjN
      have g1' : V.cell? ⟨g, i, none⟩ = some (.slice (some ⟨b, 0, none⟩) N cb) := g1
      obtain ⟨n1, n2⟩ := ranges_ne_cell rA (show V.cell? ⟨b, j, none⟩ = some (.int .i64 (edgeL ds left i j)) from g2)
      have hfin := g7 1 (by unfold I64; omega)
      rw [hstp] at hfin
      have hch : Chg b (b + 1) V.drew (V.drew.setCell ⟨b, j, none⟩ (.int .i64 1)) := (Chg.refl b (b + 1) V.drew).setCell (p := ⟨b, j, none⟩) ⟨Nat.le_refl _, Nat.lt_succ_self _⟩ _
      have hgr : V.drew.grownBy (V.drew.setCell ⟨b, j, none⟩ (.int .i64 1)) (some b) := ⟨hch.os, hch.tape, hch.output, hch.size, fun q hq hne => hch.block q hq (by have : q ≠ b := fun e => hne (by rw [e]); omega)⟩
      have hrN := (show V.drew.ranges Try.prog 155 (plainElem Try.prog 4) M R k D (fun z => left z && !z.sameKey (pk i j)) cnt4 from rA).kept hgr (by simpa using n1) (by simpa using n2)
      have HF := Lib.hid (⟨hrN, hLE2, hfin, bA.drew.setCell (p := ⟨b, j, none⟩) g4 _, by rw [World.size_setCell]; exact RA⟩ : _ ∧ _ ∧ _ ∧ Below w.heap.size w (V.drew.setCell ⟨b, j, none⟩ (.int .i64 1)) ∧ R < (V.drew.setCell ⟨b, j, none⟩ (.int .i64 1)).heap.size)
      have HL4 := Lib.hid hlt4
      have g2' : V.drew.cell? ⟨b, j, none⟩ = some (.int .i64 (edgeL ds left i j)) := g2
      generalize edgeL ds left i j = old at g2 g2'
      clear rA oA bA RA hstp hLE2 hlt4 g7 hfin hch hgr hrN g1 g2 n1 n2 hen
      go_still_tail 8, (by kernel_rfl)
      change wpList _ _ _ _ _ V.drew
      clear g1' u0 u1
      generalize V.drew = U at HF g2' g3 ⊢
      go_wp2
      go_roundw
      case rel => exact ⟨_, _, HF.out⟩
      case measure => rw [HF.out.1.left_eq, HRG.out.left_eq]; exact HL4.out

end Go.Proofs.Ytnblhkhdilkbeaa
