/- The determinant modulo a prime, of the program. -/
import Derived.Test.YtolipjemabmlkaaResD
set_option linter.unusedSimpArgs false
set_option linter.unusedVariables false
set_option maxRecDepth 100000
namespace Go.Proofs.Ytolipjemabmlkaa
open Go.RowKit

/-- the determinant of the first r rows -/
def nowL (p : Int) (N : Nat) (f : Nat → Nat → Int) : Nat → List Int
  | 0 => [1]
  | r + 1 => (List.range (r + 2)).map (fun t => cvN p (nowL p N f r) (growK p N f r r) t (r + 1))
theorem nowL_len (p : Int) (N : Nat) (f : Nat → Nat → Int) : ∀ r, (nowL p N f r).length = r + 1
  | 0 => rfl
  | r + 1 => by simp [nowL]
theorem nowL_get {p : Int} {N : Nat} {f : Nat → Nat → Int} {r t : Nat} (h : t < r + 2) : (nowL p N f (r + 1)).getD t 0 = cvN p (nowL p N f r) (growK p N f r r) t (r + 1) := by
  simp [nowL, List.getD, h]
theorem nowL_in {p : Int} {N : Nat} {f : Nat → Nat → Int} (hp : 2 ≤ p) : ∀ r t, t < r + 1 → 0 ≤ (nowL p N f r).getD t 0 ∧ (nowL p N f r).getD t 0 < p
  | 0, t, ht => by
    obtain rfl : t = 0 := by omega
    show 0 ≤ (1 : Int) ∧ (1 : Int) < p
    omega
  | r + 1, t, ht => by rw [nowL_get (by omega)]; exact cvN_in hp _
theorem growK_in {p : Int} {N : Nat} {f : Nat → Nat → Int} {r : Nat} (hp : 2 ≤ p) : ∀ k j, j < 2 + k → 0 ≤ (growK p N f r k).getD j 0 ∧ (growK p N f r k).getD j 0 < p
  | 0, j, hj => by
    have : j = 0 ∨ j = 1 := by omega
    rcases this with rfl | rfl
    · show 0 ≤ (1 : Int) ∧ (1 : Int) < p
      omega
    · exact ⟨Int.emod_nonneg _ (by omega), Int.emod_lt_of_pos _ (by omega)⟩
  | k + 1, j, hj => by
    have hl := growK_len p N f r k
    by_cases e : j < 2 + k
    · have e1 : (growK p N f r (k + 1)).getD j 0 = (growK p N f r k).getD j 0 := by
        show (growK p N f r k ++ [_]).getD j 0 = _
        simp only [List.getD, List.getElem?_append, hl]
        rw [if_pos e]
      rw [e1]; exact growK_in hp k j e
    · have e1 : (growK p N f r (k + 1)).getD j 0 = (-(wsN p (colK p N f r k) (rowL p N f r) r)) % p := by
        have h2 : j - (growK p N f r k).length = 0 := by omega
        show (growK p N f r k ++ [_]).getD j 0 = _
        simp only [List.getD, List.getElem?_append, hl]
        rw [if_neg e]
        have h3 : j - (2 + k) = 0 := by omega
        rw [h3]; rfl
      rw [e1]; exact ⟨Int.emod_nonneg _ (by omega), Int.emod_lt_of_pos _ (by omega)⟩
theorem ext_getD {xs ys : List Int} {n : Nat} (h1 : xs.length = n) (h2 : ys.length = n) (h : ∀ t, t < n → xs.getD t 0 = ys.getD t 0) : xs = ys := by
  refine List.ext_getElem (by omega) fun t a b => ?_
  have := h t (by omega)
  simpa [List.getD, List.getElem?_eq_getElem a, List.getElem?_eq_getElem b] using this

set_option maxHeartbeats 6400000 in
theorem detM {lo hi : Nat} (p : Int) (N : Nat) (f : Nat → Nat → Int) (a : Option Addr) (c : Nat) (w : World) (h : RdR lo hi w (.slice a N c) (tab N f))
    (hf : ∀ i j, i < N → j < N → -1000000000000 ≤ f i j ∧ f i j ≤ 1000000000000) (hN : N ≤ 20) (hp : 2 ≤ p ∧ p ≤ 10007) :
    Calls Try.prog 71 #[.int .i64 p, .slice a N c] w fun e w' => ∃ a' c', e = .returned (.slice a' (trim (nowL p N f N)).length c') ∧ OwI w.heap.size w'.heap.size w' (.slice a' (trim (nowL p N f N)).length c') (trim (nowL p N f N)) ∧ Below w.heap.size w w' := by
  have hp1 : 1 ≤ p ∧ p ≤ 10007 := by omega
  have HT := Lib.hid (residueTable p N f a c w h hf hN hp1)
  clear h hf
  go_enter Try.func71, Try.ntmps71
  go_wp2_with fail
  refine HT.out.mono ?_
  rintro e w1 ⟨ta, tc, rfl, htc, htm, hT, b1⟩
  clear HT
  obtain ⟨M, hM⟩ : ∃ M, M = N * N := ⟨_, rfl⟩
  rw [← hM]
  have HM := Lib.hid hM
  rw [← hM] at htc
  have HTC := Lib.hid (⟨htc, htm⟩ : _ ∧ _)
  clear hM htc htm
  have hA : Below w1.heap.size w1 (w1.alloc (.cells #[.int .i64 (N : Int), .slice ta M tc] 103)) := (Below.refl _ _).alloc (Nat.le_refl _) _
  have k0 : (w1.alloc (.cells #[.int .i64 (N : Int), .slice ta M tc] 103)).cell? ⟨w1.heap.size, 0, none⟩ = some (.int .i64 (N : Int)) := by go_simp
  have k1 : (w1.alloc (.cells #[.int .i64 (N : Int), .slice ta M tc] 103)).cell? ⟨w1.heap.size, 1, none⟩ = some (.slice ta M tc) := by go_simp
  have HF := Lib.hid (⟨hT.below hA, b1.next hA, k0, k1⟩ : _ ∧ _ ∧ _ ∧ _)
  clear hT b1 hA k0 k1
  go_wp2_with fail
  obtain ⟨R, hR⟩ : ∃ R, R = w1.heap.size := ⟨_, rfl⟩
  rw [← hR] at HF ⊢
  clear hR
  generalize w1.alloc (.cells #[.int .i64 (N : Int), .slice ta M tc] 103) = V at HF ⊢
  refine (resIn 1 p V (by omega) hp).mono ?_
  rintro e w2 ⟨rfl, b2⟩
  obtain ⟨hT, hB, k0, k1⟩ := HF.out
  clear HF
  have hA : Below w2.heap.size w2 (w2.alloc (.cells #[.int .i64 1, .int .i64 p] 106)) := (Below.refl _ _).alloc (Nat.le_refl _) _
  have HD0 : Hid (RdP (w2.alloc (.cells #[.int .i64 1, .int .i64 p] 106)) (some ⟨w2.heap.size, 0, none⟩) [(1, p)]) := Lib.hid (fun j hj => by
    obtain rfl : j = 0 := by simp at hj; exact hj
    exact ⟨w2.heap.size, 0, rfl, by go_simp, by go_simp⟩)
  have HF := Lib.hid (⟨(hT.below b2).below hA, (hB.next b2).next hA, hA.keep (b2.keep k0), hA.keep (b2.keep k1)⟩ : _ ∧ _ ∧ _ ∧ _)
  have q0 := (HF.out.2.2).1
  clear hT hB k0 k1 b2 hA
  go_wp2_with fail
  generalize w2.alloc (.cells #[.int .i64 1, .int .i64 p] 106) = V1 at *
  generalize w2.heap.size = G0 at *
  clear q0
  go_loopw [6, 16] (fun d v wr => ∃ (r : Nat) (da : Option Addr) (dc : Nat) (es : List (Int × Int)), r ≤ N ∧ v = .int .i64 r ∧ d = .slice da (r + 1) dc ∧ Hid (es.length = r + 1 ∧ (∀ i, i < r + 1 → (es.getD i (0, 0)).1 = (nowL p N f r).getD i 0 ∧ GdP p (es.getD i (0, 0)))) ∧ RdP wr da es ∧ RdT wr p N f ta ∧ Below w.heap.size w wr ∧ wr.cell? ⟨R, 0, none⟩ = some (.int .i64 (N : Int)) ∧ wr.cell? ⟨R, 1, none⟩ = some (.slice ta M tc)) (fun _ v _ => N - (intOf v).toNat)
  case atStart => exact ⟨0, _, _, [(1, p)], Nat.zero_le _, rfl, rfl, Lib.hid ⟨rfl, fun i hi => by
    obtain rfl : i = 0 := by omega
    exact ⟨rfl, .inr rfl⟩⟩, HD0.out, HF.out⟩
  case round =>
    clear HF HD0
    obtain ⟨r, da, dc, es, hr, rfl, rfl, HE, hD, hT, hB, k0, k1⟩ := hrel
    by_cases hlt : r < N
    · have HGR := Lib.hid (growM p N f ta tc r wr hT (by rw [← HM.out]; exact HTC.out.1) HTC.out.2 hN hlt hp)
      rw [← HM.out] at HGR
      have HK := Lib.hid (⟨hD, hT, hB, k0, k1⟩ : _ ∧ _ ∧ _ ∧ _ ∧ _)
      clear hD hT hB
      go_wp2_with fail
      refine HGR.out.mono ?_
      rintro e w3 ⟨g, cg, rfl, hg, b3⟩
      have hg' := hg
      have hyr : RdP w3 (some ⟨g, 0, none⟩) (rp p (growK p N f r r)) := fun j hj => by
        rw [rp_len, growK_len] at hj
        obtain ⟨g1, g2⟩ := flat_getE (rp p (growK p N f r r)) j (by rw [rp_len, growK_len]; exact hj)
        refine ⟨g, 0, rfl, ?_, ?_⟩
        · rw [Nat.zero_add]; exact (World.ownsRow.cellAt hg' _ (by omega)).trans g1
        · rw [Nat.zero_add]; exact (World.ownsRow.cellAt hg' _ (by omega)).trans g2
      have HPT := Lib.hid (pTimes p es (nowL p N f r) (growK p N f r r) da (r + 1) dc (some ⟨g, 0, none⟩) (2 + r) cg w3 (HK.out.1.below b3) HE.out.1 HE.out.2 hyr (growK_len p N f r r) (by omega) (by omega) (nowL_in hp.1 r) (growK_in hp.1 r) hp)
      have hLe : r + 1 + (2 + r) - 1 = 2 * r + 2 := by omega
      rw [hLe] at HPT
      have HB3 := Lib.hid b3
      obtain ⟨L, hL⟩ : ∃ L, L = 2 * r + 2 := ⟨_, rfl⟩
      rw [← hL] at HPT
      have hL2 : r + 2 ≤ L := by omega
      have hL42 : L ≤ 42 := by omega
      clear hg hg' hyr b3 HGR hLe hL
      go_wp2_with fail
      refine HPT.out.mono ?_
      rintro e w4 ⟨g4, fs, rfl, hfs, hown4, b4⟩
      have hlf := hfs.len
      have HN : Hid ((fs.take (r + 1 + 1)).length = r + 1 + 1 ∧ (∀ i, i < r + 1 + 1 → ((fs.take (r + 1 + 1)).getD i (0, 0)).1 = (nowL p N f (r + 1)).getD i 0 ∧ GdP p ((fs.take (r + 1 + 1)).getD i (0, 0)))) := Lib.hid ⟨by rw [List.length_take]; omega, fun i hi => by
        have e1 : (fs.take (r + 1 + 1)).getD i (0, 0) = fs.getD i (0, 0) := by simp [List.getD, List.getElem?_take, hi]
        rw [e1, nowL_get (by omega), hfs.val i (by omega), if_neg (by omega)]
        exact ⟨rfl, hfs.gd i (by omega)⟩⟩
      have HRD : Hid (RdP w4 (some ⟨g4, 0, none⟩) (fs.take (r + 1 + 1))) := Lib.hid (fun j hj => by
        rw [HN.out.1] at hj
        have e1 : (fs.take (r + 1 + 1)).getD j (0, 0) = fs.getD j (0, 0) := by simp [List.getD, List.getElem?_take, hj]
        obtain ⟨g1, g2⟩ := flat_getE fs j (by omega)
        rw [e1]
        refine ⟨g4, 0, rfl, ?_, ?_⟩
        · rw [Nat.zero_add]; exact (World.ownsRow.cellAt hown4 _ (by omega)).trans g1
        · rw [Nat.zero_add]; exact (World.ownsRow.cellAt hown4 _ (by omega)).trans g2)
      have HF : Hid (RdT w4 p N f ta ∧ Below w.heap.size w w4 ∧ w4.cell? ⟨R, 0, none⟩ = some (.int .i64 (N : Int)) ∧ w4.cell? ⟨R, 1, none⟩ = some (.slice ta M tc)) := Lib.hid (by
        obtain ⟨_, p2, p3, p4, p5⟩ := HK.out
        have bb := HB3.out.next b4
        exact ⟨p2.below bb, p3.next bb, bb.keep p4, bb.keep p5⟩)
      have s1 : IntKind.i64.wrap ((r : Int) + 2) = ((r + 1 + 1 : Nat) : Int) := by rw [show (r : Int) + 2 = ((r + 1 + 1 : Nat) : Int) by omega]; exact IntWalk.i64_in _ (by omega)
      have s2 : wrap64 ((r : Int) + 2) = ((r + 1 + 1 : Nat) : Int) := by rw [show (r : Int) + 2 = ((r + 1 + 1 : Nat) : Int) by omega]; exact IntWalk.wrap64_in _ (by clear s1; omega)
      have s3 : ((r + 1 + 1 : Nat) : Int) ≤ (L : Int) := by clear s1 s2; omega
      have s4 : (0 : Int) ≤ ((r + 1 + 1 : Nat) : Int) := by clear s1 s2; omega
      clear hfs hown4 b4 HB3 HPT hlf k0 k1
      obtain ⟨Q, hQ⟩ : ∃ Q, Q = r + 1 + 1 := ⟨_, rfl⟩
      rw [← hQ] at s1 s2 s3 s4
      have HQ := Lib.hid hQ
      clear hQ
      go_wp2
      go_roundw
      case rel => exact ⟨r+1, _, _, _, by omega, by go_num, by rw [HQ.out], HN, HRD.out, HF.out⟩
      case measure => clear s1 s2; simp [intOf]; omega
    · obtain rfl : r = N := by omega
      have HRO := Lib.hid (residuesOf es da (r + 1) dc wr hD HE.out.1 (by omega) (fun e he => by
        obtain ⟨i, hi, rfl⟩ := List.getElem_of_mem he
        have h1 := (HE.out.2 i (by have := HE.out.1; omega)).1
        have e1 : es.getD i (0, 0) = es[i] := by simp [List.getD, List.getElem?_eq_getElem hi]
        rw [e1] at h1
        have h2 := nowL_in (N := r) (f := f) hp.1 r i (by have := HE.out.1; omega)
        rw [h1]; unfold I64; omega))
      have hmp : es.map Prod.fst = nowL p r f r := ext_getD (n := r + 1) (by rw [List.length_map]; exact HE.out.1) (nowL_len p r f r) (fun t ht => by
        rw [← (HE.out.2 t ht).1]
        have : t < es.length := by have := HE.out.1; omega
        simp [List.getD, List.getElem?_eq_getElem this])
      rw [hmp] at HRO
      have HB := Lib.hid hB
      clear hD hT hB k0 k1 hmp
      go_wp2_with fail
      refine HRO.out.mono ?_
      rintro e w5 ⟨rfl, o5, b5⟩
      have HWZ := Lib.hid (withoutZeros wr.heap.size (r + 1) (r + 1) (nowL p r f r) w5 o5 (nowL_len p r f r) (by omega) (Nat.le_refl _))
      have HB5 := Lib.hid (⟨HB.out.next b5, HB.out.size⟩ : _ ∧ _)
      clear HRO o5 b5
      go_wp2_with fail
      refine HWZ.out.mono ?_
      rintro e w6 ⟨⟨a6, rfl, o6⟩, q6⟩
      have hsz := q6.below.size
      have HO := Lib.hid (⟨OwI.mono o6 HB5.out.2 hsz, HB5.out.1.qt q6⟩ : _ ∧ _)
      clear o6 q6 HWZ hsz
      go_wp2
      go_ret
      exact ⟨a6, r + 1, rfl, HO.out⟩

end Go.Proofs.Ytolipjemabmlkaa
