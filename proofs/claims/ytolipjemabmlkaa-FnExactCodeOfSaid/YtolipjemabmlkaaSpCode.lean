/- Codes of graphs by the model. -/
import Derived.Test.YtolipjemabmlkaaCod
set_option linter.unusedSimpArgs false
set_option linter.unusedVariables false
set_option maxRecDepth 100000
namespace Go.Proofs.Ytolipjemabmlkaa
open Go.RowKit

def ordL (o : Nat → Nat) (S : Nat) : List Int := (List.range S).map (fun i => (o i : Int))
theorem ordL_len (o : Nat → Nat) (S : Nat) : (ordL o S).length = S := by simp [ordL]
theorem ordL_get (o : Nat → Nat) {S i : Nat} (h : i < S) : (ordL o S).getD i 0 = (o i : Int) := map_get _ h

set_option maxHeartbeats 3200000 in
theorem l08Code {lo hi lo1 hi1 : Nat} (S : Nat) (f : Nat → Nat → Int) (a : Option Addr) (c : Nat) (o : Nat → Nat) (a1 : Option Addr) (c1 : Nat) (w : World) (h : RdR lo hi w (.slice a S c) (tab S f)) (h1 : RdI lo1 hi1 w (.slice a1 S c1) (ordL o S)) (hS8 : S ≤ 8) (ho : ∀ i, i < S → o i < S) (hf : ∀ i j, I64 (f i j)) :
    Calls Try.prog 80 #[.slice a S c, .slice a1 S c1] w fun e w' => ∃ a' c', e = .returned (.slice a' (codeL S (fun i j => f (o i) (o j))).length c') ∧ OwI w.heap.size w'.heap.size w' (.slice a' (codeL S (fun i j => f (o i) (o j))).length c') (codeL S (fun i j => f (o i) (o j))) ∧ Below w.heap.size w w' := by
  obtain ⟨i0, hi', z0, z1, z2⟩ := info_parts Try.info2
  have HE := Lib.hid (fun i j (hi : i < S) (hj : j < S) => h.ent hi hj)
  have HOR := Lib.hid (fun i (hi : i < S) => h1.at (ordL_len o S) i hi)
  have HLT := Lib.hid (fun (p : Addr) (v : Value) (hc : w.cell? p = some v) => World.block_lt_of_cell? w p hc)
  have HOG := Lib.hid (fun i (hi : i < S) => show (ordL o S).getD i 0 = (o i : Int) ∧ o i < S from ⟨ordL_get o hi, ho i hi⟩)
  have HFI := Lib.hid (codeL_I64 (S := S) hS8 (fun i j => hf (o i) (o j)))
  have HCL := Lib.hid (show codeL S (fun i j => f (o i) (o j)) = (S : Int) :: cdT (fun i j => f (o i) (o j)) S from rfl)
  obtain ⟨F, hF⟩ : ∃ F : Nat → Nat → Int, F = fun i j => f (o i) (o j) := ⟨_, rfl⟩
  have HFF := Lib.hid (fun i j => show F i j = f (o i) (o j) by rw [hF])
  rw [← hF] at HFI HCL ⊢
  generalize codeL S F = CL at HFI HCL ⊢
  have hl := World.ownsRow_lit (base := w.heap.size) (e := 2) (size := 1) w #[.int .i64 (S : Int)] 1 (Nat.le_refl _) (by unfold maxLen; omega) rfl
  have hb := (Below.refl w.heap.size w).alloc (Nat.le_refl _) (.cells #[.int .i64 (S : Int)] 2)
  have HS := Lib.hid (⟨hl, hb⟩ : _ ∧ Below w.heap.size w (w.alloc (.cells #[.int .i64 (S : Int)] 2)))
  clear h h1 ho hf hF hl hb
  go_enter Try.func80, Try.ntmps80
  go_wp2
  generalize w.alloc (.cells #[.int .i64 (S : Int)] 2) = V at HS ⊢
  obtain ⟨G, hG⟩ : ∃ G, G = w.heap.size := ⟨_, rfl⟩
  rw [← hG] at HS HLT ⊢
  have HG := Lib.hid hG
  clear hG
  go_loopw [5, 6] (fun d v wr => ∃ (k q g cg : Nat) (xs : List Int), k ≤ S ∧ v = .int .i64 k ∧ Hid (xs = (S : Int) :: cdT F k ∧ q ≤ 1 + 20 * k) ∧ d = .slice (some ⟨g, 0, none⟩) q cg ∧ wr.ownsRow G 2 1 (.slice (some ⟨g, 0, none⟩) q cg) q (xs.map (Value.int .i64)) ∧ Below G w wr) (fun _ v _ => S - (intOf v).toNat)
  case atStart => exact ⟨0, 1, G, 1, [(S : Int)], Nat.zero_le _, rfl, Lib.hid ⟨rfl, by omega⟩, rfl, HS.out⟩
  case round =>
    clear HS
    obtain ⟨k, q, g, cg, xs, hk, rfl, HX, rfl, hown, hB⟩ := hrel
    obtain ⟨U, rfl⟩ : ∃ U, U = wr := ⟨_, rfl⟩
    by_cases hlt : k < S
    · have HP := Lib.hid (⟨by rw [cdR_0]; exact HX.out.1, by have := HX.out.2; omega⟩ : xs = (S : Int) :: cdR F k 0 ∧ q ≤ 1 + 20 * k + 0)
      have HQ := Lib.hid (⟨hown, hB⟩ : _ ∧ _)
      have hkS : (k : Int) < (S : Int) := by omega
      clear HX hown hB
      go_wp2
      go_loopw [5, 7] (fun d v wr => ∃ (m q g cg : Nat) (xs : List Int), m ≤ k + 1 ∧ v = .int .i64 m ∧ Hid (xs = (S : Int) :: cdR F k m ∧ q ≤ 1 + 20 * k + m) ∧ d = .slice (some ⟨g, 0, none⟩) q cg ∧ wr.ownsRow G 2 1 (.slice (some ⟨g, 0, none⟩) q cg) q (xs.map (Value.int .i64)) ∧ Below G w wr) (fun _ v _ => k + 1 - (intOf v).toNat)
      case atStart => exact ⟨0, q, g, cg, xs, Nat.zero_le _, rfl, HP, rfl, HQ.out⟩
      case round =>
        rename_i hrel
        clear HP HQ
        obtain ⟨m, q, g, cg, xs, hm, rfl, HX, rfl, hown, hB⟩ := hrel
        by_cases hlm : m ≤ k
        · have hmS : m < S := by omega
          have hB' := hB
          rw [HG.out] at hB'
          obtain ⟨ob, oo, rfl, g0⟩ := HOR.out k hlt
          obtain ⟨ob2, oo2, hee, g1⟩ := HOR.out m hmS
          simp only [Option.some.injEq, Addr.mk.injEq, and_true] at hee
          obtain ⟨rfl, rfl⟩ := hee
          obtain ⟨ogk, ok⟩ := HOG.out k hlt
          obtain ⟨ogm, om⟩ := HOG.out m hmS
          rw [ogk] at g0
          rw [ogm] at g1
          have hff := HFF.out k m
          obtain ⟨b, off, b', off', cb, rfl, g2, g3⟩ := HE.out (o k) (o m) ok om
          rw [← hff] at g3
          have n0 : ob < G := HLT.out _ _ g0
          have n2 : b < G := HLT.out _ _ g2
          have n3 : b' < G := HLT.out _ _ g3
          replace g0 := hB'.keep g0
          replace g1 := hB'.keep g1
          replace g2 := hB'.keep g2
          replace g3 := hB'.keep g3
          have hg0 := hown.lt g rfl
          have hst : (S : Int) :: cdR F k (m + 1) = xs ++ [F k m] := by rw [HX.out.1, cdR_step]; rfl
          have HST := Lib.hid hst
          have HQ := Lib.hid (show q + 1 ≤ 1 + 20 * k + (m + 1) by have := HX.out.2; omega)
          have hGw : G ≤ wr.heap.size := by omega
          have hq200 : q ≤ 200 := by have := HX.out.2; omega
          have ne0 : some ob ≠ some g := by simp; omega
          have ne2 : some b ≠ some g := by simp; omega
          have ne3 : some b' ≠ some g := by simp; omega
          have hm63 : q + 1 ≤ maxLen := by unfold maxLen; omega
          have hby : (q + 1) * 8 ≤ 140737488355328 := by omega
          generalize F k m = x at g3 hst HST
          generalize o k = ok1 at *
          generalize o m = om1 at *
          have ownD : wr.drew.ownsRow G 2 1 (.slice (some ⟨g, 0, none⟩) q cg) q (xs.map (Value.int .i64)) := ownsRow_chg hown ((Qt.refl wr).drew.chg 0 0) (fun _ _ => .inr (Nat.zero_le _))
          have hal := (Below.refl wr.drew.heap.size wr.drew).alloc (Nat.le_refl _) (.cells #[.int .i64 x] 2)
          have hal2 := (Below.refl wr.heap.size wr).alloc (Nat.le_refl _) (.cells #[.int .i64 x] 2)
          have d0 : wr.drew.cell? ⟨ob, oo + k, none⟩ = _ := g0
          have d1 : wr.drew.cell? ⟨ob, oo + m, none⟩ = _ := g1
          have d2 : wr.drew.cell? ⟨b, off + ok1, none⟩ = _ := g2
          have d3 : wr.drew.cell? ⟨b', off' + om1, none⟩ = _ := g3
          have HAL := Lib.hid (⟨hal.keep d0, hal.keep d1, hal.keep d2, hal.keep d3⟩ : _ ∧ _ ∧ _ ∧ _)
          have HNE := Lib.hid (⟨ne0, ne2, ne3⟩ : _ ∧ _ ∧ _)
          have HN := Lib.hid (⟨hGw, hq200, hg0, hm63, hby, hB⟩ : _ ∧ _ ∧ _ ∧ _ ∧ _ ∧ _)
          have hOW := Lib.hid (⟨ownD.alloc (.cells #[.int .i64 x] 2), news_one wr.drew 2 (.int .i64 x)⟩ : _ ∧ _)
          have hmk : (m : Int) ≤ (k : Int) := by omega
          have hokS : (ok1 : Int) < (S : Int) := by omega
          have homS : (om1 : Int) < (S : Int) := by omega
          have hmSi : (m : Int) < (S : Int) := by omega
          clear hB hB' hown n0 n2 n3 hst hGw hq200 hg0 hm63 hby ownD hal hal2 ne0 ne2 ne3 HX ok om ogk ogm hff
          go_wp2
          go_region_held3 (fun W' => W'.cell? ⟨ob, oo + k, none⟩ = some (.int .i64 (ok1 : Int)) ∧ W'.cell? ⟨ob, oo + m, none⟩ = some (.int .i64 (om1 : Int)) ∧ W'.cell? ⟨b, off + ok1, none⟩ = some (.slice (some ⟨b', off', none⟩) S cb) ∧ W'.cell? ⟨b', off' + om1, none⟩ = some (.int .i64 x))
            (first | (with_reducible exact ⟨g0, g1, g2, g3⟩) | (with_reducible exact ⟨d0, d1, d2, d3⟩) | (exact ⟨r0, r1, r2, r3⟩) | (exact HAL.out) | (trace_state; fail))
            (first | (refine step_append_lies _ rfl (.tmp 22) (.tmp 36) 26 rfl G 2 i0 (.int .i64 0) 1 8 Try.underlying26 hi' z0 z1 z2 rfl (by decide) (.slice (some ⟨g, 0, none⟩) q cg) q (xs.map (Value.int .i64)) (by simp [Act.eval, Act.put]) hOW.out.1 ⟨wr.drew.heap.size, 0, none⟩ 1 1 [.int .i64 x] (by simp [Act.eval, Act.put]) rfl hOW.out.2 (fun u hu => by simp at hu; subst hu; rfl) (by decide) HN.out.2.2.2.1 HN.out.2.2.2.2.1 (by have := HN.out.1; simp; omega) (wr.heap.size + 1) (by simp) ?_; intro g4 c4 w4 hown3 hgr hlie hlt3; have r0 := hgr.cell HAL.out.1 HNE.out.1; have r1 := hgr.cell HAL.out.2.1 HNE.out.1; have r2 := hgr.cell HAL.out.2.2.1 HNE.out.2.1; have r3 := hgr.cell HAL.out.2.2.2 HNE.out.2.2))
          all_goals
            have hb4 : Below G w w4 := ((HN.out.2.2.2.2.2).drew.alloc (by have := HN.out.1; show G ≤ wr.heap.size; omega) (.cells #[.int .i64 x] 2)).grown hgr (by have := HN.out.1; simp; omega) (fun q' hq => by
              have : g = q' := by simpa [Value.ownBlock] using hq
              have := HN.out.2.2.1; omega)
            rw [← List.map_singleton, ← List.map_append, ← HST.out] at hown3
            have HF := Lib.hid (⟨hown3, hb4⟩ : _ ∧ _)
            clear hown3 hb4 hgr hlie hlt3 r0 r1 r2 r3 g0 g1 g2 g3 d0 d1 d2 d3
            go_wp2
            go_roundw
            case rel => exact ⟨m+1, q+1, g4, c4, _, by omega, by go_num, Lib.hid ⟨rfl, HQ.out⟩, rfl, HF.out⟩
            case measure => simp [intOf]; omega
        · obtain rfl : m = k + 1 := by omega
          have HF := Lib.hid (⟨HX.out.1, by have := HX.out.2; omega, hown, hB⟩ : xs = (S : Int) :: cdT F (k + 1) ∧ q ≤ 1 + 20 * (k + 1) ∧ _ ∧ _)
          clear HX hown hB
          have hmk : ¬ ((k + 1 : Nat) : Int) ≤ (k : Int) := by omega
          go_wp2
          go_roundw
          case rel => exact ⟨k+1, q, g, cg, xs, by omega, by go_num, Lib.hid ⟨HF.out.1, HF.out.2.1⟩, rfl, HF.out.2.2⟩
          case measure => simp [intOf]; omega
    · obtain rfl : k = S := by omega
      have hx := HX.out.1
      rw [← HCL.out] at hx
      subst hx
      have hq200 : q ≤ 200 := by have := HX.out.2; omega
      have hO := OwI.mk hown (by omega) HFI.out
      have hlen : xs.length = q := by have := hown.1; simpa using this
      have HF := Lib.hid (⟨hO, hB, hlen⟩ : OwI G _ U (.slice (some ⟨g, 0, none⟩) q cg) xs ∧ _ ∧ _)
      clear hown hO hB hlen HX HCL hq200
      go_wp2
      go_ret
      rw [← HG.out]
      exact ⟨_, _, by rw [HF.out.2.2]; rfl, by rw [HF.out.2.2]; exact HF.out.1, HF.out.2.1⟩

set_option maxHeartbeats 3200000 in
theorem specCod {lo hi : Nat} (s : Int) (a : Option Addr) (n c : Nat) (xss : List (List Int)) (w : World) (h : RdR lo hi w (.slice a n c) xss) (hn : xss.length = n) :
    Calls Try.prog 34 #[.agg #[.int .i64 s, .slice a n c]] w fun e w' => ∃ a' c', e = .returned (.tuple #[.slice a' (cdOf s xss).1.length c', .int .i64 (cdOf s xss).2]) ∧ OwI w.heap.size w'.heap.size w' (.slice a' (cdOf s xss).1.length c') (cdOf s xss).1 ∧ Below w.heap.size w w' := by
  obtain ⟨i0, hi', z0, z1, z2⟩ := info_parts Try.info2
  have hb0 : ∀ o, Below w.heap.size w (w.alloc o) := fun o => (Below.refl _ _).alloc (Nat.le_refl _) o
  have HI := Lib.hid (fun W (hB : Below w.heap.size w W) => l01Is s a n c xss W (h.below hB) hn)
  cases hg : grB s xss with
  | true =>
    rw [hg] at HI
    have hg4 := grB_iff hg
    obtain ⟨S, hS⟩ : ∃ S : Nat, s = (S : Int) := ⟨s.toNat, by omega⟩
    subst hS
    have HR := Lib.hid (fun W (hB : Below w.heap.size w W) => l01Adjacency S a n c xss W (h.below hB) hn hg)
    have HN := Lib.hid hn
    have HT := Lib.hid (adZ_tab hg S)
    have HAT := Lib.hid (show tab S (fun i j => adS (pairs xss) xss.length i j) = tab S (adF xss) from rfl)
    have hS8 : S ≤ 8 := by omega
    have HC := Lib.hid (fun (lo1 hi1 lo2 hi2 : Nat) (a1 a2 : Option Addr) (c1 c2 : Nat) (W : World) (hW : RdR lo1 hi1 W (.slice a1 S c1) (tab S (adF xss))) (hW2 : RdI lo2 hi2 W (.slice a2 S c2) (ordL (fun i => i) S)) => l08Code S (adF xss) a1 c1 (fun i => i) a2 c2 W hW hW2 hS8 (fun i hi => hi) (adF_I64 hg))
    rw [cdOf_yes hg]
    have HOT := Lib.hid (fun k (hk : k < S) => show (ordL (fun i => i) S).take (k + 1) = (ordL (fun i => i) S).take k ++ [(k : Int)] by
      rw [List.take_add_one, List.getElem?_eq_getElem (by rw [ordL_len]; exact hk)]
      simp [ordL])
    have HOI := Lib.hid (show ∀ x ∈ ordL (fun i => i) S, I64 x from fun x hx => by
      obtain ⟨i, hi, rfl⟩ := List.mem_map.mp hx
      have : i < S := by simpa using hi
      show I64 (i : Int)
      unfold I64; omega)
    have HOL := Lib.hid (ordL_len (fun i => i) S)
    generalize adF xss = f at HAT HC ⊢
    generalize ordL (fun i => i) S = OL at HOT HOI HOL HC
    have HCF := Lib.hid (show codeL S (fun i j => f ((fun i => i) i) ((fun i => i) j)) = codeL S f from rfl)
    rw [HCF.out] at HC
    generalize codeL S f = CL at HC ⊢
    clear h hn hg hg4 HCF
    go_enter Try.func34, Try.ntmps34
    go_wp2_with fail
    refine calls_gen (fun W => Below w.heap.size w W ∧ W.cell? ⟨w.heap.size, 0, none⟩ = some (.int .i64 (S : Int)) ∧ W.cell? ⟨w.heap.size, 1, none⟩ = some (.slice a n c) ∧ w.heap.size < W.heap.size) ⟨hb0 _, by go_simp, by go_simp, by simp⟩ ?_
    rintro W ⟨hB, k0, k1, hz⟩
    refine (HI.out W hB).mono ?_
    rintro e w0 ⟨rfl, b0⟩
    replace hB := hB.next b0
    replace k0 := b0.keep k0
    replace k1 := b0.keep k1
    replace hz := Nat.lt_of_lt_of_le hz b0.size
    clear b0 HI
    have hl := World.ownsRow_lit (base := w0.heap.size) (e := 2) (size := 1) w0 #[] 0 (Nat.le_refl _) (by unfold maxLen; omega) rfl
    have hb := (Below.refl w0.heap.size w0).alloc (Nat.le_refl _) (.cells #[] 2)
    have HS := Lib.hid (⟨hl, hb⟩ : _ ∧ Below w0.heap.size w0 (w0.alloc (.cells #[] 2)))
    have HB := Lib.hid hB
    have HK := Lib.hid (⟨k0, k1⟩ : _ ∧ _)
    clear hl hb hB k1
    go_wp2
    generalize w0.alloc (.cells #[] 2) = V at HS ⊢
    obtain ⟨G, hG⟩ : ∃ G, G = w0.heap.size := ⟨_, rfl⟩
    obtain ⟨X, hX⟩ : ∃ X, X = w.heap.size := ⟨_, rfl⟩
    rw [← hG] at HS hz ⊢
    rw [← hX] at HK hz ⊢
    have HG := Lib.hid (⟨hG, hX⟩ : _ ∧ _)
    clear hG hX k0
    go_loopw [4, 5] (fun d v wr => ∃ (q g cg : Nat), q ≤ S ∧ v = .int .i64 q ∧ d = .slice (some ⟨g, 0, none⟩) q cg ∧ wr.ownsRow G 2 1 (.slice (some ⟨g, 0, none⟩) q cg) q ((OL.take q).map (Value.int .i64)) ∧ Below G w0 wr) (fun _ v _ => S - (intOf v).toNat)
    case atStart => exact ⟨0, G, 0, Nat.zero_le _, rfl, rfl, HS.out⟩
    case round =>
      clear HS
      obtain ⟨q, g, cg, hq, rfl, rfl, hown, hB⟩ := hrel
      have hB' := hB
      rw [HG.out.1] at hB'
      have k0 := hB'.keep HK.out.1
      by_cases hlq : q < S
      · have hst := HOT.out q hlq
        have hownV := hown.alloc (.cells #[.int .i64 (q : Int)] 2)
        have hnews := news_one wr 2 (.int .i64 (q : Int))
        have hs5 : G ≤ wr.heap.size := by have := hB'.size; have := HG.out.1; omega
        have hU2 := hB.alloc hs5 (.cells #[.int .i64 (q : Int)] 2)
        have hU2s := hU2.size
        have hgl := (hown.lt g rfl)
        have HU2 := Lib.hid (⟨hU2, hst, hgl, hs5, hS8⟩ : _ ∧ _ ∧ _ ∧ _ ∧ _)
        clear hst hown hB hB' hU2 hgl hs5 hU2s
        go_wp2_with (at_builtin; refine wpList_append_lies _ rfl _ _ 26 rfl G 2 i0 (.int .i64 0) 1 8 Try.underlying26 hi' z0 z1 z2 rfl (by decide) _ _ _ rfl hownV ⟨wr.heap.size, 0, none⟩ 1 1 [.int .i64 (q : Int)] rfl rfl ?da1 ?da2 (by decide) ?da3 ?da4 ?da5 _ rfl ?_)
        case da1 => exact hnews
        case da2 => first | (intro u hu; simp at hu; subst hu; rfl) | rfl | simp
        case da3 => unfold maxLen; omega
        case da4 => omega
        case da5 => have := HU2.out.2.2.2.1; simp; omega
        intro g4 c4 w4 hown3 hgr hlie hlt3
        replace hown3 : w4.ownsRow G 2 1 (.slice (some ⟨g4, 0, none⟩) (q + 1) c4) (q + 1) ((OL.take (q + 1)).map (Value.int .i64)) := by
          rw [HU2.out.2.1]
          simpa using hown3
        have hb4 := HU2.out.1.grown hgr (by have := HU2.out.2.2.2.1; simp; omega) (fun k hk => by
          have : g = k := by simpa [Value.ownBlock] using hk
          have := HU2.out.2.2.1; omega)
        have F := Lib.hid (⟨hown3, hb4⟩ : _ ∧ _)
        clear hown3 hb4 hgr hlie hownV hnews k0 HU2
        go_wp2
        go_roundw
        case rel => exact ⟨q+1, g4, c4, by omega, by go_num, rfl, F.out⟩
        case measure => simp [intOf]; omega
      · obtain rfl : q = S := by omega
        rw [List.take_of_length_le (by rw [HOL.out]; exact Nat.le_refl _)] at hown
        have hO := OwI.mk hown (by omega) HOI.out
        have k1 := hB'.keep HK.out.2
        have HO := Lib.hid (⟨hO.rd, HB.out.next hB'⟩ : RdI G wr.heap.size wr (.slice (some ⟨g, 0, none⟩) q cg) OL ∧ _)
        have HRR := Lib.hid (HR.out wr HO.out.2)
        clear hown hO hB hB' HR
        go_wp2_with fail
        refine HRR.out.mono ?_
        rintro e w1 ⟨a1, c1, rfl, o1, b1⟩
        have hot : RdR wr.heap.size w1.heap.size w1 (.slice a1 q c1) (tab q f) := by
          have := o1.rd
          rw [← HN.out, HT.out, HAT.out] at this
          exact this
        have HC1 := Lib.hid (HC.out _ _ _ _ a1 (some ⟨g, 0, none⟩) c1 cg w1 hot (HO.out.1.below b1))
        have HBB := Lib.hid (HO.out.2.next b1)
        clear o1 b1 hot HC HRR k0 k1
        go_wp2_with fail
        refine HC1.out.mono ?_
        rintro e w2 ⟨a2, c2, rfl, o2, b2⟩
        have HF := Lib.hid (⟨OwI.mono o2 HBB.out.size (Nat.le_refl _), HBB.out.next b2⟩ : _ ∧ _)
        clear o2 b2 HC1
        go_wp2
        go_ret2
        rw [HG.out.2]
        exact ⟨a2, c2, rfl, HF.out⟩
  | false =>
    rw [hg] at HI
    rw [cdOf_no hg]
    clear h hn hg
    go_enter Try.func34, Try.ntmps34
    go_wp2_with fail
    refine calls_gen (fun W => Below w.heap.size w W) (hb0 _) ?_
    rintro W hB
    refine (HI.out W hB).mono ?_
    rintro e w1 ⟨rfl, b1⟩
    replace hB := hB.next b1
    clear b1 HI
    go_wp2
    go_ret2
    exact ⟨none, 0, rfl, OwI.nil' _ _ _, hB⟩

end Go.Proofs.Ytolipjemabmlkaa
