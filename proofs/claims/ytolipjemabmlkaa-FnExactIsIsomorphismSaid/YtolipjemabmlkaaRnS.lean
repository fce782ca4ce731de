/- RenumberGraph of the model. -/
import Derived.Test.YtolipjemabmlkaaMpS
import Derived.Test.YtolipjemabmlkaaCoreB
import Derived.Test.YtolipjemabmlkaaCpl
import Derived.Test.YtolipjemabmlkaaCoreF
import Derived.Deep.RegionLaw
set_option linter.unusedSimpArgs false
set_option linter.unusedVariables false
set_option maxRecDepth 100000
namespace Go.Proofs.Ytolipjemabmlkaa
open Go.RowKit

/-- the edges, renumbered -/
def rnE (xs : List Int) (xss : List (List Int)) : List (Int × Int) := (pairs xss).map (fun p => (xs.getD p.1.toNat 0, xs.getD p.2.toNat 0))
theorem rnE_len (xs : List Int) (xss : List (List Int)) : (rnE xs xss).length = xss.length := by simp [rnE, pairs]
def rnR (xs : List Int) (xss : List (List Int)) : List (List Int) := unp (rnE xs xss)
theorem rnR_len (xs : List Int) (xss : List (List Int)) : (rnR xs xss).length = xss.length := by unfold rnR; rw [unp_len, rnE_len]
theorem rnR_get {xs : List Int} {xss : List (List Int)} {k : Nat} (hk : k < xss.length) : (rnR xs xss).getD k [] = [xs.getD ((xss.getD k []).getD 0 0).toNat 0, xs.getD ((xss.getD k []).getD 1 0).toNat 0] := by
  unfold rnR unp rnE pairs
  simp [List.getD, hk]
def rnOf (s : Int) (xss : List (List Int)) (xs : List Int) : (Int × List (List Int)) × Int := if grB s xss = true then (if permB s xs = true then ((s, rnR xs xss), 0) else ((0, []), 2)) else ((0, []), 1)
theorem rnOf_lens (s : Int) (xss : List (List Int)) (xs : List Int) : lens (rnOf s xss xs).1.2 ≤ 1000 := by
  unfold rnOf
  split
  · rename_i hg
    split
    · show lens (rnR xs xss) ≤ 1000
      unfold rnR
      rw [unp_lensS, rnE_len]
      have := grB_iff hg
      omega
    · simp [lens]
  · simp [lens]

theorem snocCr {W0 w1 w3 : World} {o : Obj} {g : Nat} (hb : Below W0.heap.size W0 w1.drew) (hgr : (w1.alloc o).drew.grownBy w3 (some g)) : Chg g (g + 1) W0 w3 := snocC (w := w1.drew) (o := o) hb hgr
theorem copy_closeR {G x g k c' g2 c3 hi : Nat} {wr w1 w3 : World} {o : Obj} {rvs : List Value} {xs : List (List Int)} {rv : Value} {ys : List Int} (HP : OwP G x wr g k c' rvs xs) (hx : x < wr.heap.size) (bb : Below wr.heap.size wr w1.drew) (o2 : OwI wr.heap.size hi w1.drew rv ys)
    (hown : w3.ownsRow G 26 1 (.slice (some ⟨g2, 0, none⟩) (k + 1) c3) (k + 1) (rvs ++ [rv])) (hgr : (w1.alloc o).drew.grownBy w3 (some g)) (hlie : some g = some g2 ∨ g2 = (w1.alloc o).drew.heap.size) (v : Value) :
    OwP G x (w3.setCell ⟨x, 1, none⟩ v) g2 (k + 1) c3 (rvs ++ [rv]) (xs ++ [ys]) := copy_close (w1 := w1.drew) (o := o) HP hx bb o2 hown hgr hlie v
theorem rn_step {B R G x g : Nat} {s : Int} {w wr w3 : World} {V0 V1 : Value} (h1 : B < R) (h2 : R < G) (h3 : G < x) (h4 : G ≤ g) (hgx : x < g ∨ g + 1 ≤ x) (hch : Chg g (g + 1) wr w3) (hB : Below B w wr) (hx : x < wr.heap.size)
    (hf : wr.cell? ⟨B, 1, none⟩ = some V0 ∧ wr.cell? ⟨R, 0, none⟩ = some (.int .i64 0) ∧ wr.cell? ⟨R, 1, none⟩ = some (.slice none 0 0) ∧ wr.frozen? ⟨R, 0, none⟩ = false ∧ wr.frozen? ⟨R, 1, none⟩ = false ∧ wr.cell? ⟨x, 0, none⟩ = some (.int .i64 s))
    (y5 : w3.cell? ⟨x, 1, none⟩ = some V1) (yf5 : w3.frozen? ⟨x, 1, none⟩ = false) (v : Value) :
    Below B w (w3.setCell ⟨x, 1, none⟩ v) ∧ x < (w3.setCell ⟨x, 1, none⟩ v).heap.size ∧ (w3.setCell ⟨x, 1, none⟩ v).cell? ⟨B, 1, none⟩ = some V0 ∧ (w3.setCell ⟨x, 1, none⟩ v).cell? ⟨R, 0, none⟩ = some (.int .i64 0) ∧ (w3.setCell ⟨x, 1, none⟩ v).cell? ⟨R, 1, none⟩ = some (.slice none 0 0) ∧ (w3.setCell ⟨x, 1, none⟩ v).frozen? ⟨R, 0, none⟩ = false ∧ (w3.setCell ⟨x, 1, none⟩ v).frozen? ⟨R, 1, none⟩ = false ∧ (w3.setCell ⟨x, 1, none⟩ v).cell? ⟨x, 0, none⟩ = some (.int .i64 s) ∧ (w3.setCell ⟨x, 1, none⟩ v).cell? ⟨x, 1, none⟩ = some v ∧ (w3.setCell ⟨x, 1, none⟩ v).frozen? ⟨x, 1, none⟩ = false := by
  obtain ⟨p1, p2, p3, q2, q3, p4⟩ := hf
  have hbx : Chg x (x+1) w3 (w3.setCell ⟨x, 1, none⟩ v) := (Chg.refl x (x+1) _).setCell (p := ⟨x, 1, none⟩) ⟨Nat.le_refl _, Nat.lt_succ_self _⟩ _
  have hsz3 := hch.size
  have z6 := hbx.size
  have hbs := hB.size
  refine ⟨(hB.chgn hch (by omega) (by omega)).chgn hbx (by omega) (by omega), by omega, ?_, ?_, ?_, ?_, ?_, ?_, ?_, ?_⟩
  · exact hbx.cell (hch.cell p1 (show B < g ∨ _ by left; omega)) (show B < x ∨ _ by left; omega)
  · exact hbx.cell (hch.cell p2 (show R < g ∨ _ by left; omega)) (show R < x ∨ _ by left; omega)
  · exact hbx.cell (hch.cell p3 (show R < g ∨ _ by left; omega)) (show R < x ∨ _ by left; omega)
  · exact hbx.frozen (show R < w3.heap.size by omega) (show R < x ∨ _ by left; omega) (hch.frozen (show R < wr.heap.size by omega) (show R < g ∨ _ by left; omega) q2)
  · exact hbx.frozen (show R < w3.heap.size by omega) (show R < x ∨ _ by left; omega) (hch.frozen (show R < wr.heap.size by omega) (show R < g ∨ _ by left; omega) q3)
  · rw [World.cell?_setCell_other _ _ _ _ (by simp)]
    exact hch.cell p4 hgx
  · exact World.cell?_setCell_same w3 ⟨x, 1, none⟩ v y5
  · exact (World.frozen?_setCell (w := w3) (a := ⟨x, 1, none⟩) (v := v) (b := ⟨x, 1, none⟩)).trans yf5

set_option maxHeartbeats 6400000 in
theorem l08Renumber {lo hi lo1 hi1 : Nat} (S : Nat) (a : Option Addr) (n c : Nat) (xss : List (List Int)) (a1 : Option Addr) (n1 c1 : Nat) (xs : List Int) (w : World) (h : RdR lo hi w (.slice a n c) xss) (hn : xss.length = n) (h1 : RdI lo1 hi1 w (.slice a1 n1 c1) xs) (hl : xs.length = n1) (hg : grB (S : Int) xss = true) (hp : permB (S : Int) xs = true) :
    Calls Try.prog 76 #[.agg #[.int .i64 (S : Int), .slice a n c], .slice a1 n1 c1] w fun e w' => ∃ a' c', e = .returned (.agg #[.int .i64 (S : Int), .slice a' (rnR xs xss).length c']) ∧ OwR w.heap.size w'.heap.size w' (.slice a' (rnR xs xss).length c') (rnR xs xss) ∧ Below w.heap.size w w' := by
  obtain ⟨i0, hi', z0, z1, z2⟩ := info_parts Try.info26
  have hg4 := grB_iff hg
  have hn10 : n ≤ 10 := by omega
  have hpl := permB_len hp
  have hnS : n1 = S := by omega
  have HE := Lib.hid (fun k (hk : k < n) => show (xss.getD k []).length = 2 ∧ ∃ p q : Nat, (xss.getD k []).getD 0 0 = (p : Int) ∧ (xss.getD k []).getD 1 0 = (q : Int) ∧ p < n1 ∧ q < n1 by
    obtain ⟨q1, q2, q3, q4, q5⟩ := hg4.2.2.2 k (by omega)
    exact ⟨q1, _, _, (Int.toNat_of_nonneg q2).symm, (Int.toNat_of_nonneg q4).symm, by omega, by omega⟩)
  have HXI := Lib.hid (fun k (hk : k < n1) => show I64 (xs.getD k 0) by
    have := permB_in hp k (by omega)
    unfold inR at this
    simp only [Bool.and_eq_true, decide_eq_true_eq] at this
    unfold I64
    omega)
  have HRG := Lib.hid (fun k (hk : k < n) => rnR_get (xs := xs) (xss := xss) (show k < xss.length by omega))
  have HRL := Lib.hid (show (rnR xs xss).length = n by rw [rnR_len]; exact hn)
  have HL := Lib.hid (h1.at hl)
  have HC := Lib.hid (h.at hn)
  rw [HRL.out]
  generalize rnR xs xss = E at *
  clear hn h h1 hl hg hp hg4 hpl hnS
  have hlit : ((w.alloc (.cells #[.int .i64 (S : Int), .slice a n c] 29)).alloc (.cells #[.int .i64 0, .slice none 0 0] 29)).heap.size = w.heap.size + 1 + 1 := by simp
  have hl0 := World.ownsRow_lit (base := w.heap.size + 1 + 1) (e := 26) (size := 1) ((w.alloc (.cells #[.int .i64 (S : Int), .slice a n c] 29)).alloc (.cells #[.int .i64 0, .slice none 0 0] 29)) #[] 0 (by rw [hlit]; exact Nat.le_refl _) (by unfold maxLen; omega) rfl
  rw [hlit] at hl0
  have hl1 := hl0.alloc (.cells #[.int .i64 (S : Int), .slice (some ⟨w.heap.size + 1 + 1, 0, none⟩) 0 0] 29)
  have HLL := Lib.hid hl1
  clear hl0 hlit hl1
  go_enter Try.func76, Try.ntmps76
  go_wp2
  obtain ⟨x, hx⟩ : ∃ x, x = w.heap.size + 1 + 1 + 1 := ⟨_, rfl⟩
  obtain ⟨R, hR⟩ : ∃ R, R = w.heap.size + 1 := ⟨_, rfl⟩
  obtain ⟨G, hG⟩ : ∃ G, G = w.heap.size + 1 + 1 := ⟨_, rfl⟩
  rw [← hG] at HLL
  rw [← hx, ← hG, ← hR]
  have hord : w.heap.size < R ∧ R < G ∧ G < x := by omega
  have HXE := Lib.hid (⟨hx, hR, hG⟩ : _ ∧ _ ∧ _)
  clear hx hR hG
  go_loopw [6] (fun i wr => ∃ (k g c' : Nat) (rvs : List Value), k ≤ n ∧ i = .int .i64 k ∧ OwP G x wr g k c' rvs (E.take k) ∧ Below w.heap.size w wr ∧ x < wr.heap.size ∧
    wr.cell? ⟨w.heap.size, 1, none⟩ = some (.slice a n c) ∧ wr.cell? ⟨R, 0, none⟩ = some (.int .i64 0) ∧ wr.cell? ⟨R, 1, none⟩ = some (.slice none 0 0) ∧ wr.frozen? ⟨R, 0, none⟩ = false ∧ wr.frozen? ⟨R, 1, none⟩ = false ∧
    wr.cell? ⟨x, 0, none⟩ = some (.int .i64 (S : Int)) ∧ wr.cell? ⟨x, 1, none⟩ = some (.slice (some ⟨g, 0, none⟩) k c') ∧ wr.frozen? ⟨x, 1, none⟩ = false) (fun i _ => n - (intOf i).toNat)
  case atStart =>
    obtain ⟨e1, e2, e3⟩ := HXE.out
    refine ⟨0, G, 0, [], Nat.zero_le _, rfl, OwP.empty HLL.out (by omega), ?_, ?_, ?_, ?_, ?_, ?_, ?_, ?_, ?_, ?_⟩
    · exact ((((Below.refl _ _).alloc (Nat.le_refl _) _).alloc (by simp) _).alloc (by simp; omega) _).alloc (by simp; omega) _
    · rw [e1]; simp
    · go_simp
    · rw [e2]; go_simp
    · rw [e2]; go_simp
    · rw [e2]; go_simp
    · rw [e2]; go_simp
    · rw [e1]; go_simp
    · rw [e1, e3]; go_simp
    · rw [e1]; go_simp
  case round =>
    obtain ⟨k, g, c', rvs, hk, rfl, hP, hB, hxz, k1, k2, k3, f2, f3, k4, k5, f5⟩ := hrel
    by_cases hlt : k < n
    · obtain ⟨b, off, rv, rfl, h1, r1⟩ := HC.out k hlt
      obtain ⟨e2l, p, q, ep, eq, hp1, hq1⟩ := HE.out k hlt
      obtain ⟨b', off', cap', rfl, g1, g2⟩ := r1.two e2l
      obtain ⟨lb, loff, rfl, l1⟩ := HL.out p hp1
      obtain ⟨lb', loff', hle, l2⟩ := HL.out q hq1
      simp only [Option.some.injEq, Addr.mk.injEq, and_true] at hle
      obtain ⟨rfl, rfl⟩ := hle
      have hI1 := HXI.out p hp1
      have hI2 := HXI.out q hq1
      have hget := HRG.out k hlt
      rw [ep, eq, Int.toNat_natCast, Int.toNat_natCast] at hget
      rw [ep] at g1
      rw [eq] at g2
      generalize xs.getD p 0 = x0 at l1 hI1 hget
      generalize xs.getD q 0 = x1 at l2 hI2 hget
      have L2 := World.block_lt_of_cell? w _ h1
      have L3 := World.block_lt_of_cell? w _ g1
      have L4 := World.block_lt_of_cell? w _ l1
      replace h1 := hB.keep h1
      replace g1 := hB.keep g1
      replace g2 := hB.keep g2
      replace l1 := hB.keep l1
      replace l2 := hB.keep l2
      have hlt' : k < E.length := by rw [HRL.out]; exact hlt
      have hst := take_snocR hlt'
      rw [hget] at hst
      have HST := Lib.hid hst
      have HP := Lib.hid hP
      have HB := Lib.hid hB
      have HF := Lib.hid (⟨k1, k2, k3, f2, f3, k4⟩ : _ ∧ _ ∧ _ ∧ _ ∧ _ ∧ _)
      have hgl := hP.lt
      have hgx := hP.exg
      have hp0 : (0 : Int) ≤ (p : Int) ∧ (p : Int) < (n1 : Int) := by omega
      have hq0 : (0 : Int) ≤ (q : Int) ∧ (q : Int) < (n1 : Int) := by omega
      have hkn : (k : Int) < (n : Int) := by omega
      have hVB : Below wr.heap.size wr wr.drew := (Qt.refl wr).drew.below
      have hAB : Below wr.heap.size wr (wr.alloc (.cells #[.int .i64 x0, .int .i64 x1] 2)) := (Below.refl _ _).alloc (Nat.le_refl _) _
      have hAC : Below wr.heap.size wr ((wr.alloc (.cells #[.int .i64 x0, .int .i64 x1] 2)).alloc (.cells #[.slice (some ⟨wr.heap.size, 0, none⟩) 2 2] 26)) := hAB.alloc hAB.size _
      have hABd : Below wr.heap.size wr (wr.alloc (.cells #[.int .i64 x0, .int .i64 x1] 2)).drew := hAB.qt (Qt.refl _).drew
      have hACd : Below wr.heap.size wr ((wr.alloc (.cells #[.int .i64 x0, .int .i64 x1] 2)).alloc (.cells #[.slice (some ⟨wr.heap.size, 0, none⟩) 2 2] 26)).drew := hAC.qt (Qt.refl _).drew
      have a1 := hVB.keep k1
      have a4 := hVB.keep h1
      have a5 := hVB.keep g1
      have a6 := hVB.keep g2
      have a7 := hVB.keep l1
      have a8 := hVB.keep l2
      have b0 := k5
      have b1 := hVB.keep k5
      have b2 := hAB.keep k5
      have b3 := hAC.keep k5
      have b4 := hABd.keep k5
      have b5 := hACd.keep k5
      have bf := f5
      have hown1 := ownsRow_chg hP.out (hACd.chg 0 0) (fun _ _ => .inr (Nat.zero_le _))
      have hnews : ∀ (j : Nat) (u : Value), [Value.slice (some ⟨wr.heap.size, 0, none⟩) 2 2][j]? = some u → ((wr.alloc (.cells #[.int .i64 x0, .int .i64 x1] 2)).alloc (.cells #[.slice (some ⟨wr.heap.size, 0, none⟩) 2 2] 26)).drew.cell? (({ block := wr.heap.size + 1, off := 0 } : Addr).add j) = some u := by
        have := news_one (wr.alloc (.cells #[.int .i64 x0, .int .i64 x1] 2)) 26 (.slice (some ⟨wr.heap.size, 0, none⟩) 2 2)
        have hsz : (wr.alloc (.cells #[.int .i64 x0, .int .i64 x1] 2)).heap.size = wr.heap.size + 1 := by simp
        rw [hsz] at this
        exact this
      have hone : ∀ u ∈ [Value.slice (some ⟨wr.heap.size, 0, none⟩) 2 2], u.oneCell' = true := fun u hu => by simp at hu; subst hu; rfl
      have hbase : G ≤ ((wr.alloc (.cells #[.int .i64 x0, .int .i64 x1] 2)).alloc (.cells #[.slice (some ⟨wr.heap.size, 0, none⟩) 2 2] 26)).drew.heap.size := by have := hACd.size; omega
      have hm63 : k + 1 ≤ maxLen := by unfold maxLen; omega
      have hby : (k + 1) * 24 ≤ 140737488355328 := by omega
      have hgxx : x < g ∨ g + 1 ≤ x := by omega
      have hrow := (OwI.two (lo := wr.heap.size) (w := wr) hI1 hI2 (Nat.le_refl wr.heap.size)).qt (Qt.refl _).drew
      have HAB := Lib.hid (⟨hABd, hrow, hACd⟩ : _ ∧ _ ∧ _)
      have HS := Lib.hid (show ∀ W' : World, (∀ b o v, b < G → wr.cell? ⟨b, o, none⟩ = some v → W'.cell? ⟨b, o, none⟩ = some v) → (W'.cell? ⟨w.heap.size, 1, none⟩ = some (.slice (some ⟨b, off, none⟩) n c) ∧ W'.cell? ⟨b, off + k, none⟩ = some (.slice (some ⟨b', off', none⟩) 2 cap') ∧ W'.cell? ⟨b', off', none⟩ = some (.int .i64 (p : Int)) ∧ W'.cell? ⟨b', off' + 1, none⟩ = some (.int .i64 (q : Int)) ∧ W'.cell? ⟨lb, loff + p, none⟩ = some (.int .i64 x0) ∧ W'.cell? ⟨lb, loff + q, none⟩ = some (.int .i64 x1)) from fun W' hp => ⟨hp _ _ _ (by omega) k1, hp _ _ _ (by simp at L2; omega) h1, hp _ _ _ (by simp at L3; omega) g1, hp _ _ _ (by simp at L3; omega) g2, hp _ _ _ (by simp at L4; omega) l1, hp _ _ _ (by simp at L4; omega) l2⟩)
      have HLT : Hid (w.heap.size < R ∧ R < G ∧ G < x ∧ G ≤ g) := Lib.hid ⟨hord.1, hord.2.1, hord.2.2, hgl.1⟩
      have HKV := Lib.hid (fun b o v (hv : wr.cell? ⟨b, o, none⟩ = some v) => (⟨hVB.keep hv, hABd.keep hv, hACd.keep hv⟩ : _ ∧ _ ∧ _))
      clear hst hP hB k2 k3 f2 f3 k4 hI1 hI2 hget ep eq r1 e2l hrow hAC hAB hABd hACd hVB hp1 hq1
      go_wp2
      refine wp_region_held_drew (S := fun W' => W'.cell? ⟨w.heap.size, 1, none⟩ = some (.slice (some ⟨b, off, none⟩) n c) ∧ W'.cell? ⟨b, off + k, none⟩ = some (.slice (some ⟨b', off', none⟩) 2 cap') ∧ W'.cell? ⟨b', off', none⟩ = some (.int .i64 (p : Int)) ∧ W'.cell? ⟨b', off' + 1, none⟩ = some (.int .i64 (q : Int)) ∧ W'.cell? ⟨lb, loff + p, none⟩ = some (.int .i64 x0) ∧ W'.cell? ⟨lb, loff + q, none⟩ = some (.int .i64 x1)) (by kernel_rfl) (HS.out _ (fun b o v hb hv => (HKV.out b o v hv).1)) (fun hHeld => ?_)
      refine wpAnyH_take (i := 0) (oi := ?oz1) (v := ?vz1) ?h1z1 ?h2z1 ?h3z1 ?h4z1 ?h5z1 ?h6z1 ?h7z1 ?h8z1
      case h1z1 => (simp only [List.getElem?_toArray, List.getElem?_cons_succ, List.getElem?_cons_zero]; exact rfl)
      case h2z1 => kernel_rfl
      case h3z1 => kernel_rfl
      case h4z1 => kernel_rfl
      case h5z1 => exact fun _ _ _ h => h
      case h6z1 => (refine Or.inl ⟨by rfl, ?_⟩; intro W' hSw; obtain ⟨s1, s2, s3, s4, s5, s6⟩ := hSw; go_simp; try (with_reducible rfl))
      case h7z1 => assumption
      try simp only [Act.put, List.setIfInBounds_toArray, List.set_cons_zero, List.set_cons_succ]
      refine wpAnyH_take (i := 2) (oi := ?oz2) (v := ?vz2) ?h1z2 ?h2z2 ?h3z2 ?h4z2 ?h5z2 ?h6z2 ?h7z2 ?h8z2
      case h1z2 => (simp only [List.getElem?_toArray, List.getElem?_cons_succ, List.getElem?_cons_zero]; exact rfl)
      case h2z2 => kernel_rfl
      case h3z2 => kernel_rfl
      case h4z2 => kernel_rfl
      case h5z2 => exact fun _ _ _ h => h
      case h6z2 => (refine Or.inl ⟨by rfl, ?_⟩; intro W' hSw; obtain ⟨s1, s2, s3, s4, s5, s6⟩ := hSw; go_simp; try (with_reducible rfl))
      case h7z2 => assumption
      try simp only [Act.put, List.setIfInBounds_toArray, List.set_cons_zero, List.set_cons_succ]
      refine wpAnyH_take (i := 3) (oi := ?oz3) (v := ?vz3) ?h1z3 ?h2z3 ?h3z3 ?h4z3 ?h5z3 ?h6z3 ?h7z3 ?h8z3
      case h1z3 => (simp only [List.getElem?_toArray, List.getElem?_cons_succ, List.getElem?_cons_zero]; exact rfl)
      case h2z3 => kernel_rfl
      case h3z3 => kernel_rfl
      case h4z3 => kernel_rfl
      case h5z3 => exact fun _ _ _ h => h
      case h6z3 => (refine Or.inl ⟨by rfl, ?_⟩; intro W' hSw; obtain ⟨s1, s2, s3, s4, s5, s6⟩ := hSw; go_simp; try (with_reducible rfl))
      case h7z3 => assumption
      try simp only [Act.put, List.setIfInBounds_toArray, List.set_cons_zero, List.set_cons_succ]
      refine wpAnyH_take (i := 4) (oi := ?oz4) (v := ?vz4) ?h1z4 ?h2z4 ?h3z4 ?h4z4 ?h5z4 ?h6z4 ?h7z4 ?h8z4
      case h1z4 => (simp only [List.getElem?_toArray, List.getElem?_cons_succ, List.getElem?_cons_zero]; exact rfl)
      case h2z4 => kernel_rfl
      case h3z4 => kernel_rfl
      case h4z4 => kernel_rfl
      case h5z4 => exact fun _ _ _ h => h
      case h6z4 => (refine Or.inl ⟨by rfl, ?_⟩; intro W' hSw; obtain ⟨s1, s2, s3, s4, s5, s6⟩ := hSw; go_simp; try (with_reducible rfl))
      case h7z4 => assumption
      try simp only [Act.put, List.setIfInBounds_toArray, List.set_cons_zero, List.set_cons_succ]
      refine wpAnyH_take (i := 5) (oi := ?oz5) (v := ?vz5) ?h1z5 ?h2z5 ?h3z5 ?h4z5 ?h5z5 ?h6z5 ?h7z5 ?h8z5
      case h1z5 => (simp only [List.getElem?_toArray, List.getElem?_cons_succ, List.getElem?_cons_zero]; exact rfl)
      case h2z5 => kernel_rfl
      case h3z5 => kernel_rfl
      case h4z5 => kernel_rfl
      case h5z5 => exact fun _ _ _ h => h
      case h6z5 => (refine Or.inl ⟨by rfl, ?_⟩; intro W' hSw; obtain ⟨s1, s2, s3, s4, s5, s6⟩ := hSw; go_simp; try (with_reducible rfl))
      case h7z5 => assumption
      try simp only [Act.put, List.setIfInBounds_toArray, List.set_cons_zero, List.set_cons_succ]
      refine wpAnyH_take (i := 6) (oi := ?oz6) (v := ?vz6) ?h1z6 ?h2z6 ?h3z6 ?h4z6 ?h5z6 ?h6z6 ?h7z6 ?h8z6
      case h1z6 => (simp only [List.getElem?_toArray, List.getElem?_cons_succ, List.getElem?_cons_zero]; exact rfl)
      case h2z6 => kernel_rfl
      case h3z6 => kernel_rfl
      case h4z6 => kernel_rfl
      case h5z6 => exact fun _ _ _ h => h
      case h6z6 => (refine Or.inl ⟨by rfl, ?_⟩; intro W' hSw; obtain ⟨s1, s2, s3, s4, s5, s6⟩ := hSw; go_simp; try (with_reducible rfl))
      case h7z6 => assumption
      try simp only [Act.put, List.setIfInBounds_toArray, List.set_cons_zero, List.set_cons_succ]
      refine wpAnyH_take (i := 7) (oi := ?oz7) (v := ?vz7) ?h1z7 ?h2z7 ?h3z7 ?h4z7 ?h5z7 ?h6z7 ?h7z7 ?h8z7
      case h1z7 => (simp only [List.getElem?_toArray, List.getElem?_cons_succ, List.getElem?_cons_zero]; exact rfl)
      case h2z7 => kernel_rfl
      case h3z7 => kernel_rfl
      case h4z7 => kernel_rfl
      case h5z7 => exact fun _ _ _ h => h
      case h6z7 => (refine Or.inl ⟨by rfl, ?_⟩; intro W' hSw; obtain ⟨s1, s2, s3, s4, s5, s6⟩ := hSw; go_simp; try (with_reducible rfl))
      case h7z7 => assumption
      try simp only [Act.put, List.setIfInBounds_toArray, List.set_cons_zero, List.set_cons_succ]
      refine wpAnyH_take (i := 8) (oi := ?oz8) (v := ?vz8) ?h1z8 ?h2z8 ?h3z8 ?h4z8 ?h5z8 ?h6z8 ?h7z8 ?h8z8
      case h1z8 => (simp only [List.getElem?_toArray, List.getElem?_cons_succ, List.getElem?_cons_zero]; exact rfl)
      case h2z8 => kernel_rfl
      case h3z8 => kernel_rfl
      case h4z8 => kernel_rfl
      case h5z8 => exact fun _ _ _ h => h
      case h6z8 => (refine Or.inl ⟨by rfl, ?_⟩; intro W' hSw; obtain ⟨s1, s2, s3, s4, s5, s6⟩ := hSw; go_simp; try (with_reducible rfl))
      case h7z8 => assumption
      try simp only [Act.put, List.setIfInBounds_toArray, List.set_cons_zero, List.set_cons_succ]
      refine wpAnyH_take (i := 9) (oi := ?oz9) (v := ?vz9) ?h1z9 ?h2z9 ?h3z9 ?h4z9 ?h5z9 ?h6z9 ?h7z9 ?h8z9
      case h1z9 => (simp only [List.getElem?_toArray, List.getElem?_cons_succ, List.getElem?_cons_zero]; exact rfl)
      case h2z9 => kernel_rfl
      case h3z9 => kernel_rfl
      case h4z9 => kernel_rfl
      case h5z9 => exact fun _ _ _ h => h
      case h6z9 => (refine Or.inl ⟨by rfl, ?_⟩; intro W' hSw; obtain ⟨s1, s2, s3, s4, s5, s6⟩ := hSw; go_simp; try (with_reducible rfl))
      case h7z9 => assumption
      try simp only [Act.put, List.setIfInBounds_toArray, List.set_cons_zero, List.set_cons_succ]
      refine wpAnyH_take (i := 10) (oi := ?oz10) (v := ?vz10) ?h1z10 ?h2z10 ?h3z10 ?h4z10 ?h5z10 ?h6z10 ?h7z10 ?h8z10
      case h1z10 => (simp only [List.getElem?_toArray, List.getElem?_cons_succ, List.getElem?_cons_zero]; exact rfl)
      case h2z10 => kernel_rfl
      case h3z10 => kernel_rfl
      case h4z10 => kernel_rfl
      case h5z10 => exact fun _ _ _ h => h
      case h6z10 => (refine Or.inl ⟨by rfl, ?_⟩; intro W' hSw; obtain ⟨s1, s2, s3, s4, s5, s6⟩ := hSw; go_simp; try (with_reducible rfl))
      case h7z10 => assumption
      try simp only [Act.put, List.setIfInBounds_toArray, List.set_cons_zero, List.set_cons_succ]
      refine wpAnyH_take (i := 11) (oi := ?oz11) (v := ?vz11) ?h1z11 ?h2z11 ?h3z11 ?h4z11 ?h5z11 ?h6z11 ?h7z11 ?h8z11
      case h1z11 => (simp only [List.getElem?_toArray, List.getElem?_cons_succ, List.getElem?_cons_zero]; exact rfl)
      case h2z11 => kernel_rfl
      case h3z11 => kernel_rfl
      case h4z11 => kernel_rfl
      case h5z11 => exact fun _ _ _ h => h
      case h6z11 => (refine Or.inl ⟨by rfl, ?_⟩; intro W' hSw; obtain ⟨s1, s2, s3, s4, s5, s6⟩ := hSw; go_simp; try (with_reducible rfl))
      case h7z11 => assumption
      try simp only [Act.put, List.setIfInBounds_toArray, List.set_cons_zero, List.set_cons_succ]
      refine wpAnyH_take (i := 12) (oi := ?oz12) (v := ?vz12) ?h1z12 ?h2z12 ?h3z12 ?h4z12 ?h5z12 ?h6z12 ?h7z12 ?h8z12
      case h1z12 => (simp only [List.getElem?_toArray, List.getElem?_cons_succ, List.getElem?_cons_zero]; exact rfl)
      case h2z12 => kernel_rfl
      case h3z12 => kernel_rfl
      case h4z12 => kernel_rfl
      case h5z12 => exact fun _ _ _ h => h
      case h6z12 => (refine Or.inl ⟨by rfl, ?_⟩; intro W' hSw; obtain ⟨s1, s2, s3, s4, s5, s6⟩ := hSw; go_simp; try (with_reducible rfl))
      case h7z12 => assumption
      try simp only [Act.put, List.setIfInBounds_toArray, List.set_cons_zero, List.set_cons_succ]
      refine wpAnyH_take (i := 13) (oi := ?oz13) (v := ?vz13) ?h1z13 ?h2z13 ?h3z13 ?h4z13 ?h5z13 ?h6z13 ?h7z13 ?h8z13
      case h1z13 => (simp only [List.getElem?_toArray, List.getElem?_cons_succ, List.getElem?_cons_zero]; exact rfl)
      case h2z13 => kernel_rfl
      case h3z13 => kernel_rfl
      case h4z13 => kernel_rfl
      case h5z13 => exact fun _ _ _ h => h
      case h6z13 => (refine Or.inl ⟨by rfl, ?_⟩; intro W' hSw; obtain ⟨s1, s2, s3, s4, s5, s6⟩ := hSw; go_simp; try (with_reducible rfl))
      case h7z13 => assumption
      try simp only [Act.put, List.setIfInBounds_toArray, List.set_cons_zero, List.set_cons_succ]
      refine wpAnyH_take (i := 14) (oi := ?oz14) (v := ?vz14) ?h1z14 ?h2z14 ?h3z14 ?h4z14 ?h5z14 ?h6z14 ?h7z14 ?h8z14
      case h1z14 => (simp only [List.getElem?_toArray, List.getElem?_cons_succ, List.getElem?_cons_zero]; exact rfl)
      case h2z14 => kernel_rfl
      case h3z14 => kernel_rfl
      case h4z14 => kernel_rfl
      case h5z14 => exact fun _ _ _ h => h
      case h6z14 => (refine Or.inl ⟨by rfl, ?_⟩; intro W' hSw; obtain ⟨s1, s2, s3, s4, s5, s6⟩ := hSw; go_simp; try (with_reducible rfl))
      case h7z14 => assumption
      try simp only [Act.put, List.setIfInBounds_toArray, List.set_cons_zero, List.set_cons_succ]
      refine wpAnyH_take (i := 15) (oi := ?oz15) (v := ?vz15) ?h1z15 ?h2z15 ?h3z15 ?h4z15 ?h5z15 ?h6z15 ?h7z15 ?h8z15
      case h1z15 => (simp only [List.getElem?_toArray, List.getElem?_cons_succ, List.getElem?_cons_zero]; exact rfl)
      case h2z15 => kernel_rfl
      case h3z15 => kernel_rfl
      case h4z15 => kernel_rfl
      case h5z15 => exact fun _ _ _ h => h
      case h6z15 => (refine Or.inl ⟨by rfl, ?_⟩; intro W' hSw; obtain ⟨s1, s2, s3, s4, s5, s6⟩ := hSw; go_simp; try (with_reducible rfl))
      case h7z15 => assumption
      try simp only [Act.put, List.setIfInBounds_toArray, List.set_cons_zero, List.set_cons_succ]
      refine wpAnyH_take (i := 16) (oi := ?oz16) (v := ?vz16) ?h1z16 ?h2z16 ?h3z16 ?h4z16 ?h5z16 ?h6z16 ?h7z16 ?h8z16
      case h1z16 => (simp only [List.getElem?_toArray, List.getElem?_cons_succ, List.getElem?_cons_zero]; exact rfl)
      case h2z16 => kernel_rfl
      case h3z16 => kernel_rfl
      case h4z16 => kernel_rfl
      case h5z16 => exact fun _ _ _ h => h
      case h6z16 => (refine Or.inl ⟨by rfl, ?_⟩; intro W' hSw; obtain ⟨s1, s2, s3, s4, s5, s6⟩ := hSw; go_simp; try (with_reducible rfl))
      case h7z16 => assumption
      try simp only [Act.put, List.setIfInBounds_toArray, List.set_cons_zero, List.set_cons_succ]
      refine wpAnyH_take (i := 17) (oi := ?oz17) (v := ?vz17) ?h1z17 ?h2z17 ?h3z17 ?h4z17 ?h5z17 ?h6z17 ?h7z17 ?h8z17
      case h1z17 => (simp only [List.getElem?_toArray, List.getElem?_cons_succ, List.getElem?_cons_zero]; exact rfl)
      case h2z17 => kernel_rfl
      case h3z17 => kernel_rfl
      case h4z17 => kernel_rfl
      case h5z17 => exact fun _ _ _ h => h
      case h6z17 => (refine Or.inl ⟨by rfl, ?_⟩; intro W' hSw; obtain ⟨s1, s2, s3, s4, s5, s6⟩ := hSw; go_simp; try (with_reducible rfl))
      case h7z17 => assumption
      try simp only [Act.put, List.setIfInBounds_toArray, List.set_cons_zero, List.set_cons_succ]
      refine wpAnyH_take (i := 18) (oi := ?oz18) (v := ?vz18) ?h1z18 ?h2z18 ?h3z18 ?h4z18 ?h5z18 ?h6z18 ?h7z18 ?h8z18
      case h1z18 => (simp only [List.getElem?_toArray, List.getElem?_cons_succ, List.getElem?_cons_zero]; exact rfl)
      case h2z18 => kernel_rfl
      case h3z18 => kernel_rfl
      case h4z18 => kernel_rfl
      case h5z18 => exact fun _ _ _ h => h
      case h6z18 => (refine Or.inl ⟨by rfl, ?_⟩; intro W' hSw; obtain ⟨s1, s2, s3, s4, s5, s6⟩ := hSw; go_simp; try (with_reducible rfl))
      case h7z18 => assumption
      try simp only [Act.put, List.setIfInBounds_toArray, List.set_cons_zero, List.set_cons_succ]
      refine wpAnyH_take (i := 19) (oi := ?oz19) (v := ?vz19) ?h1z19 ?h2z19 ?h3z19 ?h4z19 ?h5z19 ?h6z19 ?h7z19 ?h8z19
      case h1z19 => (simp only [List.getElem?_toArray, List.getElem?_cons_succ, List.getElem?_cons_zero]; exact rfl)
      case h2z19 => kernel_rfl
      case h3z19 => kernel_rfl
      case h4z19 => kernel_rfl
      case h5z19 => exact fun _ _ _ h => h
      case h6z19 => (refine Or.inl ⟨by rfl, ?_⟩; intro W' hSw; obtain ⟨s1, s2, s3, s4, s5, s6⟩ := hSw; go_simp; try (with_reducible rfl))
      case h7z19 => assumption
      try simp only [Act.put, List.setIfInBounds_toArray, List.set_cons_zero, List.set_cons_succ]
      refine wpAnyH_take (i := 20) (oi := ?oz20) (v := ?vz20) ?h1z20 ?h2z20 ?h3z20 ?h4z20 ?h5z20 ?h6z20 ?h7z20 ?h8z20
      case h1z20 => (simp only [List.getElem?_toArray, List.getElem?_cons_succ, List.getElem?_cons_zero]; exact rfl)
      case h2z20 => kernel_rfl
      case h3z20 => kernel_rfl
      case h4z20 => kernel_rfl
      case h5z20 => exact fun _ _ _ h => h
      case h6z20 => (refine Or.inl ⟨by rfl, ?_⟩; intro W' hSw; obtain ⟨s1, s2, s3, s4, s5, s6⟩ := hSw; go_simp; try (with_reducible rfl))
      case h7z20 => assumption
      try simp only [Act.put, List.setIfInBounds_toArray, List.set_cons_zero, List.set_cons_succ]
      refine wpAnyH_take (i := 21) (oi := ?oz21) (v := ?vz21) ?h1z21 ?h2z21 ?h3z21 ?h4z21 ?h5z21 ?h6z21 ?h7z21 ?h8z21
      case h1z21 => (simp only [List.getElem?_toArray, List.getElem?_cons_succ, List.getElem?_cons_zero]; exact rfl)
      case h2z21 => kernel_rfl
      case h3z21 => kernel_rfl
      case h4z21 => kernel_rfl
      case h5z21 => exact fun _ _ _ h => h
      case h6z21 => (refine Or.inl ⟨by rfl, ?_⟩; intro W' hSw; obtain ⟨s1, s2, s3, s4, s5, s6⟩ := hSw; go_simp; try (with_reducible rfl))
      case h7z21 => assumption
      try simp only [Act.put, List.setIfInBounds_toArray, List.set_cons_zero, List.set_cons_succ]
      refine wpAnyH_ready (rs := [1, 22]) (by kernel_rfl) (by simp) ?_
      refine AllReadyH.cons (o := ?oz22) ?h1z22 ?h2z22 ?h3z22
      case h1z22 => (simp only [List.getElem?_toArray, List.getElem?_cons_succ, List.getElem?_cons_zero]; exact rfl)
      case' h2z22 => intro K hK
      · go_simp
        refine hK.out _ _ (HS.out _ (fun b o v hb hv => (HKV.out b o v hv).1)) (fun hHeld => ?_)
        clear hK K
        try simp only [Act.put, List.setIfInBounds_toArray, List.set_cons_zero, List.set_cons_succ]
        refine wpAnyH_ready (rs := [22]) (by kernel_rfl) (by simp) ?_
        refine AllReadyH.cons (o := ?oz23) ?h1z23 ?h2z23 ?h3z23
        case h1z23 => (simp only [List.getElem?_toArray, List.getElem?_cons_succ, List.getElem?_cons_zero]; exact rfl)
        case' h2z23 => intro K hK
        · go_simp
          refine hK.out _ _ (HS.out _ (fun b o v hb hv => (HKV.out b o v hv).2.1)) (fun hHeld => ?_)
          clear hK K
          try simp only [Act.put, List.setIfInBounds_toArray, List.set_cons_zero, List.set_cons_succ]
          refine wpAnyH_ready (rs := [23]) (by kernel_rfl) (by simp) ?_
          refine AllReadyH.cons (o := ?oz24) ?h1z24 ?h2z24 ?h3z24
          case h1z24 => (simp only [List.getElem?_toArray, List.getElem?_cons_succ, List.getElem?_cons_zero]; exact rfl)
          case' h2z24 => intro K hK
          · go_simp
            refine hK.out _ _ (HS.out _ (fun b o v hb hv => (HKV.out b o v hv).2.2)) (fun hHeld => ?_)
            clear hK K
            try simp only [Act.put, List.setIfInBounds_toArray, List.set_cons_zero, List.set_cons_succ]
            refine wpAnyH_ready (rs := [24]) (by kernel_rfl) (by simp) ?_
            refine AllReadyH.cons (o := ?oz25) ?h1z25 ?h2z25 ?h3z25
            case h1z25 => (simp only [List.getElem?_toArray, List.getElem?_cons_succ, List.getElem?_cons_zero]; exact rfl)
            case' h2z25 => intro K hK
            · with_reducible refine step_append_lies ((wr.alloc (.cells #[.int .i64 x0, .int .i64 x1] 2)).alloc (.cells #[.slice (some ⟨wr.heap.size, 0, none⟩) 2 2] 26)).drew rfl (.tmp 19) (.tmp 41) 22 rfl G 26 i0 (.slice none 0 0) 1 24 Try.underlying22 hi' z0 z1 z2 rfl (by decide) (.slice (some ⟨g, 0, none⟩) k c') k rvs (by simp [Act.eval, Act.put]) hown1 ⟨wr.heap.size + 1, 0, none⟩ 1 1 [.slice (some ⟨wr.heap.size, 0, none⟩) 2 2] (by simp [Act.eval, Act.put]) rfl hnews hone (by decide) hm63 hby hbase ((wr.alloc (.cells #[.int .i64 x0, .int .i64 x1] 2)).alloc (.cells #[.slice (some ⟨wr.heap.size, 0, none⟩) 2 2] 26)).drew.heap.size rfl ?_
              intro g5 c5 w5 hown5 hgr hlie hlt5
              have hch : Chg g (g + 1) wr w5 := snocCr HAB.out.1 hgr
              have y5 := hch.cell b0 hgxx
              have yf5 := hch.frozen hxz hgxx bf
              try go_simp
              refine hK.out _ _ (HS.out _ (fun b o v hb hv => hch.cell hv (.inl (show b < g by have := HLT.out; omega)))) (fun hHeld => ?_)
              clear hK K
              try simp only [Act.put, List.setIfInBounds_toArray, List.set_cons_zero, List.set_cons_succ]
              refine wpAnyH_take (i := 25) (oi := ?oz26) (v := ?vz26) ?h1z26 ?h2z26 ?h3z26 ?h4z26 ?h5z26 ?h6z26 ?h7z26 ?h8z26
              case h1z26 => (simp only [List.getElem?_toArray, List.getElem?_cons_succ, List.getElem?_cons_zero]; exact rfl)
              case h2z26 => kernel_rfl
              case h3z26 => kernel_rfl
              case h4z26 => kernel_rfl
              case h5z26 => exact fun _ _ _ h => h
              case h6z26 => (refine Or.inl ⟨by rfl, ?_⟩; intro W' hSw; obtain ⟨s1, s2, s3, s4, s5, s6⟩ := hSw; go_simp; try (with_reducible rfl))
              case h7z26 => assumption
              try simp only [Act.put, List.setIfInBounds_toArray, List.set_cons_zero, List.set_cons_succ]
              refine wpAnyH_ready (rs := [26]) (by kernel_rfl) (by simp) ?_
              refine AllReadyH.cons (o := ?oz27) ?h1z27 ?h2z27 ?h3z27
              case h1z27 => (simp only [List.getElem?_toArray, List.getElem?_cons_succ, List.getElem?_cons_zero]; exact rfl)
              case' h2z27 => intro K hK
              · go_simp
                refine hK.out _ _ (HS.out _ (fun b o v hb hv => by have h9 := HLT.out; rw [World.cell?_setCell_other _ _ _ _ (by intro e9; cases e9; omega)]; exact hch.cell hv (.inl (show b < g by omega)))) (fun hHeld => ?_)
                clear hK K
                try simp only [Act.put, List.setIfInBounds_toArray, List.set_cons_zero, List.set_cons_succ]
                refine wpAnyH_done (by kernel_rfl) ?_ _
                have hcc := copy_closeR HP.out hxz HAB.out.1 HAB.out.2.1 hown5 hgr hlie (.slice (some ⟨g5, 0, none⟩) (k + 1) c5)
                rw [← HST.out] at hcc
                have FF := Lib.hid (rn_step hord.1 hord.2.1 hord.2.2 hgl.1 hgxx hch HB.out hxz HF.out y5 yf5 (.slice (some ⟨g5, 0, none⟩) (k + 1) c5))
                have HCC := Lib.hid hcc
                clear hcc hch y5 yf5 hown5 hgr hlie a1 a4 a5 a6 a7 a8 b0 b1 b2 b3 b4 b5 bf hown1 hnews hone hbase h1 g1 g2 l1 l2 k1 k5 f5
                go_wp2
                go_roundw
                case rel => exact ⟨k+1, g5, c5, _, by omega, by go_num, HCC.out, FF.out⟩
                case measure => simp [intOf]; omega
              exact AllReadyH.nil
            exact AllReadyH.nil
          exact AllReadyH.nil
        exact AllReadyH.nil
      refine AllReadyH.cons (o := ?oz28) ?h1z28 ?h2z28 ?h3z28
      case h1z28 => (simp only [List.getElem?_toArray, List.getElem?_cons_succ, List.getElem?_cons_zero]; exact rfl)
      case' h2z28 => intro K hK
      · go_simp
        refine hK.out _ _ (HS.out _ (fun b o v hb hv => (HKV.out b o v hv).2.1)) (fun hHeld => ?_)
        clear hK K
        try simp only [Act.put, List.setIfInBounds_toArray, List.set_cons_zero, List.set_cons_succ]
        refine wpAnyH_ready (rs := [1, 23]) (by kernel_rfl) (by simp) ?_
        refine AllReadyH.cons (o := ?oz29) ?h1z29 ?h2z29 ?h3z29
        case h1z29 => (simp only [List.getElem?_toArray, List.getElem?_cons_succ, List.getElem?_cons_zero]; exact rfl)
        case' h2z29 => intro K hK
        · go_simp
          refine hK.out _ _ (HS.out _ (fun b o v hb hv => (HKV.out b o v hv).2.1)) (fun hHeld => ?_)
          clear hK K
          try simp only [Act.put, List.setIfInBounds_toArray, List.set_cons_zero, List.set_cons_succ]
          refine wpAnyH_ready (rs := [23]) (by kernel_rfl) (by simp) ?_
          refine AllReadyH.cons (o := ?oz30) ?h1z30 ?h2z30 ?h3z30
          case h1z30 => (simp only [List.getElem?_toArray, List.getElem?_cons_succ, List.getElem?_cons_zero]; exact rfl)
          case' h2z30 => intro K hK
          · go_simp
            refine hK.out _ _ (HS.out _ (fun b o v hb hv => (HKV.out b o v hv).2.2)) (fun hHeld => ?_)
            clear hK K
            try simp only [Act.put, List.setIfInBounds_toArray, List.set_cons_zero, List.set_cons_succ]
            refine wpAnyH_ready (rs := [24]) (by kernel_rfl) (by simp) ?_
            refine AllReadyH.cons (o := ?oz31) ?h1z31 ?h2z31 ?h3z31
            case h1z31 => (simp only [List.getElem?_toArray, List.getElem?_cons_succ, List.getElem?_cons_zero]; exact rfl)
            case' h2z31 => intro K hK
            · with_reducible refine step_append_lies ((wr.alloc (.cells #[.int .i64 x0, .int .i64 x1] 2)).alloc (.cells #[.slice (some ⟨wr.heap.size, 0, none⟩) 2 2] 26)).drew rfl (.tmp 19) (.tmp 41) 22 rfl G 26 i0 (.slice none 0 0) 1 24 Try.underlying22 hi' z0 z1 z2 rfl (by decide) (.slice (some ⟨g, 0, none⟩) k c') k rvs (by simp [Act.eval, Act.put]) hown1 ⟨wr.heap.size + 1, 0, none⟩ 1 1 [.slice (some ⟨wr.heap.size, 0, none⟩) 2 2] (by simp [Act.eval, Act.put]) rfl hnews hone (by decide) hm63 hby hbase ((wr.alloc (.cells #[.int .i64 x0, .int .i64 x1] 2)).alloc (.cells #[.slice (some ⟨wr.heap.size, 0, none⟩) 2 2] 26)).drew.heap.size rfl ?_
              intro g5 c5 w5 hown5 hgr hlie hlt5
              have hch : Chg g (g + 1) wr w5 := snocCr HAB.out.1 hgr
              have y5 := hch.cell b0 hgxx
              have yf5 := hch.frozen hxz hgxx bf
              try go_simp
              refine hK.out _ _ (HS.out _ (fun b o v hb hv => hch.cell hv (.inl (show b < g by have := HLT.out; omega)))) (fun hHeld => ?_)
              clear hK K
              try simp only [Act.put, List.setIfInBounds_toArray, List.set_cons_zero, List.set_cons_succ]
              refine wpAnyH_take (i := 25) (oi := ?oz32) (v := ?vz32) ?h1z32 ?h2z32 ?h3z32 ?h4z32 ?h5z32 ?h6z32 ?h7z32 ?h8z32
              case h1z32 => (simp only [List.getElem?_toArray, List.getElem?_cons_succ, List.getElem?_cons_zero]; exact rfl)
              case h2z32 => kernel_rfl
              case h3z32 => kernel_rfl
              case h4z32 => kernel_rfl
              case h5z32 => exact fun _ _ _ h => h
              case h6z32 => (refine Or.inl ⟨by rfl, ?_⟩; intro W' hSw; obtain ⟨s1, s2, s3, s4, s5, s6⟩ := hSw; go_simp; try (with_reducible rfl))
              case h7z32 => assumption
              try simp only [Act.put, List.setIfInBounds_toArray, List.set_cons_zero, List.set_cons_succ]
              refine wpAnyH_ready (rs := [26]) (by kernel_rfl) (by simp) ?_
              refine AllReadyH.cons (o := ?oz33) ?h1z33 ?h2z33 ?h3z33
              case h1z33 => (simp only [List.getElem?_toArray, List.getElem?_cons_succ, List.getElem?_cons_zero]; exact rfl)
              case' h2z33 => intro K hK
              · go_simp
                refine hK.out _ _ (HS.out _ (fun b o v hb hv => by have h9 := HLT.out; rw [World.cell?_setCell_other _ _ _ _ (by intro e9; cases e9; omega)]; exact hch.cell hv (.inl (show b < g by omega)))) (fun hHeld => ?_)
                clear hK K
                try simp only [Act.put, List.setIfInBounds_toArray, List.set_cons_zero, List.set_cons_succ]
                refine wpAnyH_done (by kernel_rfl) ?_ _
                have hcc := copy_closeR HP.out hxz HAB.out.1 HAB.out.2.1 hown5 hgr hlie (.slice (some ⟨g5, 0, none⟩) (k + 1) c5)
                rw [← HST.out] at hcc
                have FF := Lib.hid (rn_step hord.1 hord.2.1 hord.2.2 hgl.1 hgxx hch HB.out hxz HF.out y5 yf5 (.slice (some ⟨g5, 0, none⟩) (k + 1) c5))
                have HCC := Lib.hid hcc
                clear hcc hch y5 yf5 hown5 hgr hlie a1 a4 a5 a6 a7 a8 b0 b1 b2 b3 b4 b5 bf hown1 hnews hone hbase h1 g1 g2 l1 l2 k1 k5 f5
                go_wp2
                go_roundw
                case rel => exact ⟨k+1, g5, c5, _, by omega, by go_num, HCC.out, FF.out⟩
                case measure => simp [intOf]; omega
              exact AllReadyH.nil
            exact AllReadyH.nil
          exact AllReadyH.nil
        refine AllReadyH.cons (o := ?oz34) ?h1z34 ?h2z34 ?h3z34
        case h1z34 => (simp only [List.getElem?_toArray, List.getElem?_cons_succ, List.getElem?_cons_zero]; exact rfl)
        case' h2z34 => intro K hK
        · go_simp
          refine hK.out _ _ (HS.out _ (fun b o v hb hv => (HKV.out b o v hv).2.2)) (fun hHeld => ?_)
          clear hK K
          try simp only [Act.put, List.setIfInBounds_toArray, List.set_cons_zero, List.set_cons_succ]
          refine wpAnyH_ready (rs := [1]) (by kernel_rfl) (by simp) ?_
          refine AllReadyH.cons (o := ?oz35) ?h1z35 ?h2z35 ?h3z35
          case h1z35 => (simp only [List.getElem?_toArray, List.getElem?_cons_succ, List.getElem?_cons_zero]; exact rfl)
          case' h2z35 => intro K hK
          · go_simp
            refine hK.out _ _ (HS.out _ (fun b o v hb hv => (HKV.out b o v hv).2.2)) (fun hHeld => ?_)
            clear hK K
            try simp only [Act.put, List.setIfInBounds_toArray, List.set_cons_zero, List.set_cons_succ]
            refine wpAnyH_ready (rs := [24]) (by kernel_rfl) (by simp) ?_
            refine AllReadyH.cons (o := ?oz36) ?h1z36 ?h2z36 ?h3z36
            case h1z36 => (simp only [List.getElem?_toArray, List.getElem?_cons_succ, List.getElem?_cons_zero]; exact rfl)
            case' h2z36 => intro K hK
            · with_reducible refine step_append_lies ((wr.alloc (.cells #[.int .i64 x0, .int .i64 x1] 2)).alloc (.cells #[.slice (some ⟨wr.heap.size, 0, none⟩) 2 2] 26)).drew rfl (.tmp 19) (.tmp 41) 22 rfl G 26 i0 (.slice none 0 0) 1 24 Try.underlying22 hi' z0 z1 z2 rfl (by decide) (.slice (some ⟨g, 0, none⟩) k c') k rvs (by simp [Act.eval, Act.put]) hown1 ⟨wr.heap.size + 1, 0, none⟩ 1 1 [.slice (some ⟨wr.heap.size, 0, none⟩) 2 2] (by simp [Act.eval, Act.put]) rfl hnews hone (by decide) hm63 hby hbase ((wr.alloc (.cells #[.int .i64 x0, .int .i64 x1] 2)).alloc (.cells #[.slice (some ⟨wr.heap.size, 0, none⟩) 2 2] 26)).drew.heap.size rfl ?_
              intro g5 c5 w5 hown5 hgr hlie hlt5
              have hch : Chg g (g + 1) wr w5 := snocCr HAB.out.1 hgr
              have y5 := hch.cell b0 hgxx
              have yf5 := hch.frozen hxz hgxx bf
              try go_simp
              refine hK.out _ _ (HS.out _ (fun b o v hb hv => hch.cell hv (.inl (show b < g by have := HLT.out; omega)))) (fun hHeld => ?_)
              clear hK K
              try simp only [Act.put, List.setIfInBounds_toArray, List.set_cons_zero, List.set_cons_succ]
              refine wpAnyH_take (i := 25) (oi := ?oz37) (v := ?vz37) ?h1z37 ?h2z37 ?h3z37 ?h4z37 ?h5z37 ?h6z37 ?h7z37 ?h8z37
              case h1z37 => (simp only [List.getElem?_toArray, List.getElem?_cons_succ, List.getElem?_cons_zero]; exact rfl)
              case h2z37 => kernel_rfl
              case h3z37 => kernel_rfl
              case h4z37 => kernel_rfl
              case h5z37 => exact fun _ _ _ h => h
              case h6z37 => (refine Or.inl ⟨by rfl, ?_⟩; intro W' hSw; obtain ⟨s1, s2, s3, s4, s5, s6⟩ := hSw; go_simp; try (with_reducible rfl))
              case h7z37 => assumption
              try simp only [Act.put, List.setIfInBounds_toArray, List.set_cons_zero, List.set_cons_succ]
              refine wpAnyH_ready (rs := [26]) (by kernel_rfl) (by simp) ?_
              refine AllReadyH.cons (o := ?oz38) ?h1z38 ?h2z38 ?h3z38
              case h1z38 => (simp only [List.getElem?_toArray, List.getElem?_cons_succ, List.getElem?_cons_zero]; exact rfl)
              case' h2z38 => intro K hK
              · go_simp
                refine hK.out _ _ (HS.out _ (fun b o v hb hv => by have h9 := HLT.out; rw [World.cell?_setCell_other _ _ _ _ (by intro e9; cases e9; omega)]; exact hch.cell hv (.inl (show b < g by omega)))) (fun hHeld => ?_)
                clear hK K
                try simp only [Act.put, List.setIfInBounds_toArray, List.set_cons_zero, List.set_cons_succ]
                refine wpAnyH_done (by kernel_rfl) ?_ _
                have hcc := copy_closeR HP.out hxz HAB.out.1 HAB.out.2.1 hown5 hgr hlie (.slice (some ⟨g5, 0, none⟩) (k + 1) c5)
                rw [← HST.out] at hcc
                have FF := Lib.hid (rn_step hord.1 hord.2.1 hord.2.2 hgl.1 hgxx hch HB.out hxz HF.out y5 yf5 (.slice (some ⟨g5, 0, none⟩) (k + 1) c5))
                have HCC := Lib.hid hcc
                clear hcc hch y5 yf5 hown5 hgr hlie a1 a4 a5 a6 a7 a8 b0 b1 b2 b3 b4 b5 bf hown1 hnews hone hbase h1 g1 g2 l1 l2 k1 k5 f5
                go_wp2
                go_roundw
                case rel => exact ⟨k+1, g5, c5, _, by omega, by go_num, HCC.out, FF.out⟩
                case measure => simp [intOf]; omega
              exact AllReadyH.nil
            exact AllReadyH.nil
          exact AllReadyH.nil
        exact AllReadyH.nil
      exact AllReadyH.nil
    · go_wp2
      obtain rfl : k = n := by omega
      have e2 : E.take k = E := List.take_of_length_le (by rw [HRL.out]; exact Nat.le_refl _)
      rw [e2] at hP
      have hch : Chg R (R + 1) wr ((wr.setCell ⟨R, 0, none⟩ (.int .i64 (S : Int))).setCell ⟨R, 1, none⟩ (.slice (some ⟨g, 0, none⟩) k c')) := by
        repeat (refine Chg.setCell ?_ (by constructor <;> simp <;> omega) _)
        exact Chg.refl _ _ _
      have hP2 := hP.chg hch (.inr (by have := hP.lt; omega)) (fun j hj q hq => Or.inr (Nat.le_trans (show R + 1 ≤ G by omega) ((hP.rows.own j (by rw [hP.len]; exact hj)).blk q hq).1))
      refine bodyPost_ret (v := .agg #[.int .i64 (S : Int), .slice (some ⟨g, 0, none⟩) k c']) (by simp [results, Try.results76, go_sem, k2, k3, k4, k5]) rfl ⟨some ⟨g, 0, none⟩, c', rfl, ?_, ?_⟩
      · exact (hP2.owr (by omega)).mono (by omega) (Nat.le_refl _)
      · repeat (refine Below.setCell ?_ (by simp <;> omega) _)
        exact hB

set_option maxHeartbeats 3200000 in
theorem specRn {lo hi lo1 hi1 : Nat} (s : Int) (a : Option Addr) (n c : Nat) (xss : List (List Int)) (a1 : Option Addr) (n1 c1 : Nat) (xs : List Int) (w : World) (h : RdR lo hi w (.slice a n c) xss) (hn : xss.length = n) (h1 : RdI lo1 hi1 w (.slice a1 n1 c1) xs) (hl : xs.length = n1) :
    Calls Try.prog 31 #[.agg #[.int .i64 s, .slice a n c], .slice a1 n1 c1] w fun e w' => ∃ a' c', e = .returned (.tuple #[.agg #[.int .i64 (rnOf s xss xs).1.1, .slice a' (rnOf s xss xs).1.2.length c'], .int .i64 (rnOf s xss xs).2]) ∧ OwR w.heap.size w'.heap.size w' (.slice a' (rnOf s xss xs).1.2.length c') (rnOf s xss xs).1.2 ∧ Below w.heap.size w w' := by
  have hb0 : ∀ o o', Below w.heap.size w ((w.alloc o).alloc o') := fun o o' => ((Below.refl _ _).alloc (Nat.le_refl _) o).alloc (by simp) o'
  have HI := Lib.hid (fun W (hB : Below w.heap.size w W) => l01Is s a n c xss W (h.below hB) hn)
  cases hg : grB s xss with
  | false =>
    rw [hg] at HI
    have hno : rnOf s xss xs = ((0, []), 1) := by unfold rnOf; rw [if_neg (by rw [hg]; simp)]
    rw [hno]
    clear h hn h1 hl hg hno
    go_enter Try.func31, Try.ntmps31
    go_wp2_with fail
    refine calls_gen (fun W => RbI w.heap.size (w.heap.size + 1) w W) ⟨hb0 _ _, by go_simp, by go_simp, by go_simp, by go_simp, by simp, by omega⟩ ?_
    rintro W hI
    refine (HI.out W hI.below).mono ?_
    rintro e w1 ⟨rfl, b1⟩
    have hI1 := hI.next b1
    obtain ⟨y0, y1, f0, f1, ylt, hB5⟩ := (⟨hI1.y0, hI1.y1, hI1.f0, hI1.f1, hI1.ylt, hI1.below⟩ : _ ∧ _ ∧ _ ∧ _ ∧ _ ∧ _)
    clear b1 HI hI hI1
    go_wp2
    refine bodyPost_ret (v := .tuple #[.agg #[.int .i64 0, .slice none 0 0], .int .i64 1]) (by simp [results, Try.results31, go_sem, y0, y1, f0, f1]) rfl ⟨none, 0, rfl, OwR.nil (World.ownsRow_nil _ _ _ _) (Nat.le_refl _), ?_⟩
    repeat (refine Below.setCell ?_ (by simp <;> omega) _)
    exact hB5
  | true =>
  rw [hg] at HI
  have hg4 := grB_iff hg
  obtain ⟨S, hS⟩ : ∃ S : Nat, s = (S : Int) := ⟨s.toNat, by omega⟩
  subst hS
  have HM := Lib.hid (fun W (hB : Below w.heap.size w W) => l08Map a1 n1 c1 xs (S : Int) W (h1.below hB) hl hg4.1 hg4.2.1)
  cases hp : permB (S : Int) xs with
  | false =>
    rw [hp] at HM
    have hno : rnOf (S : Int) xss xs = ((0, []), 2) := by unfold rnOf; rw [if_pos hg, if_neg (by rw [hp]; simp)]
    rw [hno]
    clear h hn h1 hl hg hg4 hno hp
    go_enter Try.func31, Try.ntmps31
    go_wp2_with fail
    refine calls_gen (fun W => RbI w.heap.size (w.heap.size + 1) w W ∧ W.cell? ⟨w.heap.size, 0, none⟩ = some (.int .i64 (S : Int))) ⟨⟨hb0 _ _, by go_simp, by go_simp, by go_simp, by go_simp, by simp, by omega⟩, by go_simp⟩ ?_
    rintro W ⟨hI, k0⟩
    refine (HI.out W hI.below).mono ?_
    rintro e w1 ⟨rfl, b1⟩
    have hI1 := Lib.hid (hI.next b1)
    replace k0 := b1.keep k0
    clear b1 HI hI
    go_wp2_with fail
    refine (HM.out w1 hI1.out.below).mono ?_
    rintro e w2 ⟨rfl, b2⟩
    have hI2 := hI1.out.next b2
    obtain ⟨y0, y1, f0, f1, ylt, hB5⟩ := (⟨hI2.y0, hI2.y1, hI2.f0, hI2.f1, hI2.ylt, hI2.below⟩ : _ ∧ _ ∧ _ ∧ _ ∧ _ ∧ _)
    clear b2 HM hI1 hI2 k0
    go_wp2
    refine bodyPost_ret (v := .tuple #[.agg #[.int .i64 0, .slice none 0 0], .int .i64 2]) (by simp [results, Try.results31, go_sem, y0, y1, f0, f1]) rfl ⟨none, 0, rfl, OwR.nil (World.ownsRow_nil _ _ _ _) (Nat.le_refl _), ?_⟩
    repeat (refine Below.setCell ?_ (by simp <;> omega) _)
    exact hB5
  | true =>
    rw [hp] at HM
    have hyes : rnOf (S : Int) xss xs = (((S : Int), rnR xs xss), 0) := by unfold rnOf; rw [if_pos hg, if_pos hp]
    rw [hyes]
    have HRN := Lib.hid (fun W (hB : Below w.heap.size w W) => l08Renumber S a n c xss a1 n1 c1 xs W (h.below hB) hn (h1.below hB) hl hg hp)
    generalize rnR xs xss = E at HRN ⊢
    clear h hn h1 hl hg hg4 hyes hp
    go_enter Try.func31, Try.ntmps31
    go_wp2_with fail
    refine calls_gen (fun W => RbI w.heap.size (w.heap.size + 1) w W ∧ W.cell? ⟨w.heap.size, 0, none⟩ = some (.int .i64 (S : Int)) ∧ W.cell? ⟨w.heap.size, 1, none⟩ = some (.slice a n c)) ⟨⟨hb0 _ _, by go_simp, by go_simp, by go_simp, by go_simp, by simp, by omega⟩, by go_simp, by go_simp⟩ ?_
    rintro W ⟨hI, k0, k1⟩
    refine (HI.out W hI.below).mono ?_
    rintro e w1 ⟨rfl, b1⟩
    have hI1 := Lib.hid (hI.next b1)
    replace k0 := b1.keep k0
    replace k1 := b1.keep k1
    clear b1 HI hI
    go_wp2_with fail
    refine (HM.out w1 hI1.out.below).mono ?_
    rintro e w2 ⟨rfl, b2⟩
    have hI2 := Lib.hid (hI1.out.next b2)
    replace k0 := b2.keep k0
    replace k1 := b2.keep k1
    clear b2 HM hI1
    go_wp2_with fail
    refine (HRN.out w2 hI2.out.below).mono ?_
    rintro e w5 ⟨a5, c5, rfl, o5, b5⟩
    have hR5 := hI2.out.next b5
    obtain ⟨y0, y1, f0, f1, ylt, hB5⟩ := (⟨hR5.y0, hR5.y1, hR5.f0, hR5.f1, hR5.ylt, hR5.below⟩ : _ ∧ _ ∧ _ ∧ _ ∧ _ ∧ _)
    have hyU : w.heap.size + 1 < w2.heap.size := hI2.out.ylt
    have HQ := Lib.hid (⟨o5, hB5, hI2.out.below.size, b5.size⟩ : _ ∧ _ ∧ _ ∧ _)
    clear o5 b5 hB5 hR5 HRN hI2 k0 k1
    go_wp2
    refine bodyPost_ret (v := .tuple #[.agg #[.int .i64 (S : Int), .slice a5 E.length c5], .int .i64 0]) (by simp [results, Try.results31, go_sem, y0, y1, f0, f1]) rfl ⟨a5, c5, rfl, ?_, ?_⟩
    · have hs := HQ.out.2.2.1
      refine (OwR.chg (lo' := w.heap.size + 1) (hi' := w.heap.size + 1 + 1) HQ.out.1 ?_ (.inr hyU)).mono (by omega) (by simp [World.setCell])
      repeat (refine Chg.setCell ?_ (by constructor <;> simp <;> omega) _)
      exact Chg.refl _ _ _
    · repeat (refine Below.setCell ?_ (by simp <;> omega) _)
      exact HQ.out.2.1

end Go.Proofs.Ytolipjemabmlkaa
