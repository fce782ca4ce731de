/- Tables of numbers modulo a prime, of the program. -/
import Derived.Test.YtebgbplhcaocoaaResT
import Derived.Test.YtebgbplhcaocoaaCoreG
import Derived.Deep.RegionLaw
set_option linter.unusedSimpArgs false
set_option linter.unusedVariables false
set_option maxRecDepth 100000
namespace Go.Proofs.Ytebgbplhcaocoaa
open Go.RowKit

theorem Try.info119 : (Try.prog.info? 119).map (fun i => (i.zero, i.size, i.bytes)) = some (some (.agg #[.int .i64 0, .int .i64 0]), 2, 16) := by kernel_rfl

set_option maxHeartbeats 800000 in
theorem tableFn (n p : Int) (x : Nat) (w : World) (h0 : w.cell? ⟨x, 0, none⟩ = some (.int .i64 p)) (hn : -1000000000000 ≤ n ∧ n ≤ 1000000000000) (hp : 1 ≤ p ∧ p ≤ 10007) :
    Calls Try.prog 157 #[.int .i64 n, .pointer (some ⟨x, 0, none⟩)] w fun e w' => e = .returned (.agg #[.int .i64 (n % p), .int .i64 p]) ∧ Below w.heap.size w w' := by
  have hb0 : ∀ o, Below w.heap.size w (w.alloc o) := fun o => (Below.refl _ _).alloc (Nat.le_refl _) o
  have h1 := (hb0 (.cells #[.int .i64 0, .int .i64 0] 119)).keep h0
  go_enter Try.func157, Try.ntmps157
  go_wp2_with fail
  obtain ⟨R, hR⟩ : ∃ R, R = w.heap.size := ⟨_, rfl⟩
  refine calls_gen (fun W => Below w.heap.size w W ∧ R < W.heap.size ∧ W.cell? ⟨R, 0, none⟩ = some (.int .i64 0) ∧ W.cell? ⟨R, 1, none⟩ = some (.int .i64 0) ∧ W.frozen? ⟨R, 0, none⟩ = false ∧ W.frozen? ⟨R, 1, none⟩ = false) ⟨hb0 _, by rw [hR]; simp, by rw [hR]; go_simp, by rw [hR]; go_simp, by rw [hR]; go_simp, by rw [hR]; go_simp⟩ ?_
  rintro W ⟨hB, hz, c0, c1, f0, f1⟩
  rw [← hR]
  have hRw : w.heap.size ≤ R := Nat.le_of_eq hR.symm
  clear hR h1
  refine (residueOf n p W hn hp).mono ?_
  rintro e w1 ⟨rfl, b1⟩
  replace c0 := b1.keep c0
  replace c1 := b1.keep c1
  replace f0 := b1.keepf hz f0
  replace f1 := b1.keepf hz f1
  replace hB := hB.next b1
  obtain ⟨r, hr⟩ : ∃ r, r = n % p := ⟨_, rfl⟩
  rw [← hr]
  have hf : Below w.heap.size w ((w1.setCell ⟨R, 0, none⟩ (.int .i64 r)).setCell ⟨R, 1, none⟩ (.int .i64 p)) := (hB.setCell hRw _).setCell hRw _
  have v0 : ((w1.setCell ⟨R, 0, none⟩ (.int .i64 r)).setCell ⟨R, 1, none⟩ (.int .i64 p)).cell? ⟨R, 0, none⟩ = some (.int .i64 r) := by
    rw [World.cell?_setCell_other _ _ _ _ (by simp)]; exact World.cell?_setCell_same _ _ _ c0
  have v1 : ((w1.setCell ⟨R, 0, none⟩ (.int .i64 r)).setCell ⟨R, 1, none⟩ (.int .i64 p)).cell? ⟨R, 1, none⟩ = some (.int .i64 p) := World.cell?_setCell_same _ _ _ (by rw [World.cell?_setCell_other _ _ _ _ (by simp)]; exact c1)
  have HR := Lib.hid hr
  clear hr hz b1
  go_wp2
  refine bodyPost_ret (v := .agg #[.int .i64 r, .int .i64 p]) (by simp [results, Try.results157, go_sem, v0, v1]) rfl ⟨by rw [HR.out], hf⟩

/-- the numbers of a table, row by row, modulo p -/
def entN (p : Int) (N : Nat) (f : Nat → Nat → Int) (T : Nat) : List Int := (List.range T).map (fun t => f (t / N) (t % N) % p)
theorem entN_len (p : Int) (N : Nat) (f : Nat → Nat → Int) (T : Nat) : (entN p N f T).length = T := by simp [entN]
theorem entN_snoc {p : Int} {N : Nat} {f : Nat → Nat → Int} {T k j : Nat} (hT : T = k * N + j) (hj : j < N) : entN p N f (T + 1) = entN p N f T ++ [f k j % p] := by
  unfold entN
  rw [List.range_succ, List.map_append]
  congr 1
  have h1 : T / N = k := by rw [hT, Nat.mul_comm, Nat.mul_add_div (by omega), Nat.div_eq_of_lt hj, Nat.add_zero]
  have h2 : T % N = j := by rw [hT, Nat.mul_comm, Nat.mul_add_mod, Nat.mod_eq_of_lt hj]
  simp [h1, h2]
theorem rp_snoc (p : Int) (xs : List Int) (y : Int) : flat (rp p (xs ++ [y])) = flat (rp p xs) ++ [.int .i64 y, .int .i64 p] := by
  unfold rp
  rw [List.map_append, List.map_singleton, flat_snoc]

theorem news_pair (w : World) (t : TypeId) (x y : Value) : ∀ (j : Nat) (u : Value), [x, y][j]? = some u → (w.alloc (.cells #[x, y] t)).cell? (({ block := w.heap.size, off := 0 } : Addr).add j) = some u := by
  intro j u hj
  match j, hj with
  | 0, hj => simp at hj; subst hj; simp [Addr.add]
  | 1, hj => simp at hj; subst hj; simp [Addr.add]

/-- what both loops keep -/
structure TbI (B x : Nat) (p : Int) (N : Nat) (f : Nat → Nat → Int) (w : World) (v : Value) (T : Nat) (W : World) : Prop where
  own : W.ownsRow (x + 1) 119 2 v T (flat (rp p (entN p N f T)))
  below : Below w.heap.size w W
  xz : x < W.heap.size
  r0 : W.cell? ⟨B, 0, none⟩ = some (.int .i64 0)
  r1 : W.cell? ⟨B, 1, none⟩ = some (.slice none 0 0)
  q0 : W.frozen? ⟨B, 0, none⟩ = false
  q1 : W.frozen? ⟨B, 1, none⟩ = false
  x0 : W.cell? ⟨x, 0, none⟩ = some (.int .i64 (N : Int))
  x1 : W.cell? ⟨x, 1, none⟩ = some v
  xf : W.frozen? ⟨x, 1, none⟩ = false

theorem TbI.step {B x : Nat} {p : Int} {N : Nat} {f : Nat → Nat → Int} {w : World} {v : Value} {T : Nat} {wr w1 w3 : World} {v' : Value} (h : TbI B x p N f w v T wr) (hBx : B < x) (hw : w.heap.size ≤ x) (bb : Below wr.heap.size wr w1) (hch : Chg (x + 1) w1.heap.size w1 w3)
    (hB3 : Below w.heap.size w w3) (hown : w3.ownsRow (x + 1) 119 2 v' (T + 1) (flat (rp p (entN p N f (T + 1))))) : TbI B x p N f w v' (T + 1) (w3.setCell ⟨x, 1, none⟩ v') := by
  have hxz := h.xz
  have hs1 := bb.size
  have hs3 := hch.size
  have kc : ∀ (b o : Nat) (u : Value), b < x + 1 → wr.cell? ⟨b, o, none⟩ = some u → w3.cell? ⟨b, o, none⟩ = some u := fun b o u hb hu => hch.cell (bb.keep hu) (.inl hb)
  have kf : ∀ (b o : Nat), b < x + 1 → wr.frozen? ⟨b, o, none⟩ = false → w3.frozen? ⟨b, o, none⟩ = false := fun b o hb hu => hch.frozen (show b < w1.heap.size by omega) (.inl hb) (bb.keepf (show b < wr.heap.size by omega) hu)
  refine ⟨?_, hB3.setCell hw _, by rw [World.size_setCell]; omega, ?_, ?_, ?_, ?_, ?_, ?_, ?_⟩
  · exact ownsRow_chg hown ((Chg.refl x (x + 1) _).setCell (p := ⟨x, 1, none⟩) ⟨Nat.le_refl _, Nat.lt_succ_self _⟩ v') (fun k hk => by have := (hown.lt k hk).1; exact .inr this)
  · rw [World.cell?_setCell_other _ _ _ _ (by simp)]; exact kc _ _ _ (by omega) h.r0
  · rw [World.cell?_setCell_other _ _ _ _ (by first | (simp; done) | (simp; omega))]; exact kc _ _ _ (by omega) h.r1
  · rw [World.frozen?_setCell]; exact kf _ _ (by omega) h.q0
  · rw [World.frozen?_setCell]; exact kf _ _ (by omega) h.q1
  · rw [World.cell?_setCell_other _ _ _ _ (by simp)]; exact kc _ _ _ (by omega) h.x0
  · exact World.cell?_setCell_same _ _ _ (kc _ _ _ (by omega) h.x1)
  · rw [World.frozen?_setCell]; exact kf _ _ (by omega) h.xf

set_option maxHeartbeats 3200000 in
theorem tableOfR {lo hi : Nat} (p : Int) (N : Nat) (f : Nat → Nat → Int) (x0 : Nat) (a : Option Addr) (c : Nat) (w : World) (h : RdR lo hi w (.slice a N c) (tab N f)) (h0 : w.cell? ⟨x0, 0, none⟩ = some (.int .i64 p))
    (hf : ∀ i j, i < N → j < N → -1000000000000 ≤ f i j ∧ f i j ≤ 1000000000000) (hN : N ≤ 20) (hp : 1 ≤ p ∧ p ≤ 10007) :
    Calls Try.prog 156 #[.slice a N c, .func (Fn.func 157) #[] #[.pointer (some ⟨x0, 0, none⟩)]] w fun e w' => ∃ v, e = .returned (.agg #[.int .i64 (N : Int), v]) ∧ w'.ownsRow w.heap.size 119 2 v (N * N) (flat (rp p (entN p N f (N * N)))) ∧ Below w.heap.size w w' := by
  obtain ⟨i0, hi', z0, z1, z2⟩ := info_parts Try.info119
  have HRR := Lib.hid (fun W (hB : Below w.heap.size w W) => (h.below hB).at (tab_len N f))
  have H0 := Lib.hid (fun W (hB : Below w.heap.size w W) => hB.keep h0)
  have HFB := Lib.hid hf
  clear h h0 hf
  go_enter Try.func156, Try.ntmps156
  go_wp2
  have HT : Hid (TbI w.heap.size (w.heap.size + 1) p N f w (.slice none 0 0) 0 ((w.alloc (.cells #[.int .i64 0, .slice none 0 0] 115)).alloc (.cells #[.int .i64 (N : Int), .slice none 0 0] 115))) := Lib.hid ⟨⟨rfl, .inl ⟨rfl, rfl⟩⟩, ((Below.refl _ _).alloc (Nat.le_refl _) _).alloc (by simp) _, by simp, by go_simp, by go_simp, by go_simp, by go_simp, by go_simp, by go_simp, by go_simp⟩
  obtain ⟨x, hx⟩ : ∃ x, x = w.heap.size + 1 := ⟨_, rfl⟩
  obtain ⟨B, hBB⟩ : ∃ B, B = w.heap.size := ⟨_, rfl⟩
  rw [← hx] at HT ⊢
  have HBX := Lib.hid (⟨hBB, hx⟩ : _ ∧ _)
  have hBx : B < x := by omega
  have HWX : Hid (w.heap.size ≤ x) := Lib.hid (by omega)
  rw [← hBB] at ⊢
  have HTB : Hid (TbI B x p N f w (.slice none 0 0) 0 _) := Lib.hid (by rw [hBB]; exact HT.out)
  clear HT
  have HWB : Hid (w.heap.size = B) := Lib.hid (by omega)
  clear hx hBB
  generalize (w.alloc _).alloc _ = V0 at HTB ⊢
  go_loopw [15] (fun i wr => ∃ (k T : Nat) (v : Value), k ≤ N ∧ i = .int .i64 k ∧ Hid (T = k * N) ∧ TbI B x p N f w v T wr) (fun i _ => N - (intOf i).toNat)
  case atStart => exact ⟨0, 0, _, Nat.zero_le _, rfl, Lib.hid (by omega), HTB.out⟩
  case round =>
    clear HTB
    obtain ⟨k, T, v, hk, rfl, HTE, hI⟩ := hrel
    obtain ⟨U, rfl⟩ : ∃ U, U = wr := ⟨_, rfl⟩
    by_cases hlt : k < N
    · obtain ⟨rb, ro, rv, rfl, h1, r1⟩ := HRR.out w (Below.refl _ _) k hlt
      obtain ⟨ra, rc, rfl⟩ := r1.shape
      rw [tab_rlen f hlt] at h1 r1
      have HC1 := Lib.hid (r1.at (tab_rlen f hlt))
      have HU := Lib.hid (hI.below.keep h1)
      have h2 := HU.out
      have HI0 := Lib.hid hI
      clear r1 h1 hI
      go_wp2
      clear h2
      go_loopw [21] (fun i wr2 => ∃ (j T2 : Nat) (v2 : Value), j ≤ N ∧ i = .int .i64 j ∧ Hid (T2 = k * N + j) ∧ TbI B x p N f w v2 T2 wr2) (fun i _ => N - (intOf i).toNat)
      case atStart => exact ⟨0, T, v, Nat.zero_le _, rfl, Lib.hid (by rw [HTE.out]; rfl), HI0.out⟩
      case round =>
        rename_i hrel
        clear HI0
        obtain ⟨j, T2, v2, hj, rfl, HT2, hI⟩ := hrel
        by_cases hlj : j < N
        · obtain ⟨eb, eo, rfl, g0⟩ := HC1.out j hlj
          rw [tab_get f hlt hlj] at g0
          replace g0 := hI.below.keep g0
          have hyb := HFB.out k j hlt hlj
          have HSN := Lib.hid (entN_snoc (p := p) (f := f) HT2.out hlj)
          have HT400 : T2 ≤ 400 := by
            have := Nat.mul_le_mul (show k ≤ 19 by omega) (show N ≤ 20 by omega)
            have := HT2.out
            omega
          generalize f k j = y at g0 hyb HSN
          obtain ⟨z, hz⟩ : ∃ z, z = y % p := ⟨_, rfl⟩
          rw [← hz] at HSN
          have HFN := Lib.hid (fun W (hk0 : W.cell? ⟨x0, 0, none⟩ = some (.int .i64 p)) => show Calls Try.prog 157 #[.int .i64 y, .pointer (some ⟨x0, 0, none⟩)] W fun e w' => e = .returned (.agg #[.int .i64 z, .int .i64 p]) ∧ Below W.heap.size W w' by
            have := tableFn y p x0 W hk0 hyb hp
            rw [← hz] at this
            exact this)
          have HI := Lib.hid hI
          have hxz := hI.xz
          have c1 := hI.x1
          have HM := Lib.hid (⟨(Qt.refl wr).drew.below.keep (H0.out wr hI.below), hI.xf⟩ : _ ∧ _)
          have h63 : T2 + 1 ≤ maxLen := by unfold maxLen; omega
          have hby : (T2 + 1) * 16 ≤ 140737488355328 := by omega
          clear hz hyb hI
          go_wp2
          go_region_law (first
            | (go_simp; go_at_call 157; refine (HFN.out _ HM.out.1).mono ?_; rintro e w1 ⟨rfl, b1⟩; have bb := ((Qt.refl wr).drew).below.next b1; have g1 := bb.keep c1; have g1a := ((Below.refl w1.heap.size w1).alloc (Nat.le_refl _) (.cells #[.int .i64 z, .int .i64 p] 119)).keep g1; have hownP := ownsRow_chg HI.out.own (bb.chg 0 0) (fun _ _ => .inr (Nat.zero_le _)); have hown1 := hownP.alloc (.cells #[.int .i64 z, .int .i64 p] 119); have hnews := news_pair w1 119 (.int .i64 z) (.int .i64 p); have hone : ∀ u ∈ [Value.int .i64 z, Value.int .i64 p], u.oneCell' = true := (fun u hu => by simp at hu; rcases hu with rfl | rfl <;> rfl); have hbase : x + 1 ≤ (w1.alloc (.cells #[.int .i64 z, .int .i64 p] 119)).heap.size := by { have := bb.size; simp; omega })
            | (refine step_append_lies (w1.alloc (.cells #[.int .i64 z, .int .i64 p] 119)) rfl (.tmp 26) (.tmp 30) 113 rfl (x + 1) 119 i0 (.agg #[.int .i64 0, .int .i64 0]) 2 16 Try.underlying113 hi' z0 z1 z2 rfl (by decide) v2 T2 (flat (rp p (entN p N f T2))) (by simp [Act.eval, Act.put]) hown1 ⟨w1.heap.size, 0, none⟩ 1 1 [.int .i64 z, .int .i64 p] (by simp [Act.eval, Act.put]) rfl hnews hone (by decide) h63 hby hbase (w1.alloc (.cells #[.int .i64 z, .int .i64 p] 119)).heap.size rfl ?_; intro g2 c3 w3 hown3 hgr hlie hlt3; obtain ⟨hB3, hz3, hcl, hch⟩ := grown_own (HI.out.below.next bb) hownP (Nat.le_succ_of_le (by have := HWB.out; omega)) hgr; have y5 := hcl _ _ (Nat.lt_succ_self x) g1; have yf5 := hch.frozen (show x < w1.heap.size from Nat.lt_of_lt_of_le hxz bb.size) (.inl (Nat.lt_succ_self x)) (bb.keepf (show x < wr.heap.size from hxz) HM.out.2)))
          all_goals
            have hown4 : w3.ownsRow (x + 1) 119 2 (.slice (some ⟨g2, 0, none⟩) (T2 + 1) c3) (T2 + 1) (flat (rp p (entN p N f (T2 + 1)))) := by
              rw [HSN.out, rp_snoc]; exact hown3
            have HN := Lib.hid (HI.out.step hBx HWX.out bb hch hB3 hown4)
            clear hown4 hown3 hch hB3 bb b1 g1 g1a hownP hown1 hnews hone hbase hcl hgr hlie y5 yf5 c1 g0
            go_wp2
            go_roundw
            case rel => exact ⟨j+1, T2+1, _, by omega, by go_num, Lib.hid (by rw [HT2.out]; omega), HN.out⟩
            case measure => simp [intOf]; omega
        · obtain rfl : j = N := by omega
          have HI := Lib.hid hI
          clear hI
          go_wp2
          go_roundw
          case rel => exact ⟨k+1, T2, v2, by omega, by go_num, Lib.hid (by rw [HT2.out, Nat.succ_mul]), HI.out⟩
          case measure => simp [intOf]; omega
    · obtain rfl : k = N := by omega
      have hTN : T = k * k := HTE.out
      have hB := hI.below
      have c0 := hI.x0
      have c1 := hI.x1
      have r0 := hI.r0
      have r1 := hI.r1
      have q0 := hI.q0
      have q1 := hI.q1
      have hown0 := hI.own
      rcases hown0.2 with ⟨rfl, _⟩ | ⟨g, cap, cur, rfl, _⟩
      · have hfin : Below w.heap.size w ((U.setCell ⟨B, 0, none⟩ (.int .i64 (k : Int))).setCell ⟨B, 1, none⟩ (.slice none 0 0)) := (hB.setCell (Nat.le_of_eq HWB.out) _).setCell (Nat.le_of_eq HWB.out) _
        have v0 : ((U.setCell ⟨B, 0, none⟩ (.int .i64 (k : Int))).setCell ⟨B, 1, none⟩ (.slice none 0 0)).cell? ⟨B, 0, none⟩ = some (.int .i64 (k : Int)) := by
          rw [World.cell?_setCell_other _ _ _ _ (by simp)]; exact World.cell?_setCell_same _ _ _ r0
        have v1 : ((U.setCell ⟨B, 0, none⟩ (.int .i64 (k : Int))).setCell ⟨B, 1, none⟩ (.slice none 0 0)).cell? ⟨B, 1, none⟩ = some (.slice none 0 0) := World.cell?_setCell_same _ _ _ (by rw [World.cell?_setCell_other _ _ _ _ (by simp)]; exact r1)
        have hbx : Chg B (B + 1) U ((U.setCell ⟨B, 0, none⟩ (.int .i64 (k : Int))).setCell ⟨B, 1, none⟩ (.slice none 0 0)) := by
          repeat (refine Chg.setCell ?_ (by constructor <;> simp) _)
          exact Chg.refl _ _ _
        have hown := ownsRow_chg hI.own hbx (fun q hq => by have := (hI.own.lt q hq).1; exact .inr (by omega))
        have HO := Lib.hid (ownsRow_mono hown (show w.heap.size ≤ x + 1 by have := HWX.out; omega))
        have HFN := Lib.hid hfin
        clear hI hB hown hbx hfin hTN
        go_wp2
        refine bodyPost_ret (v := .agg #[.int .i64 (k : Int), .slice none 0 0]) (by simp [results, Try.results156, go_sem, v0, v1]) rfl ⟨.slice none 0 0, rfl, by have h9 := HO.out; rw [HTE.out] at h9; first | (rw [HTE.out]; exact h9) | exact h9, HFN.out⟩
      · have hfin : Below w.heap.size w ((U.setCell ⟨B, 0, none⟩ (.int .i64 (k : Int))).setCell ⟨B, 1, none⟩ (.slice (some ⟨g, 0, none⟩) T cap)) := (hB.setCell (Nat.le_of_eq HWB.out) _).setCell (Nat.le_of_eq HWB.out) _
        have v0 : ((U.setCell ⟨B, 0, none⟩ (.int .i64 (k : Int))).setCell ⟨B, 1, none⟩ (.slice (some ⟨g, 0, none⟩) T cap)).cell? ⟨B, 0, none⟩ = some (.int .i64 (k : Int)) := by
          rw [World.cell?_setCell_other _ _ _ _ (by simp)]; exact World.cell?_setCell_same _ _ _ r0
        have v1 : ((U.setCell ⟨B, 0, none⟩ (.int .i64 (k : Int))).setCell ⟨B, 1, none⟩ (.slice (some ⟨g, 0, none⟩) T cap)).cell? ⟨B, 1, none⟩ = some (.slice (some ⟨g, 0, none⟩) T cap) := World.cell?_setCell_same _ _ _ (by rw [World.cell?_setCell_other _ _ _ _ (by simp)]; exact r1)
        have hbx : Chg B (B + 1) U ((U.setCell ⟨B, 0, none⟩ (.int .i64 (k : Int))).setCell ⟨B, 1, none⟩ (.slice (some ⟨g, 0, none⟩) T cap)) := by
          repeat (refine Chg.setCell ?_ (by constructor <;> simp) _)
          exact Chg.refl _ _ _
        have hown := ownsRow_chg hI.own hbx (fun q hq => by have := (hI.own.lt q hq).1; exact .inr (by omega))
        have HO := Lib.hid (ownsRow_mono hown (show w.heap.size ≤ x + 1 by have := HWX.out; omega))
        have HFN := Lib.hid hfin
        clear hI hB hown hbx hfin hTN
        go_wp2
        refine bodyPost_ret (v := .agg #[.int .i64 (k : Int), .slice (some ⟨g, 0, none⟩) T cap]) (by simp [results, Try.results156, go_sem, v0, v1]) rfl ⟨.slice (some ⟨g, 0, none⟩) T cap, rfl, by have h9 := HO.out; rw [HTE.out] at h9; first | (rw [HTE.out]; exact h9) | exact h9, HFN.out⟩

/-- a table reads so -/
def RdT (w : World) (p : Int) (N : Nat) (f : Nat → Nat → Int) (a : Option Addr) : Prop := ∀ i j, i < N → j < N → ∃ g, a = some ⟨g, 0, none⟩ ∧ w.cell? ⟨g, (i * N + j) * 2, none⟩ = some (.int .i64 (f i j % p)) ∧ w.cell? ⟨g, (i * N + j) * 2 + 1, none⟩ = some (.int .i64 p)
theorem RdT.below {w w' : World} {p : Int} {N : Nat} {f : Nat → Nat → Int} {a : Option Addr} (h : RdT w p N f a) (hb : Below w.heap.size w w') : RdT w' p N f a := fun i j hi hj => by
  obtain ⟨g, h1, h2, h3⟩ := h i j hi hj
  exact ⟨g, h1, hb.keep h2, hb.keep h3⟩
theorem entN_get {p : Int} {N : Nat} {f : Nat → Nat → Int} {i j : Nat} (hi : i < N) (hj : j < N) : (entN p N f (N * N)).getD (i * N + j) 0 = f i j % p ∧ i * N + j < N * N := by
  have hlt : i * N + j < N * N := by
    have h1 := Nat.mul_le_mul_right N (show i + 1 ≤ N by omega)
    rw [Nat.succ_mul] at h1
    omega
  refine ⟨?_, hlt⟩
  have h1 : (i * N + j) / N = i := by rw [Nat.mul_comm, Nat.mul_add_div (by omega), Nat.div_eq_of_lt hj, Nat.add_zero]
  have h2 : (i * N + j) % N = j := by rw [Nat.mul_comm, Nat.mul_add_mod, Nat.mod_eq_of_lt hj]
  unfold entN
  simp [List.getD, hlt, h1, h2]
theorem RdT.mk {w : World} {lo : Nat} {p : Int} {N : Nat} {f : Nat → Nat → Int} {v : Value} (h : w.ownsRow lo 119 2 v (N * N) (flat (rp p (entN p N f (N * N))))) : ∃ a c, v = .slice a (N * N) c ∧ N * N ≤ c ∧ RdT w p N f a ∧ c ≤ maxLen := by
  have h' := h
  rcases h.2 with ⟨rfl, h0⟩ | ⟨g, cap, cur, rfl, _, _, hcap, hmax, _⟩
  · refine ⟨none, 0, by rw [h0], by omega, fun i j hi hj => ?_, Nat.zero_le _⟩
    have := (entN_get (p := p) (f := f) hi hj).2
    omega
  · refine ⟨some ⟨g, 0, none⟩, cap, rfl, hcap, fun i j hi hj => ⟨g, rfl, ?_⟩, hmax⟩
    obtain ⟨h1, h2⟩ := entN_get (p := p) (f := f) hi hj
    have hl : i * N + j < (rp p (entN p N f (N * N))).length := by rw [rp_len, entN_len]; exact h2
    obtain ⟨g1, g2⟩ := flat_getE (rp p (entN p N f (N * N))) (i * N + j) hl
    rw [rp_get (by rw [entN_len]; exact h2), h1] at g1 g2
    exact ⟨(World.ownsRow.cellAt h' _ (by omega)).trans g1, (World.ownsRow.cellAt h' _ (by omega)).trans g2⟩

set_option maxHeartbeats 1600000 in
theorem residueTable {lo hi : Nat} (p : Int) (N : Nat) (f : Nat → Nat → Int) (a : Option Addr) (c : Nat) (w : World) (h : RdR lo hi w (.slice a N c) (tab N f))
    (hf : ∀ i j, i < N → j < N → -1000000000000 ≤ f i j ∧ f i j ≤ 1000000000000) (hN : N ≤ 20) (hp : 1 ≤ p ∧ p ≤ 10007) :
    Calls Try.prog 108 #[.int .i64 p, .slice a N c] w fun e w' => ∃ a' c', e = .returned (.agg #[.int .i64 (N : Int), .slice a' (N * N) c']) ∧ N * N ≤ c' ∧ c' ≤ maxLen ∧ RdT w' p N f a' ∧ Below w.heap.size w w' := by
  have hb0 : ∀ o o', Below w.heap.size w ((w.alloc o).alloc o') := fun o o' => ((Below.refl _ _).alloc (Nat.le_refl _) o).alloc (by simp) o'
  have HR := Lib.hid h
  clear h
  go_enter Try.func108, Try.ntmps108
  go_wp2_with fail
  obtain ⟨R, hR⟩ : ∃ R, R = w.heap.size + 1 := ⟨_, rfl⟩
  refine calls_gen (fun W => Below w.heap.size w W ∧ R < W.heap.size ∧ W.cell? ⟨w.heap.size, 0, none⟩ = some (.int .i64 p) ∧ W.cell? ⟨R, 0, none⟩ = some (.int .i64 0) ∧ W.cell? ⟨R, 1, none⟩ = some (.slice none 0 0) ∧ W.frozen? ⟨R, 0, none⟩ = false ∧ W.frozen? ⟨R, 1, none⟩ = false) ⟨hb0 _ _, by rw [hR]; simp, by go_simp, by rw [hR]; go_simp, by rw [hR]; go_simp, by rw [hR]; go_simp, by rw [hR]; go_simp⟩ ?_
  rintro W ⟨hB, hz, k0, c0, c1, f0, f1⟩
  rw [← hR]
  have hRw : w.heap.size ≤ R := by omega
  clear hR
  refine (tableOfR p N f w.heap.size a c W (HR.out.below hB) k0 hf hN hp).mono ?_
  rintro e w1 ⟨v, rfl, ho, b1⟩
  obtain ⟨a', c', rfl, hc', hT, hmx⟩ := RdT.mk ho
  replace c0 := b1.keep c0
  replace c1 := b1.keep c1
  replace f0 := b1.keepf hz f0
  replace f1 := b1.keepf hz f1
  replace hB := hB.next b1
  obtain ⟨M, hM⟩ : ∃ M, M = N * N := ⟨_, rfl⟩
  rw [← hM] at hc' ⊢
  have hf2 : Below w.heap.size w ((w1.setCell ⟨R, 0, none⟩ (.int .i64 (N : Int))).setCell ⟨R, 1, none⟩ (.slice a' M c')) := (hB.setCell hRw _).setCell hRw _
  have v0 : ((w1.setCell ⟨R, 0, none⟩ (.int .i64 (N : Int))).setCell ⟨R, 1, none⟩ (.slice a' M c')).cell? ⟨R, 0, none⟩ = some (.int .i64 (N : Int)) := by
    rw [World.cell?_setCell_other _ _ _ _ (by simp)]; exact World.cell?_setCell_same _ _ _ c0
  have v1 : ((w1.setCell ⟨R, 0, none⟩ (.int .i64 (N : Int))).setCell ⟨R, 1, none⟩ (.slice a' M c')).cell? ⟨R, 1, none⟩ = some (.slice a' M c') := World.cell?_setCell_same _ _ _ (by rw [World.cell?_setCell_other _ _ _ _ (by simp)]; exact c1)
  have hne : ∀ g, a' = some ⟨g, 0, none⟩ → 0 < N → W.heap.size ≤ g := fun g e h0 => by
    subst e
    exact (ho.lt g rfl).1
  have hT2 : RdT ((w1.setCell ⟨R, 0, none⟩ (.int .i64 (N : Int))).setCell ⟨R, 1, none⟩ (.slice a' M c')) p N f a' := fun i j hi hj => by
    obtain ⟨g, e1, e2, e3⟩ := hT i j hi hj
    have := hne g e1 (by omega)
    refine ⟨g, e1, ?_, ?_⟩
    · rw [World.cell?_setCell_other _ _ _ _ (by intro e9; have e8 := congrArg Addr.block e9; dsimp only at e8; omega), World.cell?_setCell_other _ _ _ _ (by intro e9; have e8 := congrArg Addr.block e9; dsimp only at e8; omega)]; exact e2
    · rw [World.cell?_setCell_other _ _ _ _ (by intro e9; have e8 := congrArg Addr.block e9; dsimp only at e8; omega), World.cell?_setCell_other _ _ _ _ (by intro e9; have e8 := congrArg Addr.block e9; dsimp only at e8; omega)]; exact e3
  have HF := Lib.hid (⟨hf2, hT2⟩ : _ ∧ _)
  have HM := Lib.hid hM
  clear hM hf2 hT hT2 ho b1 hne hB
  go_wp2
  refine bodyPost_ret (v := .agg #[.int .i64 (N : Int), .slice a' M c']) (by simp [results, Try.results108, go_sem, v0, v1]) rfl ⟨a', c', by rw [← HM.out], by rw [← HM.out]; exact hc', hmx, HF.out.2, HF.out.1⟩

end Go.Proofs.Ytebgbplhcaocoaa
