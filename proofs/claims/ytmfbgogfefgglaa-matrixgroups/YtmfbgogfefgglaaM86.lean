/-
  Contracts of layer 8 (matrix): the first columns made into those of a unit. No statement of the seed is proved here.
-/
import Derived.Test.YtmfbgogfefgglaaM84
import Derived.Test.YtmfbgogfefgglaaM85
import Derived.Test.YtmfbgogfefgglaaM82
import Derived.Test.YtmfbgogfefgglaaHeld
import Derived.Test.YtmfbgogfefgglaaPures
namespace Go.Proofs.Ytmfbgogfefgglaa
open Go.RowKit
set_option linter.unusedVariables false

def RedRet (R G n k C : Nat) (m : Nat → Nat → GB) (w : World) (e : Ending) (w' : World) : Prop := ∃ r off' m', e = .returned (.int .i64 ((r : Nat) : Int)) ∧ OwM w' R G n k off' m' ∧ Gst n k C m m' r ∧ Kept [R, G] w w'
set_option maxRecDepth 100000 in
set_option maxHeartbeats 4000000 in
theorem reduce8_any (p R G n k C : Nat) (off : Nat → Nat) (m : Nat → Nat → GB) (z : Int) (w : World) (hT : TabAt w p) (hpR : p ≠ R) (hpG : p ≠ G) (hM : OwM w R G n k off m) (hC : C ≤ k) (hz : z = (C : Int)) (hn : n ≤ 1000) (hk : k ≤ 1000) :
    Calls Try.prog 33 #[.pointer (some ⟨p, 0, none⟩), .slice (some ⟨R, 0, none⟩) n n, .int .i64 z] w (RedRet R G n k C m w) := by
  subst hz
  have hmf : ∀ (fn : Fn) (first cap : Array Value) (w : World), (Instr.makeFunc fn first cap).run Try.prog w = .ok (.func fn first cap) w := fun _ _ _ _ => rfl
  have HT := Lib.hid hT
  have HM := Lib.hid hM
  clear hT hM
  go_enter Try.func33, Try.ntmps33
  go_wp2
  go_loopw [7, 11] (fun u v wr => ∃ (r c : Nat) (off' : Nat → Nat) (m' : Nat → Nat → GB), c ≤ C ∧ r ≤ n ∧ u = .int .i64 (r : Int) ∧ v = .int .i64 (c : Int) ∧ Hid (OwM wr R G n k off' m') ∧ Hid (Gst n k c m m' r) ∧ Hid (Kept [R, G] w wr) ∧ Hid (TabAt wr p)) (fun _ v _ => C - (intOf v).toNat)
  case atStart => exact ⟨0, 0, off, m, by omega, by omega, rfl, rfl, HM, Lib.hid (Gst.zero _ _ _), Lib.hid (Kept.refl _ _), HT⟩
  case round =>
    clear HM HT
    obtain ⟨r, c, off', m', hc, hr, rfl, rfl, HM, HG, HK, HT⟩ := hrel
    by_cases hlt : c < C
    · obtain ⟨A, s, hs, hA, hcut⟩ : ∃ A s, r + s = n ∧ (0 < s → A = some ⟨R, r, none⟩) ∧ ∀ W, (Instr.slice 22 (.slice (some ⟨R, 0, none⟩) n n) (some (.int .i64 (r : Int))) none none).run Try.prog W = .ok (.slice A s s) W := by
        refine ⟨if n = r then some ⟨R, 0, none⟩ else some ⟨R, r, none⟩, n - r, by omega, fun h => by rw [if_neg (by omega)], fun W => ?_⟩
        have he : Try.prog.elem 22 = 37 := by simp [Program.elem, Try.underlying22]
        obtain ⟨i1, hj0, hy0, hy1, hy2⟩ := info_parts tBinfo8
        have hsz : (sizeOf (Try.prog.elem 22)).run Try.prog W = .ok 1 W := by rw [he]; simp [sizeOf, typeInfo, hj0, hy1]
        rw [run_slice_l (P := Try.prog) W 22 _ n n (by rw [he]; exact Try.underlying22) .i64 (r : Int) (by omega) (by omega), hsz]
        by_cases e : n = r
        · simp [sliced, Result.andThen, e]
        · simp [sliced, Result.andThen, Addr.add_mid, e]
      have HA := Lib.hid hA
      clear hA
      go_wp2_with fail
      have hK1 : Kept [] wr (wr.alloc (.cells #[.int .i64 (c : Int)] 3)) := (Kept.refl [] wr).alloc _
      have cB : (wr.alloc (.cells #[.int .i64 (c : Int)] 3)).cell? ⟨wr.heap.size, 0, none⟩ = some (.int .i64 (c : Int)) := by rw [cell_of_row _ _ _ _ _ _ (heap_alloc_new wr _)]; rfl
      have HM1 := Lib.hid (HM.out.kept0 hK1)
      have HK1 := Lib.hid (HK.out.andThen hK1)
      have HT1 := Lib.hid (HT.out.kept0 hK1)
      generalize wr.alloc (.cells #[.int .i64 (c : Int)] 3) = W at *
      obtain ⟨Bc, hBc⟩ : ∃ Bc, Bc = wr.heap.size := ⟨_, rfl⟩
      rw [← hBc] at cB ⊢
      clear hK1 hBc HM HK HT hcut
      refine (ixf8_any Bc R G n k c r s A off' m' W HM1.out hn hk (by omega) hs HA.out cB).mono ?_
      rintro e W ⟨rfl, (⟨rfl, Hz⟩ | ⟨q, rfl, hq, Hne⟩)⟩
      · have HG' := Lib.hid (HG.out.skip Hz.out)
        clear cB Hz HG
        go_wp2
        go_roundw
        case rel => exact ⟨r, c + 1, off', m', by omega, hr, rfl, by go_num, HM1, HG', HK1, HT1⟩
        case measure => simp [intOf]; omega
      · obtain ⟨t, ht⟩ : ∃ t, t = r + q := ⟨_, rfl⟩
        have hwr : IntKind.i64.wrap ((r : Int) + (q : Int)) = (t : Int) := by rw [IntWalk.i64_in _ (by omega)]; omega
        rw [← ht] at Hne hq
        have c1 := HM1.out.row hq
        have c2 := HM1.out.row (i := r) (by omega)
        have f1 := HM1.out.frzR t
        have f2 := HM1.out.frzR r
        have htr : r ≤ t := by omega
        have hrn : r < n := by omega
        have HBR : Hid (Bc ≠ R) := Lib.hid (fun e => by subst e; have := HM1.out.rows.cell 0; rw [cB, rm_get (by omega)] at this; cases this)
        obtain ⟨u, c3⟩ : ∃ u, (W.setCell ⟨R, r, none⟩ (.slice (some ⟨G, off' t, none⟩) k k)).cell? ⟨R, t, none⟩ = some u := by
          rw [cell_set HM1.out.rows c2]
          split
          · exact ⟨_, rfl⟩
          · exact ⟨_, c1⟩
        have f3 : (W.setCell ⟨R, r, none⟩ (.slice (some ⟨G, off' t, none⟩) k k)).frozen? ⟨R, t, none⟩ = false := (HM1.out.rows.set _ _).frz t
        have hs1 := HM1.out.swap hrn hq
        have HK2 : Hid (Kept [R, G] w ((W.setCell ⟨R, r, none⟩ (.slice (some ⟨G, off' t, none⟩) k k)).setCell ⟨R, t, none⟩ (.slice (some ⟨G, off' r, none⟩) k k))) := Lib.hid ((HK1.out.setCell (.inl (by simp)) _).setCell (.inl (by simp)) _)
        have hk12 : Kept [R] W ((W.setCell ⟨R, r, none⟩ (.slice (some ⟨G, off' t, none⟩) k k)).setCell ⟨R, t, none⟩ (.slice (some ⟨G, off' r, none⟩) k k)) := ((Kept.refl [R] W).setCell (.inl (by simp)) _).setCell (.inl (by simp)) _
        have HT2 := Lib.hid (HT1.out.kept hk12 (by simpa using hpR))
        have cB2 := (hk12.cell (p := ⟨Bc, 0, none⟩) (World.block_lt_of_cell? W _ cB) (by simpa using HBR.out)).trans cB
        have HS := Lib.hid hs1
        have CB2 := Lib.hid cB2
        have HG' : Hid (Gst n k (c + 1) m (lead1 (fun i => m' (swi r t i)) r c) (r + 1)) := Lib.hid (HG.out.step t htr hq Hne.out)
        have HN : Hid ((fun i => m' (swi r t i)) r c ≠ 0) := Lib.hid (by show m' (swi r t r) c ≠ 0; unfold swi; rw [if_pos rfl]; exact Hne.out)
        clear ht hs1 hk12 cB2
        go_wp2
        go_region_law (fail)
        all_goals
          have hd : Kept [] ((W.setCell ⟨R, r, none⟩ (.slice (some ⟨G, off' t, none⟩) k k)).setCell ⟨R, t, none⟩ (.slice (some ⟨G, off' r, none⟩) k k)) ((W.setCell ⟨R, r, none⟩ (.slice (some ⟨G, off' t, none⟩) k k)).setCell ⟨R, t, none⟩ (.slice (some ⟨G, off' r, none⟩) k k)).drew := (Kept.refl [] _).drew
          have HS' := Lib.hid (HS.out.kept0 hd)
          have HK' := Lib.hid (HK2.out.andThen hd)
          have HT' := Lib.hid (HT2.out.kept0 hd)
          have cB' := (hd.cell (p := ⟨Bc, 0, none⟩) (World.block_lt_of_cell? _ _ CB2.out) (by simp)).trans CB2.out
          clear hd HS HK2 HT2 CB2 c3 f3 c1 c2 f1 f2 hwr cB HM1 HK1 HT1 HG Hne
          generalize ((W.setCell ⟨R, r, none⟩ (.slice (some ⟨G, off' t, none⟩) k k)).setCell ⟨R, t, none⟩ (.slice (some ⟨G, off' r, none⟩) k k)).drew = w2 at *
          go_wp2_with fail
          refine (lead8_any p R G n k r c _ _ _ _ _ HT'.out hpR hpG HS'.out hrn (by omega) HN.out rfl rfl hn hk).mono ?_
          rintro e w3 ⟨rfl, h31, h32⟩
          have H31 := Lib.hid h31
          have H32 : Hid (Kept [R, G] w w3) := Lib.hid (HK'.out.trans h32 (by simp))
          have H33 := Lib.hid (HT'.out.kept h32 (by simpa using hpG))
          clear h31 h32 HS' HK' HT' HN cB'
          go_wp2
          go_roundw
          case rel => exact ⟨r + 1, c + 1, _, _, by omega, by omega, by go_num, by go_num, H31, HG', H32, H33⟩
          case measure => simp [intOf]; omega
    · obtain rfl : C = c := by omega
      go_wp2
      go_ret
      exact ⟨r, off', m', rfl, HM.out, HG.out, HK.out⟩
end Go.Proofs.Ytmfbgogfefgglaa
