/-
  Contracts of layer 8 (matrix): rows of noughts cut from one list. No statement of the seed is proved here.
-/
import Derived.Test.YtmfbgogfefgglaaChecked
import Derived.Test.YtmfbgogfefgglaaMtM
import Derived.Test.YtmfbgogfefgglaaInfo
import Derived.Outline
namespace Go.Proofs.Ytmfbgogfefgglaa
open Go.RowKit
set_option linter.unusedVariables false

theorem tBinfo8 : (Try.prog.info? 37).map (fun i => (i.zero, i.size, i.bytes)) = some (some (.slice none 0 0), 1, 24) := by kernel_rfl
theorem OwV.blk {e : TypeId} {w : World} {g n : Nat} {vs : List Value} (hl : vs.length = n) (h : OwV e w (.slice (some ⟨g, 0, none⟩) n n) vs) : Blk w g e vs := by
  unfold OwV at h
  rcases h.2 with ⟨e1, _⟩ | ⟨g', cap, cur, e1, _, hg, _, _, hcs, ht⟩
  · cases e1
  · injection e1 with e1 e2 e3
    injection e1 with e1; injection e1 with e1
    subst e1 e3
    have : cur = vs.toArray := by
      rw [← ht, List.take_of_length_le (by simp; omega)]
    subst this
    exact hg
/-- make([]T, n) of cells of any kind. -/
theorem wpList_make_vals {P : Program} {w : World} {ops : Array Oper} {rest : List Oper} {o : Oper} {a : Act} {Q : Exit → Act → World → Prop}
    (hg : o.guard = none) (l c : Operand) (t : TypeId) (hop : o.op = Op.makeSlice t l c) (e : TypeId) (i : TypeInfo) (z : Value) (hz1 : z.cells = #[z]) (h1 : P.underlying t = some (.slice e)) (h2 : P.info? e = some i) (h3 : i.zero = some z) (h4 : i.size = 1)
    (kl kc : IntKind) (L C : Int) (n : Nat) (hl : a.eval l = .int kl L) (hc : a.eval c = .int kc C) (hL : L = (n : Int)) (hC : C = (n : Int)) (b2 : i.bytes * n ≤ 281474976710656) (b3 : n ≤ maxLen)
    (hK : ∀ w', Blk w' w.heap.size e (List.replicate n z) → Kept [] w w' → wpList P ops Q rest (a.put o.dst (.slice (some ⟨w.heap.size, 0, none⟩) n n)) w') : wpList P ops Q (o :: rest) a w := by
  refine wpList_make_full w hg l c t hop 0 e i z 1 h1 h2 h3 h4 kl kc L C n hl hc hL hC b2 b3 (Nat.zero_le _) fun w' h g => hK w' ?_ ⟨g.os, g.tape, g.output, g.size, fun k hk _ => g.block k hk (by simp)⟩
  rw [hz1, toList_madeCells_one, Nat.mul_one] at h
  exact OwV.blk List.length_replicate (by unfold OwV; rw [List.length_replicate]; exact h)
/-- A matrix of the call's own. -/
def MRet (n k : Nat) (m : Nat → Nat → GB) (w : World) (e : Ending) (w' : World) : Prop := ∃ R G off, e = .returned (.slice (some ⟨R, 0, none⟩) n n) ∧ OwM w' R G n k off m ∧ w.heap.size ≤ R ∧ w.heap.size ≤ G ∧ Kept [] w w'
set_option maxRecDepth 100000 in
set_option maxHeartbeats 1000000 in
theorem blank8_any (n k : Nat) (y z : Int) (w : World) (hy : y = (n : Int)) (hz : z = (k : Int)) (hn : n ≤ 255) (hk : k ≤ 510) (hk0 : 0 < k) :
    Calls Try.prog 27 #[.int .i64 y, .int .i64 z] w (MRet n k (fun _ _ => 0) w) := by
  subst hy hz
  obtain ⟨i0, hi0, hz0, hz1, hz2⟩ := info_parts u8info
  obtain ⟨i1, hj0, hy0, hy1, hy2⟩ := info_parts tBinfo8
  obtain ⟨N, hN⟩ : ∃ N, N = n * k := ⟨_, rfl⟩
  have hNb : N ≤ 255 * 510 := by rw [hN]; exact Nat.mul_le_mul hn hk
  have hmul : (n : Int) * (k : Int) = (N : Int) := by rw [hN]; exact (Int.natCast_mul n k).symm
  have HNe := Lib.hid hN
  clear hN
  go_enter Try.func27, Try.ntmps27
  go_wp2_with (with_reducible change wpList _ _ _ (⟨_, Op.makeSlice _ _ _, _, _, _, _⟩ :: _) _ _; refine wpList_make_bytes rfl (.tmp 10) (.tmp 10) 37 rfl 5 i0 Try.underlying37 hi0 hz0 hz1 hz2 _ _ _ _ N rfl rfl (by first | rfl | omega) (by first | rfl | omega) (by omega) ?_)
  intro w1 ho1 hk1
  have hB1 := ho1.blk
  obtain ⟨G, hG⟩ : ∃ G, G = w.heap.size := ⟨_, rfl⟩
  rw [← hG] at hB1 ⊢
  have hwG : w.heap.size ≤ G := by omega
  have HB1 := Lib.hid hB1
  have HK1 := Lib.hid hk1
  clear ho1 hB1 hk1 hG
  go_wp2_with (with_reducible change wpList _ _ _ (⟨_, Op.makeSlice _ _ _, _, _, _, _⟩ :: _) _ _; refine wpList_make_vals rfl (.tmp 12) (.tmp 12) 22 rfl 37 i1 (.slice none 0 0) rfl Try.underlying22 hj0 hy0 hy1 _ _ _ _ n rfl rfl rfl rfl (by rw [hy2]; omega) (by simp only [maxLen]; omega) ?_)
  intro w2 hB2 hk2
  obtain ⟨R, hR⟩ : ∃ R, R = w1.heap.size := ⟨_, rfl⟩
  rw [← hR] at hB2 ⊢
  have hRG : R ≠ G := by have := HB1.out.lt; omega
  have hwR : w.heap.size ≤ R := by have := HK1.out.size; omega
  have HB2 := Lib.hid (HB1.out.kept0 hk2)
  have HK2 := Lib.hid (HK1.out.andThen hk2)
  have hB2' : Blk w2 R 37 (rm n fun i => if i < 0 then .slice (some ⟨G, i * k, none⟩) k k else .slice none 0 0) := hB2.of_eq (rm_ext List.length_replicate (fun i hi => by rw [List.getElem?_replicate, if_pos hi]; rfl))
  clear hB2 hk2 hR HB1 HK1
  go_wp2
  go_loopw [16] (fun i wr => ∃ r : Nat, r ≤ n ∧ i = .int .i64 (r : Int) ∧ Blk wr R 37 (rm n fun i => if i < r then .slice (some ⟨G, i * k, none⟩) k k else .slice none 0 0) ∧ Hid (Blk wr G 5 (bvs (List.replicate N 0))) ∧ Hid (Kept [] w wr)) (fun i _ => n - (intOf i).toNat)
  case atStart => exact ⟨0, by omega, rfl, hB2', HB2, HK2⟩
  case round =>
    clear hB2' HB2 HK2
    obtain ⟨r, hr, rfl, hB, HG, HK⟩ := hrel
    by_cases hlt : r < n
    · obtain ⟨P, hP⟩ : ∃ P, P = r * k := ⟨_, rfl⟩
      have hPk : P + k ≤ N := by
        rw [hP, HNe.out, ← Nat.succ_mul]
        exact Nat.mul_le_mul_right k hlt
      have hm1 : (r : Int) * (k : Int) = (P : Int) := by rw [hP]; exact (Int.natCast_mul r k).symm
      obtain ⟨E, hE⟩ : ∃ E, E = P + k := ⟨_, rfl⟩
      have hm2 : ((r : Int) + 1) * (k : Int) = (E : Int) := by rw [Int.add_mul, hm1, Int.one_mul, hE, Int.natCast_add]
      have f1 := hB.frz r
      obtain ⟨u, c1⟩ : ∃ u, wr.cell? ⟨R, r, none⟩ = some u := ⟨_, by rw [hB.cell, rm_get hlt]⟩
      have HF : Hid (Blk (wr.setCell ⟨R, r, none⟩ (.slice (some ⟨G, P, none⟩) k k)) R 37 (rm n fun i => if i < r + 1 then .slice (some ⟨G, i * k, none⟩) k k else .slice none 0 0)) := Lib.hid ((hB.set r (.slice (some ⟨G, P, none⟩) k k)).of_eq (by
        rw [rm_set]
        refine rm_congr fun i hi => ?_
        by_cases e : i = r
        · rw [if_pos e, if_pos (by omega), hP, e]
        · rw [if_neg e]
          by_cases e2 : i < r
          · rw [if_pos e2, if_pos (by omega)]
          · rw [if_neg e2, if_neg (by omega)]))
      have HG' : Hid (Blk (wr.setCell ⟨R, r, none⟩ (.slice (some ⟨G, P, none⟩) k k)) G 5 (bvs (List.replicate N 0))) := Lib.hid (HG.out.set_other r _ (fun e => hRG e.symm))
      have HK' : Hid (Kept [] w (wr.setCell ⟨R, r, none⟩ (.slice (some ⟨G, P, none⟩) k k))) := Lib.hid (HK.out.setCell (.inr hwR) _)
      have hcut : ∀ (y z : Int) W, y = (P : Int) → z = (E : Int) → (Instr.slice 37 (.slice (some ⟨G, 0, none⟩) N N) (some (.int .i64 y)) (some (.int .i64 z)) (some (.int .i64 z))).run Try.prog W = .ok (.slice (some ⟨G, P, none⟩) k k) W := by
        rintro y z W rfl rfl
        have he : Try.prog.elem 37 = 5 := by simp [Program.elem, Try.underlying37]
        have hsz : (sizeOf (Try.prog.elem 37)).run Try.prog W = .ok 1 W := by rw [he]; simp [sizeOf, typeInfo, hi0, hz1]
        rw [run_slice_lhm (P := Try.prog) W 37 _ N N (by rw [he]; exact Try.underlying37) .i64 .i64 .i64 _ _ _ (by omega) (by omega) (by omega) (by omega), hsz]
        simp [sliced, Result.andThen, Addr.add_mid, show E ≠ P by omega, show E - P = k by omega]
      have hcut1 := fun W => hcut ((r : Int) * (k : Int)) (((r : Int) + 1) * (k : Int)) W hm1 hm2
      rw [hm1, hm2] at hcut1
      have hE1 : E ≤ N := by omega
      have hE2 : P ≤ E := by omega
      clear hcut hB HG HK hP hE hPk
      go_wp2
      obtain ⟨w8, h8⟩ : ∃ w8, w8 = wr.setCell ⟨R, r, none⟩ (.slice (some ⟨G, P, none⟩) k k) := ⟨_, rfl⟩
      rw [← h8] at HF HG' HK'
      rw [← h8]
      clear h8
      go_wp2
      go_roundw
      case rel => exact ⟨r + 1, by omega, by go_num, HF.out, HG', HK'⟩
      case measure => simp [intOf]; omega
    · obtain rfl : n = r := by omega
      have HO : Hid (OwM wr R G n k (fun i => i * k) (fun _ _ => 0)) := Lib.hid ⟨hRG, hB.of_eq (rm_congr fun i hi => by rw [if_pos hi]), ⟨_, HG.out⟩, fun i hi j hj => by
        have h1 : i * k + j < N := by
          have : i * k + k ≤ N := by rw [HNe.out, ← Nat.succ_mul]; exact Nat.mul_le_mul_right k hi
          omega
        rw [HG.out.cell, bvs_zeros, List.getElem?_replicate, if_pos h1]
        rfl, fun i hi i' hi' hne j hj j' hj' e => by
        rcases Nat.lt_or_gt_of_ne hne with h | h
        · have : (i + 1) * k ≤ i' * k := Nat.mul_le_mul_right k h
          rw [Nat.succ_mul] at this
          omega
        · have : (i' + 1) * k ≤ i * k := Nat.mul_le_mul_right k h
          rw [Nat.succ_mul] at this
          omega⟩
      clear hB HG
      go_wp2
      go_ret
      exact ⟨R, G, _, rfl, HO.out, hwR, hwG, HK.out⟩
end Go.Proofs.Ytmfbgogfefgglaa
