/-
  Contracts of layer 10 (names): the rune with which a text begins, by Go's library; which text stands ahead. No statement of the seed is proved here.
-/
import Derived.Test.YtboienifeciidaaDoorNm2
import Derived.Test.YtboienifeciidaaDoorStrU
import Derived.Shelf.Unicode.DecodeAny
namespace Go.Proofs.YtboienifeciidaaDoor
open Go.RowKit Go.Shelf
set_option linter.unusedVariables false

def dren : Ren := ⟨fun | 197 => 9 | 260 => 17 | n => n, fun | 9 => 9 | 21 => 21 | 3 => 3 | 4 => 4 | 5 => 5 | 105 => 29 | 119 => 53 | 0 => 0 | 46 => 48 | 139 => 56 | 138 => 55 | n => n, fun | 3 => 0 | 4 => 1 | n => n⟩
theorem lays197 : Lays.n197 Tryd.prog dren := {
  mixed := by kernel_rfl
  f197 := Tryd.func9.trans (congrArg some (by kernel_rfl))
  f260 := Tryd.func17.trans (congrArg some (by kernel_rfl))
  t0 := Tryd.underlying0
  a0 := Tryd.isAgg0
  z0 := Tryd.sizeOf0
  v0 := Tryd.zeroValue0
  t3 := Tryd.underlying3
  a3 := Tryd.isAgg3
  z3 := Tryd.sizeOf3
  v3 := Tryd.zeroValue3
  t4 := Tryd.underlying4
  a4 := Tryd.isAgg4
  z4 := Tryd.sizeOf4
  v4 := Tryd.zeroValue4
  t5 := Tryd.underlying5
  a5 := Tryd.isAgg5
  z5 := Tryd.sizeOf5
  v5 := Tryd.zeroValue5
  t9 := Tryd.underlying9
  a9 := Tryd.isAgg9
  z9 := Tryd.sizeOf9
  v9 := Tryd.zeroValue9
  t21 := Tryd.underlying21
  a21 := Tryd.isAgg21
  z21 := Tryd.sizeOf21
  v21 := Tryd.zeroValue21
  t46 := Tryd.underlying48
  a46 := Tryd.isAgg48
  z46 := Tryd.sizeOf48
  v46 := Tryd.zeroValue48
  t105 := Tryd.underlying29
  a105 := Tryd.isAgg29
  z105 := Tryd.sizeOf29
  v105 := Tryd.zeroValue29
  t119 := Tryd.underlying53
  a119 := Tryd.isAgg53
  z119 := Tryd.sizeOf53
  t138 := Tryd.underlying55
  a138 := Tryd.isAgg55
  z138 := Tryd.sizeOf55
  v138 := Tryd.zeroValue55
  t139 := Tryd.underlying56
  a139 := Tryd.isAgg56
  z139 := Tryd.sizeOf56
  v139 := Tryd.zeroValue56
  g3 := by kernel_rfl
  g4 := by kernel_rfl }

/-- What the library's tables hold. -/
def Glob (w : World) : Prop := Lib.Utf8Tabs 0 1 w
theorem Glob.kept0 {w w' : World} (h : Glob w) (hk : Kept [] w w') : Glob w' := by
  have hc : ∀ (p : Addr) (v : Value), w.cell? p = some v → w'.cell? p = some v := fun p v hv => by
    rw [hk.cell (World.block_lt_of_cell? w _ hv) (by simp)]; exact hv
  exact ⟨fun c h1 => hc _ _ (h.1 c h1), fun i h1 => ⟨hc _ _ (h.2 i h1).1, hc _ _ (h.2 i h1).2⟩⟩
theorem nDec_none (s : ByteArray) (w : World) (hT : Glob w) (h : s.size = 0) :
    Calls Tryd.prog 9 #[.string s] w fun e w' => e = .returned (.tuple #[.int .i32 65533, .int .i64 0]) ∧ Below w.heap.size w w' := by
  refine (Any.utf8_DecodeRuneInString lays197 s w hT).mono ?_
  rintro e w' ⟨rfl, hb⟩
  refine ⟨?_, hb⟩
  unfold Lib.decodeGo
  rw [if_pos h]
  rfl
theorem nDec_some (s : ByteArray) (w : World) (hT : Glob w) (h : 0 < s.size) (c d : Nat) (hd : decL (strL s) = (c, d)) :
    Calls Tryd.prog 9 #[.string s] w fun e w' => e = .returned (.tuple #[.int .i32 (c : Int), .int .i64 (d : Int)]) ∧ Below w.heap.size w w' := by
  refine (Any.utf8_DecodeRuneInString lays197 s w hT).mono ?_
  rintro e w' ⟨rfl, hb⟩
  refine ⟨?_, hb⟩
  have hg : Lib.decodeGo s = (c, d) := by
    unfold Lib.decodeGo
    rw [if_neg (by omega), decode_decL, List.drop_zero]
    exact hd
  rw [hg]

set_option maxRecDepth 100000 in
set_option maxHeartbeats 4000000 in
theorem nLess_any (a b : ByteArray) (w : World) (hT : Glob w) (ha : a.size ≤ 1000000) (hb : b.size ≤ 1000000) :
    Calls Tryd.prog 5 #[.string a, .string b] w fun e w' => e = .returned (.bool (lexL (runesL (strL a)) (runesL (strL b)))) ∧ Kept [] w w' := by
  obtain ⟨R, hR⟩ : ∃ R, lexL (runesL (strL a)) (runesL (strL b)) = R := ⟨_, rfl⟩
  rw [hR]
  have HR := Lib.hid hR
  have HT := Lib.hid hT
  clear hR hT
  go_enter Tryd.func5, Tryd.ntmps5
  go_wp2
  go_loopw [1] (fun t wr => ∃ (pos : Nat) (u : ByteArray), pos ≤ a.size ∧ t = .string u ∧ wr.heap[w.heap.size]? = some (.stringIter a pos) ∧ Below w.heap.size w wr ∧ u.size ≤ 1000000 ∧ Hid (R = lexL (runesL ((strL a).drop pos)) (runesL (strL u)))) (fun _ wr => a.size - wr.iterPos w.heap.size)
  case atStart =>
    refine ⟨0, b, by omega, rfl, ?_, (Below.refl _ w).alloc (Nat.le_refl _) _, hb, Lib.hid (by rw [List.drop_zero, HR.out])⟩
    exact World.iter_heap w a 0
  case round =>
    obtain ⟨pos, u, hps, rfl, hit, hbw, hus, Hr⟩ := hrel
    have hsz : w.heap.size < wr.heap.size := (Array.getElem?_eq_some_iff.1 hit).1
    by_cases hp : pos < a.size
    · obtain ⟨c, d, hd, _, hd1, _, hd2, hc, hr⟩ := dec_at a pos hp
      have hnx : ∀ ty, (Instr.next (.pointer (some ⟨w.heap.size, 0, none⟩)) true ty).run Tryd.prog wr = .ok (.tuple #[.bool true, .int .i64 pos, .int .i32 c]) (wr.iterAt w.heap.size a (pos + d)) := fun ty => by
        rw [Lib.run_next_any_at wr w.heap.size a pos ty hit hp, hd]
      have hit2 := Lib.iterAt_heap wr w.heap.size a pos (pos + d) hit
      have hbw2 := Lib.below_iterAt hbw (k := w.heap.size) (Nat.le_refl _) a (pos + d)
      have HG : Hid (Glob (wr.iterAt w.heap.size a (pos + d))) := Lib.hid (HT.out.kept0 (Kept.of_below hbw2))
      have hsz2 : w.heap.size < (wr.iterAt w.heap.size a (pos + d)).heap.size := by rw [Lib.iterAt_size]; exact hsz
      have Hra := Lib.hid hr
      clear hr hd
      by_cases hu0 : u.size = 0
      · have hul : strL u = [] := List.length_eq_zero_iff.1 (by rw [strL_length]; exact hu0)
        have Hf : Hid (R = false) := Lib.hid (by rw [Hr.out, Hra.out, hul, runesL_nil]; rfl)
        clear hul Hr
        go_wp2_with (go_at_call 9; refine (nDec_none u _ HG.out hu0).mono ?_; rintro e w2 ⟨rfl, hb2⟩)
        go_ret
        exact ⟨by rw [Hf.out] <;> rfl, (Kept.of_below hbw2).andThen (Kept.of_below hb2)⟩
      · obtain ⟨c2, d2, _, hdl, he1, _, he2, hc2, hr2⟩ := dec_at u 0 (by omega)
        rw [List.drop_zero] at hdl hr2
        rw [Nat.zero_add] at he2 hr2
        have hu1 : 0 < u.size := by omega
        have hdn : ¬ (d2 : Int) = 0 := by omega
        have Hdl := Lib.hid hdl
        have Hr2 := Lib.hid hr2
        clear hdl hr2
        by_cases hcc : c = c2
        · subst hcc
          obtain ⟨t, ht, htl, hts⟩ := str_from (P := Tryd.prog) (t := 9) u d2 he2 Tryd.underlying9
          have Hr3 : Hid (R = lexL (runesL ((strL a).drop (pos + d))) (runesL (strL t))) := Lib.hid (by rw [Hr.out, Hra.out, Hr2.out, htl]; simp [lexL])
          have ht6 : t.size ≤ 1000000 := by omega
          clear htl Hr
          go_wp2_with (go_at_call 9; refine (nDec_some u _ HG.out hu1 c d2 Hdl.out).mono ?_; rintro e w2 ⟨rfl, hb2⟩)
          have hi2 := (hb2.block w.heap.size hsz2).trans hit2
          go_roundw
          case rel => exact ⟨pos + d, t, by omega, rfl, hi2, hbw2.trans (hb2.mono (by omega)), ht6, Hr3⟩
          case measure =>
            simp only [World.iterPos, hi2, hit]
            omega
        · have hbb : ((c : Int) != (c2 : Int)) = true := bne_iff_ne.2 (by omega)
          have Hf : Hid (R = decide ((c : Int) < (c2 : Int))) := Lib.hid (by
            rw [Hr.out, Hra.out, Hr2.out]
            simp only [lexL, if_neg hcc]
            exact decide_eq_decide.2 (by omega))
          obtain ⟨z1, hz1⟩ : ∃ z : Int, (c : Int) = z := ⟨_, rfl⟩
          obtain ⟨z2, hz2⟩ : ∃ z : Int, (c2 : Int) = z := ⟨_, rfl⟩
          have HD : ∀ W, Glob W → Calls Tryd.prog 9 #[.string u] W fun e w' => e = .returned (.tuple #[.int .i32 z2, .int .i64 (d2 : Int)]) ∧ Below W.heap.size W w' := fun W hG => by
            rw [← hz2]; exact nDec_some u W hG hu1 c2 d2 Hdl.out
          have HD := Lib.hid HD
          rw [hz1] at hnx hbb Hf
          rw [hz2] at hbb Hf
          clear hcc hz1 hz2 Hr
          go_wp2_with (go_at_call 9; refine (HD.out _ HG.out).mono ?_; rintro e w2 ⟨rfl, hb2⟩)
          go_ret
          exact ⟨by rw [Hf.out] <;> rfl, (Kept.of_below hbw2).andThen (Kept.of_below hb2)⟩
    · have hnx : ∀ ty, (Instr.next (.pointer (some ⟨w.heap.size, 0, none⟩)) true ty).run Tryd.prog wr = _ := fun ty => Lib.run_next_end_at wr w.heap.size a pos ty hit hp
      have Hf : Hid (R = decide (0 < (u.size : Int))) := Lib.hid (by
        rw [Hr.out, drop_end a pos hp, runesL_nil]
        by_cases h0 : u.size = 0
        · rw [show strL u = [] from List.length_eq_zero_iff.1 (by rw [strL_length]; exact h0), runesL_nil, h0]; rfl
        · have hn : strL u ≠ [] := by intro e; have := strL_length u; rw [e] at this; simp at this; omega
          rw [runesL_next _ hn, decide_eq_true (by omega)]; rfl)
      clear Hr
      go_wp2
      go_ret
      exact ⟨by rw [Hf.out] <;> simp, Kept.of_below hbw⟩
end Go.Proofs.YtboienifeciidaaDoor
