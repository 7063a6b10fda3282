/-
  Contracts of layer 10, the document's own: the rune with which a text begins. No statement of the seed is proved here.
-/
import Derived.Test.YtboienifeciidaaDoorNm2
namespace Go.Proofs.YtboienifeciidaaDoor
open Go.RowKit
set_option linter.unusedVariables false

/-- A rune as the document hands it out. -/
def runeOk (l : List UInt8) : Bool := decide (decL l ≠ (65533, 1))
@[irreducible] def runeV (l : List UInt8) : Value := .agg #[.int .i64 (decL l).1, .int .i64 (decL l).2, .bool (runeOk l)]
theorem runeV_of {l : List UInt8} {c d : Nat} (h : decL l = (c, d)) (hn : ¬ (c = 65533 ∧ d = 1)) {zc zd : Int} (hc : (c : Int) = zc) (hd : (d : Int) = zd) : runeV l = .agg #[.int .i64 zc, .int .i64 zd, .bool true] := by
  unfold runeV runeOk
  have hne : (c, d) ≠ (65533, 1) := fun e => hn (by injection e with e1 e2; exact ⟨e1, e2⟩)
  rw [h, decide_eq_true hne, ← hc, ← hd]
theorem runeV_bad {l : List UInt8} (h : decL l = (65533, 1)) : runeV l = .agg #[.int .i64 65533, .int .i64 1, .bool false] := by
  unfold runeV runeOk; rw [h]; rfl

def accX (l : List UInt8) (base : Int) : Nat → Int
  | 0 => at8 l 0 - base
  | j + 1 => 64 * accX l base j + at8 l (j + 1) - 128
theorem accX_bound (l : List UInt8) (base : Int) (h0 : base ≤ at8 l 0) (h1 : (at8 l 0 : Int) < base + 32) (j : Nat) (hj : j ≤ 3) (hc : ∀ m, 1 ≤ m → m ≤ j → cont8 l m) : 0 ≤ accX l base j ∧ accX l base j < 16777216 := by
  have c1 : 1 ≤ j → at8 l 1 / 64 = 2 := fun h => (hc 1 (by omega) h).2
  have c2 : 2 ≤ j → at8 l 2 / 64 = 2 := fun h => (hc 2 (by omega) h).2
  have c3 : 3 ≤ j → at8 l 3 / 64 = 2 := fun h => (hc 3 (by omega) h).2
  match j, hj with
  | 0, _ => simp only [accX]; omega
  | 1, _ => simp only [accX, Nat.zero_add]; have := c1 (by omega); omega
  | 2, _ => simp only [accX, Nat.zero_add, Nat.reduceAdd]; have := c1 (by omega); have := c2 (by omega); omega
  | 3, _ => simp only [accX, Nat.zero_add, Nat.reduceAdd]; have := c1 (by omega); have := c2 (by omega); have := c3 (by omega); omega
theorem decL_none {l : List UInt8} (h : (128 ≤ at8 l 0 ∧ at8 l 0 < 192) ∨ 248 ≤ at8 l 0) : decL l = (65533, 1) := by
  have := at8_lt l 0
  unfold decL
  rw [if_neg (by omega), if_neg (by omega), if_neg (by omega), if_neg (by omega)]
theorem decL_of2 {l : List UInt8} (h0 : 192 ≤ at8 l 0) (h1 : at8 l 0 < 224) : decL l = if cont8 l 1 ∧ 128 ≤ v2 l then (v2 l, 2) else (65533, 1) := by
  unfold decL
  rw [if_neg (by omega)]
  by_cases c1 : cont8 l 1
  · rw [if_pos ⟨by omega, c1⟩]
    by_cases hv : 128 ≤ v2 l
    · rw [if_pos hv, if_pos ⟨c1, hv⟩]
    · rw [if_neg hv, if_neg (fun g => hv g.2)]
  · rw [if_neg (fun g => c1 g.2), if_neg (by omega), if_neg (by omega), if_neg (fun g => c1 g.1)]
theorem decL_of3 {l : List UInt8} (h0 : 224 ≤ at8 l 0) (h1 : at8 l 0 < 240) : decL l = if (cont8 l 1 ∧ cont8 l 2) ∧ 2048 ≤ v3 l ∧ (v3 l < 55296 ∨ 57344 ≤ v3 l) then (v3 l, 3) else (65533, 1) := by
  unfold decL
  rw [if_neg (by omega), if_neg (by omega)]
  by_cases c1 : cont8 l 1 ∧ cont8 l 2
  · rw [if_pos ⟨by omega, c1⟩]
    by_cases hv : 2048 ≤ v3 l ∧ (v3 l < 55296 ∨ 57344 ≤ v3 l)
    · rw [if_pos hv, if_pos ⟨c1, hv⟩]
    · rw [if_neg hv, if_neg (fun g => hv g.2)]
  · rw [if_neg (fun g => c1 g.2), if_neg (by omega), if_neg (fun g => c1 g.1)]
theorem decL_of4 {l : List UInt8} (h0 : 240 ≤ at8 l 0) (h1 : at8 l 0 < 248) : decL l = if (cont8 l 1 ∧ cont8 l 2 ∧ cont8 l 3) ∧ 65536 ≤ v4 l ∧ v4 l ≤ 1114111 then (v4 l, 4) else (65533, 1) := by
  unfold decL
  rw [if_neg (by omega), if_neg (by omega), if_neg (by omega)]
  by_cases c1 : cont8 l 1 ∧ cont8 l 2 ∧ cont8 l 3
  · rw [if_pos ⟨by omega, c1⟩]
    by_cases hv : 65536 ≤ v4 l ∧ v4 l ≤ 1114111
    · rw [if_pos hv, if_pos ⟨c1, hv⟩]
    · rw [if_neg hv, if_neg (fun g => hv g.2)]
  · rw [if_neg (fun g => c1 g.2), if_neg (fun g => c1 g.1)]
theorem cont8_short {l : List UInt8} {k : Nat} (h : l.length ≤ k) : ¬ cont8 l k := fun g => by have := g.1; omega

def zero3 : List Value := [.int .i64 0, .int .i64 0, .bool false]
theorem zero3_is : (Tryd.prog.info? 34).bind (·.zero) = some (.agg zero3.toArray) := by kernel_rfl
theorem one3 (a b : Int) (c : Bool) : ∀ v ∈ [Value.int .i64 a, Value.int .i64 b, Value.bool c], v.oneCell' = true := by
  intro v hv
  simp only [List.mem_cons, List.not_mem_nil, or_false] at hv
  rcases hv with rfl | rfl | rfl <;> rfl
theorem size3 : (Tryd.prog.info? 34).map (·.size) = some 3 := by kernel_rfl
section
variable {w : World}
theorem wpList_store3 {ops : Array Oper} {rest : List Oper} {o : Oper} {a : Act} {Q : Exit → Act → World → Prop} (hgd : o.guard = none) (x y : Operand) (ho : o.op = .store 34 x y) (g : Nat) (n d : Int) (k : Bool)
    (hx : a.eval x = .pointer (some ⟨g, 0, none⟩)) (hy : a.eval y = .agg #[.int .i64 n, .int .i64 d, .bool k]) (hg : Blk w g 34 zero3)
    (h : ∀ w', Blk w' g 34 [.int .i64 n, .int .i64 d, .bool k] → Kept [g] w w' → w'.heap.size = w.heap.size → wpList Tryd.prog ops Q rest (a.put o.dst undef) w') : wpList Tryd.prog ops Q (o :: rest) a w :=
  wpList_store_blk hgd 34 x y ho g [.int .i64 n, .int .i64 d, .bool k] hx hy 34 zero3 hg size3 rfl (one3 n d k) h
theorem wpList_load3 {ops : Array Oper} {rest : List Oper} {o : Oper} {a : Act} {Q : Exit → Act → World → Prop} (hgd : o.guard = none) (x : Operand) (ho : o.op = .load 34 x) (g : Nat) (n d : Int) (k : Bool)
    (hx : a.eval x = .pointer (some ⟨g, 0, none⟩)) (hg : Blk w g 34 [.int .i64 n, .int .i64 d, .bool k])
    (h : wpList Tryd.prog ops Q rest (a.put o.dst (.agg #[.int .i64 n, .int .i64 d, .bool k])) w) : wpList Tryd.prog ops Q (o :: rest) a w :=
  wpList_load_blk hgd 34 x ho g hx 34 [.int .i64 n, .int .i64 d, .bool k] _ hg Tryd.underlying34 rfl size3 h
end
theorem runeV_bad3 {l : List UInt8} (h : decL l = (65533, 1)) : runeV l = .agg #[.int .i64 65533, .int .i64 1, .bool false] := runeV_bad h

theorem rLeast_2 (w : World) : Calls Tryd.prog 22 #[.int .i64 2] w fun e w' => e = .returned (.int .i64 128) ∧ w = w' := by
  go_enter Tryd.func22, Tryd.ntmps22
  go_wp2
  go_ret
  exact ⟨rfl, rfl⟩
theorem rLeast_3 (w : World) : Calls Tryd.prog 22 #[.int .i64 3] w fun e w' => e = .returned (.int .i64 2048) ∧ w = w' := by
  go_enter Tryd.func22, Tryd.ntmps22
  go_wp2
  go_ret
  exact ⟨rfl, rfl⟩
theorem rLeast_4 (w : World) : Calls Tryd.prog 22 #[.int .i64 4] w fun e w' => e = .returned (.int .i64 65536) ∧ w = w' := by
  go_enter Tryd.func22, Tryd.ntmps22
  go_wp2
  go_ret
  exact ⟨rfl, rfl⟩

set_option maxRecDepth 100000 in
set_option maxHeartbeats 4000000 in
theorem rFirst_low (s : ByteArray) (w : World) (h0 : 0 < s.size) (zb : Int) (hzb : (at8 (strL s) 0 : Int) = zb) (hx0 : ∀ v, (Instr.index 9 (.string s) (.int .i64 0)).run Tryd.prog v = .ok (.int .u8 zb) v)
    (hz0 : 0 ≤ zb) (h128 : zb < 128) : Calls Tryd.prog 18 #[.string s] w fun e w' => e = .returned (runeV (strL s)) ∧ Kept [] w w' := by
  have hd : decL (strL s) = (at8 (strL s) 0, 1) := by unfold decL; rw [if_pos (by omega)]
  rw [runeV_of hd (by omega) hzb rfl]
  clear hd hzb
  go_enter Tryd.func18, Tryd.ntmps18
  go_wp2_with (with_reducible change wpList _ _ _ (⟨_, Op.alloc _, _, _, _, _⟩ :: _) _ _; refine wpList_alloc_blk rfl 34 rfl zero3 zero3_is ?_)
  intro w1 hR1 hk1 hs1
  obtain ⟨g2, hg2⟩ : ∃ g, g = w.heap.size := ⟨_, rfl⟩
  rw [← hg2] at hR1 ⊢
  have hg2w : w.heap.size ≤ g2 := by omega
  clear hg2 hs1
  go_wp2_with (with_reducible change wpList _ _ _ (⟨_, Op.store _ _ _, _, _, _, _⟩ :: _) _ _; refine wpList_store3 rfl (.tmp 2) (.tmp 15) rfl g2 zb 1 true rfl rfl hR1 ?_)
  intro w4 hR4 hk4 hs4
  go_wp2
  refine bodyPost_ret (results_blk rfl _ g2 34 _ _ rfl hR4 Tryd.underlying34 rfl size3) rfl ?_
  exact ⟨rfl, hk1.trans hk4 (by simp; omega)⟩

set_option maxRecDepth 100000 in
set_option maxHeartbeats 4000000 in
theorem rFirst_none (s : ByteArray) (w : World) (h0 : 0 < s.size) (zb : Int) (hzb : (at8 (strL s) 0 : Int) = zb) (hx0 : ∀ v, (Instr.index 9 (.string s) (.int .i64 0)).run Tryd.prog v = .ok (.int .u8 zb) v)
    (hz8 : zb < 256) (h128 : 128 ≤ zb) (hz : zb < 192 ∨ 248 ≤ zb) : Calls Tryd.prog 18 #[.string s] w fun e w' => e = .returned (runeV (strL s)) ∧ Kept [] w w' := by
  rw [runeV_bad3 (decL_none (by omega))]
  clear hzb
  rcases hz with h1 | h1
  · have h2 : ¬ 192 ≤ zb := by omega
    have h3 : ¬ 224 ≤ zb := by omega
    have h4 : ¬ 240 ≤ zb := by omega
    go_enter Tryd.func18, Tryd.ntmps18
    go_wp2_with (with_reducible change wpList _ _ _ (⟨_, Op.alloc _, _, _, _, _⟩ :: _) _ _; refine wpList_alloc_blk rfl 34 rfl zero3 zero3_is ?_)
    intro w1 hR1 hk1 hs1
    obtain ⟨g2, hg2⟩ : ∃ g, g = w.heap.size := ⟨_, rfl⟩
    rw [← hg2] at hR1 ⊢
    have hg2w : w.heap.size ≤ g2 := by omega
    clear hg2 hs1
    go_wp2_with (with_reducible change wpList _ _ _ (⟨_, Op.alloc _, _, _, _, _⟩ :: _) _ _; refine wpList_alloc_blk rfl 34 rfl zero3 zero3_is ?_)
    intro w2 hB2 hk2 hs2
    obtain ⟨g6, hg6⟩ : ∃ g, g = w1.heap.size := ⟨_, rfl⟩
    rw [← hg6] at hB2 ⊢
    have hg6w : w.heap.size ≤ g6 := by have := hk1.size; omega
    have hg26 : g2 ≠ g6 := by have := hR1.lt; omega
    have hR2 := hR1.kept0 hk2
    clear hg6 hs2
    go_wp2_with (with_reducible change wpList _ _ _ (⟨_, Op.store _ _ _, _, _, _, _⟩ :: _) _ _; refine wpList_store3 rfl (.tmp 6) (.tmp 40) rfl g6 65533 1 false rfl rfl hB2 ?_)
    intro w3 hB3 hk3 hs3
    have hR3 := hR2.kept hk3 (by simp; omega)
    have hK3 : Kept [] w w3 := ((hk1.andThen hk2).trans hk3 (by simp; omega))
    have hw3 := hK3.size
    clear hR1 hR2 hB2 hk1 hk2 hk3 hs3
    go_wp2_with (first | (with_reducible change wpList _ _ _ (⟨_, Op.load _ _, _, _, _, _⟩ :: _) _ _; refine wpList_load3 rfl (.tmp 6) rfl g6 65533 1 false rfl hB3 ?_) | (with_reducible change wpList _ _ _ (⟨_, Op.store _ _ _, _, _, _, _⟩ :: _) _ _; refine wpList_store3 rfl (.tmp 2) (.tmp 49) rfl g2 65533 1 false rfl rfl hR3 ?_))
    intro w4 hR4 hk4 hs4
    go_wp2
    refine bodyPost_ret (results_blk rfl _ g2 34 _ _ rfl hR4 Tryd.underlying34 rfl size3) rfl ?_
    exact ⟨rfl, hK3.trans hk4 (by simp; omega)⟩
  · have h2 : 192 ≤ zb := by omega
    have h3 : 224 ≤ zb := by omega
    have h4 : 240 ≤ zb := by omega
    have h5 : ¬ zb < 224 := by omega
    have h6 : ¬ zb < 240 := by omega
    have h7 : ¬ zb < 248 := by omega
    go_enter Tryd.func18, Tryd.ntmps18
    go_wp2_with (with_reducible change wpList _ _ _ (⟨_, Op.alloc _, _, _, _, _⟩ :: _) _ _; refine wpList_alloc_blk rfl 34 rfl zero3 zero3_is ?_)
    intro w1 hR1 hk1 hs1
    obtain ⟨g2, hg2⟩ : ∃ g, g = w.heap.size := ⟨_, rfl⟩
    rw [← hg2] at hR1 ⊢
    have hg2w : w.heap.size ≤ g2 := by omega
    clear hg2 hs1
    go_wp2_with (with_reducible change wpList _ _ _ (⟨_, Op.alloc _, _, _, _, _⟩ :: _) _ _; refine wpList_alloc_blk rfl 34 rfl zero3 zero3_is ?_)
    intro w2 hB2 hk2 hs2
    obtain ⟨g6, hg6⟩ : ∃ g, g = w1.heap.size := ⟨_, rfl⟩
    rw [← hg6] at hB2 ⊢
    have hg6w : w.heap.size ≤ g6 := by have := hk1.size; omega
    have hg26 : g2 ≠ g6 := by have := hR1.lt; omega
    have hR2 := hR1.kept0 hk2
    clear hg6 hs2
    go_wp2_with (with_reducible change wpList _ _ _ (⟨_, Op.store _ _ _, _, _, _, _⟩ :: _) _ _; refine wpList_store3 rfl (.tmp 6) (.tmp 40) rfl g6 65533 1 false rfl rfl hB2 ?_)
    intro w3 hB3 hk3 hs3
    have hR3 := hR2.kept hk3 (by simp; omega)
    have hK3 : Kept [] w w3 := ((hk1.andThen hk2).trans hk3 (by simp; omega))
    have hw3 := hK3.size
    clear hR1 hR2 hB2 hk1 hk2 hk3 hs3
    go_wp2_with (first | (with_reducible change wpList _ _ _ (⟨_, Op.load _ _, _, _, _, _⟩ :: _) _ _; refine wpList_load3 rfl (.tmp 6) rfl g6 65533 1 false rfl hB3 ?_) | (with_reducible change wpList _ _ _ (⟨_, Op.store _ _ _, _, _, _, _⟩ :: _) _ _; refine wpList_store3 rfl (.tmp 2) (.tmp 49) rfl g2 65533 1 false rfl rfl hR3 ?_))
    intro w4 hR4 hk4 hs4
    go_wp2
    refine bodyPost_ret (results_blk rfl _ g2 34 _ _ rfl hR4 Tryd.underlying34 rfl size3) rfl ?_
    exact ⟨rfl, hK3.trans hk4 (by simp; omega)⟩

set_option maxRecDepth 100000 in
set_option maxHeartbeats 8000000 in
theorem rFirst_2 (s : ByteArray) (w : World) (h0 : 0 < s.size) (hs : s.size ≤ 140737488355328) (l : List UInt8) (Hl : Hid (strL s = l)) (zb : Int) (Hzb : Hid ((at8 l 0 : Int) = zb)) (hx0 : ∀ v, (Instr.index 9 (.string s) (.int .i64 0)).run Tryd.prog v = .ok (.int .u8 zb) v)
    (h1 : 192 ≤ zb) (h2 : zb < 224) : Calls Tryd.prog 18 #[.string s] w fun e w' => e = .returned (runeV l) ∧ Kept [] w w' := by
  have h128 : 128 ≤ zb := by omega
  have p2 : 192 ≤ zb := by omega
  have q2 : zb < 224 := by omega
  have p3 : ¬ 224 ≤ zb := by omega
  have p4 : ¬ 240 ≤ zb := by omega
  have HD : Hid (decL l = if (cont8 l 1) ∧ 128 ≤ v2 l then (v2 l, 2) else (65533, 1)) := Lib.hid (by have := Hzb.out; exact decL_of2 (by omega) (by omega))
  have HLn : Hid (l.length = s.size) := Lib.hid (by rw [← Hl.out]; exact strL_length s)
  by_cases hlen : s.size < 2
  · rw [runeV_bad3 (by rw [HD.out, if_neg (fun g => absurd g.1 (cont8_short (by rw [HLn.out]; omega)))])]
    go_enter Tryd.func18, Tryd.ntmps18
    go_wp2_with (with_reducible change wpList _ _ _ (⟨_, Op.alloc _, _, _, _, _⟩ :: _) _ _; refine wpList_alloc_blk rfl 34 rfl zero3 zero3_is ?_)
    intro w1 hR1 hk1 hs1
    obtain ⟨g2, hg2⟩ : ∃ g, g = w.heap.size := ⟨_, rfl⟩
    rw [← hg2] at hR1 ⊢
    have hg2w : w.heap.size ≤ g2 := by omega
    clear hg2 hs1
    go_wp2_with (with_reducible change wpList _ _ _ (⟨_, Op.alloc _, _, _, _, _⟩ :: _) _ _; refine wpList_alloc_blk rfl 34 rfl zero3 zero3_is ?_)
    intro w2 hB2 hk2 hs2
    obtain ⟨g6, hg6⟩ : ∃ g, g = w1.heap.size := ⟨_, rfl⟩
    rw [← hg6] at hB2 ⊢
    have hg6w : w.heap.size ≤ g6 := by have := hk1.size; omega
    have hg26 : g2 ≠ g6 := by have := hR1.lt; omega
    have hR2 := hR1.kept0 hk2
    clear hg6 hs2
    go_wp2_with (with_reducible change wpList _ _ _ (⟨_, Op.store _ _ _, _, _, _, _⟩ :: _) _ _; refine wpList_store3 rfl (.tmp 6) (.tmp 40) rfl g6 65533 1 false rfl rfl hB2 ?_)
    intro w3 hB3 hk3 hs3
    have hR3 := hR2.kept hk3 (by simp; omega)
    have hK3 : Kept [] w w3 := ((hk1.andThen hk2).trans hk3 (by simp; omega))
    have hw3 := hK3.size
    clear hR1 hR2 hB2 hk1 hk2 hk3 hs3
    go_wp2_with (first | (with_reducible change wpList _ _ _ (⟨_, Op.load _ _, _, _, _, _⟩ :: _) _ _; refine wpList_load3 rfl (.tmp 6) rfl g6 65533 1 false rfl hB3 ?_) | (with_reducible change wpList _ _ _ (⟨_, Op.store _ _ _, _, _, _, _⟩ :: _) _ _; refine wpList_store3 rfl (.tmp 2) (.tmp 49) rfl g2 65533 1 false rfl rfl hR3 ?_))
    intro w4 hR4 hk4 hs4
    go_wp2
    refine bodyPost_ret (results_blk rfl _ g2 34 _ _ rfl hR4 Tryd.underlying34 rfl size3) rfl ?_
    exact ⟨rfl, hK3.trans hk4 (by simp; omega)⟩
  · have hlen2 : 2 ≤ s.size := by omega
    have hA0 : accX l 192 0 = zb - 192 := by have := Hzb.out; simp only [accX]; omega
    have HS : Hid (∀ j, accX l 192 (j + 1) = 64 * accX l 192 j + at8 l (j + 1) - 128) := Lib.hid (fun j => rfl)
    have HB : Hid (∀ j, j ≤ 3 → (∀ m, 1 ≤ m → m ≤ j → cont8 l m) → 0 ≤ accX l 192 j ∧ accX l 192 j < 16777216) := Lib.hid (fun j hj hc => by have := Hzb.out; exact accX_bound l 192 (by omega) (by omega) j hj hc)
    have HV : Hid ((cont8 l 1) → accX l 192 1 = v2 l) := Lib.hid (fun hc => by
      have := Hzb.out
      simp only [accX, v2, Nat.zero_add]
      have d1 := hc.2
      omega)
    obtain ⟨X, hX⟩ : ∃ X, accX l 192 = X := ⟨_, rfl⟩
    rw [hX] at hA0 HS HB HV
    have HA0 := Lib.hid hA0
    clear hX hA0
    obtain ⟨R, hR⟩ : ∃ R, runeV l = R := ⟨_, rfl⟩
    rw [hR]
    have HR := Lib.hid hR
    clear hR
    go_enter Tryd.func18, Tryd.ntmps18
    go_wp2_with (with_reducible change wpList _ _ _ (⟨_, Op.alloc _, _, _, _, _⟩ :: _) _ _; refine wpList_alloc_blk rfl 34 rfl zero3 zero3_is ?_)
    intro w1 hR1 hk1 hs1
    obtain ⟨g2, hg2⟩ : ∃ g, g = w.heap.size := ⟨_, rfl⟩
    rw [← hg2] at hR1 ⊢
    have hg2w : w.heap.size ≤ g2 := by omega
    clear hg2 hs1
    go_wp2_with (with_reducible change wpList _ _ _ (⟨_, Op.alloc _, _, _, _, _⟩ :: _) _ _; refine wpList_alloc_blk rfl 34 rfl zero3 zero3_is ?_)
    intro w2 hB2 hk2 hs2
    obtain ⟨g6, hg6⟩ : ∃ g, g = w1.heap.size := ⟨_, rfl⟩
    rw [← hg6] at hB2 ⊢
    have hg6w : w.heap.size ≤ g6 := by have := hk1.size; omega
    have hg26 : g2 ≠ g6 := by have := hR1.lt; omega
    have hR2 := hR1.kept0 hk2
    clear hg6 hs2
    go_wp2_with (with_reducible change wpList _ _ _ (⟨_, Op.store _ _ _, _, _, _, _⟩ :: _) _ _; refine wpList_store3 rfl (.tmp 6) (.tmp 40) rfl g6 65533 1 false rfl rfl hB2 ?_)
    intro w3 hB3 hk3 hs3
    have hR3 := hR2.kept hk3 (by simp; omega)
    have hK3 : Kept [] w w3 := ((hk1.andThen hk2).trans hk3 (by simp; omega))
    have hw3 := hK3.size
    clear hR1 hR2 hB2 hk1 hk2 hk3 hs3
    go_wp2
    go_loopw [5, 7] (fun x i wr => ∃ j : Nat, j + 1 ≤ 2 ∧ x = .int .i64 (X j) ∧ i = .int .i64 ((j : Int) + 1) ∧ w3 = wr ∧ Hid (∀ m, 1 ≤ m → m ≤ j → cont8 l m)) (fun _ i _ => 2 - (intOf i).toNat)
    case atStart => exact ⟨0, by omega, by rw [HA0.out], rfl, rfl, Lib.hid (fun m a b => absurd b (by omega))⟩
    case round =>
      obtain ⟨j, hj, rfl, rfl, rfl, Hc⟩ := hrel
      have hbd := HB.out j (by omega) Hc.out
      obtain ⟨x, hx⟩ : ∃ x, X j = x := ⟨_, rfl⟩
      rw [hx] at hbd
      obtain ⟨b0, b1⟩ := hbd
      have Hx := Lib.hid hx
      by_cases hp : j + 1 < 2
      · obtain ⟨c, hc⟩ : ∃ c, (strL s)[j + 1]? = some c := ⟨_, List.getElem?_eq_getElem (by rw [strL_length]; omega)⟩
        have hx1 := fun v => idx_str (P := Tryd.prog) (k := j + 1) (by omega) (z := (j : Int) + 1) (by omega) hc Tryd.underlying9 v
        have hc8 := UInt8.toNat_lt c
        obtain ⟨zc, hzc⟩ : ∃ z : Int, (c.toNat : Int) = z := ⟨_, rfl⟩
        rw [hzc] at hx1
        have Ha : Hid ((at8 l (j + 1) : Int) = zc) := Lib.hid (by rw [← hzc, ← Hl.out]; unfold at8; rw [List.getD_eq_getElem?_getD, hc]; rfl)
        have hc0 : 0 ≤ zc := by omega
        have hc256 : zc < 256 := by omega
        rw [hx]
        clear hx hzc hc hc8
        rcases (by omega : zc < 128 ∨ 192 ≤ zc ∨ (128 ≤ zc ∧ zc < 192)) with hz | hz | ⟨hz, hz2⟩
        · have Hf : Hid (R = .agg #[.int .i64 65533, .int .i64 1, .bool false]) := Lib.hid (by
            rw [← HR.out]
            apply runeV_bad3
            rw [HD.out, if_neg]
            intro g
            have ha := Ha.out
            have hcj : cont8 l (j + 1) := by
              match j, hp with
              | 0, _ => exact g.1
            have := hcj.2
            omega)
          clear Hc
          go_wp2_with (first | (with_reducible change wpList _ _ _ (⟨_, Op.load _ _, _, _, _, _⟩ :: _) _ _; refine wpList_load3 rfl (.tmp 6) rfl g6 65533 1 false rfl hB3 ?_) | (with_reducible change wpList _ _ _ (⟨_, Op.store _ _ _, _, _, _, _⟩ :: _) _ _; refine wpList_store3 rfl (.tmp 2) (.tmp 65) rfl g2 65533 1 false rfl rfl hR3 ?_))
          intro w4 hR4 hk4 hs4
          go_wp2
          refine bodyPost_ret (results_blk rfl _ g2 34 _ _ rfl hR4 Tryd.underlying34 rfl size3) rfl ?_
          exact ⟨by rw [Hf.out] <;> rfl, hK3.trans hk4 (by simp; omega)⟩
        · have hzz : ¬ zc < 128 := by omega
          have Hf : Hid (R = .agg #[.int .i64 65533, .int .i64 1, .bool false]) := Lib.hid (by
            rw [← HR.out]
            apply runeV_bad3
            rw [HD.out, if_neg]
            intro g
            have ha := Ha.out
            have hcj : cont8 l (j + 1) := by
              match j, hp with
              | 0, _ => exact g.1
            have := hcj.2
            omega)
          clear Hc
          go_wp2_with (first | (with_reducible change wpList _ _ _ (⟨_, Op.load _ _, _, _, _, _⟩ :: _) _ _; refine wpList_load3 rfl (.tmp 6) rfl g6 65533 1 false rfl hB3 ?_) | (with_reducible change wpList _ _ _ (⟨_, Op.store _ _ _, _, _, _, _⟩ :: _) _ _; refine wpList_store3 rfl (.tmp 2) (.tmp 65) rfl g2 65533 1 false rfl rfl hR3 ?_))
          intro w4 hR4 hk4 hs4
          go_wp2
          refine bodyPost_ret (results_blk rfl _ g2 34 _ _ rfl hR4 Tryd.underlying34 rfl size3) rfl ?_
          exact ⟨by rw [Hf.out] <;> rfl, hK3.trans hk4 (by simp; omega)⟩
        · have hz3 : ¬ zc < 128 := by omega
          have hz4 : ¬ 192 ≤ zc := by omega
          have hsz := Hl.out
          have Hc2 : Hid (∀ m, 1 ≤ m → m ≤ j + 1 → cont8 l m) := Lib.hid (fun m ma mb => by
            by_cases hm : m = j + 1
            · subst hm
              have ha := Ha.out
              exact ⟨by rw [HLn.out]; omega, by omega⟩
            · exact Hc.out m ma (by omega))
          have Hx2 : Hid (X (j + 1) = 64 * x + zc - 128) := Lib.hid (by have := Ha.out; rw [HS.out j, Hx.out]; omega)
          clear Hc hsz
          go_wp2
          go_roundw
          case rel => exact ⟨j + 1, by omega, by rw [Hx2.out], by go_num, trivial, Hc2⟩
          case measure => simp [intOf]; omega
      · obtain rfl : j = 1 := by omega
        have hcs : cont8 l 1 := by
          exact Hc.out 1 (by omega) (by omega)
        have hxv : x = v2 l := by rw [← hx]; exact HV.out hcs
        have Hcs := Lib.hid hcs
        have Hxv := Lib.hid hxv
        rw [hx]
        clear hx hcs hxv Hc
        rcases (by omega : x < 128 ∨ 128 ≤ x) with e1 | e1
        · have Hf : Hid (R = .agg #[.int .i64 65533, .int .i64 1, .bool false]) := Lib.hid (by
            rw [← HR.out]
            apply runeV_bad3
            rw [HD.out, if_neg]
            intro g
            have := g.2
            have := Hxv.out
            omega)
          go_wp2_with (first | (go_at_call 22; refine (rLeast_2 _).mono ?_; rintro e w9 ⟨rfl, rfl⟩) | (with_reducible change wpList _ _ _ (⟨_, Op.load _ _, _, _, _, _⟩ :: _) _ _; refine wpList_load3 rfl (.tmp 6) rfl g6 65533 1 false rfl hB3 ?_) | (with_reducible change wpList _ _ _ (⟨_, Op.store _ _ _, _, _, _, _⟩ :: _) _ _; refine wpList_store3 rfl (.tmp 2) (.tmp 87) rfl g2 65533 1 false rfl rfl hR3 ?_))
          intro w4 hR4 hk4 hs4
          go_wp2
          refine bodyPost_ret (results_blk rfl _ g2 34 _ _ rfl hR4 Tryd.underlying34 rfl size3) rfl ?_
          exact ⟨by rw [Hf.out] <;> rfl, hK3.trans hk4 (by simp; omega)⟩
        · have e2 : ¬ x < 128 := by omega
          have e3 : ¬ 1114111 < x := by have h := Hxv.out; unfold v2 at h; omega
          have e4 : ¬ 55296 ≤ x := by have h := Hxv.out; unfold v2 at h; omega
          have Hf : Hid (R = .agg #[.int .i64 x, .int .i64 2, .bool true]) := Lib.hid (by
            rw [← HR.out]
            have hv := Hxv.out
            exact runeV_of (c := v2 l) (d := 2) (by rw [HD.out, if_pos ⟨Hcs.out, by omega⟩]) (by omega) hv.symm rfl)
          go_wp2_with (first | (go_at_call 22; refine (rLeast_2 _).mono ?_; rintro e w9 ⟨rfl, rfl⟩) | (with_reducible change wpList _ _ _ (⟨_, Op.store _ _ _, _, _, _, _⟩ :: _) _ _; refine wpList_store3 rfl (.tmp 2) (.tmp 90) rfl g2 x 2 true rfl rfl hR3 ?_))
          intro w4 hR4 hk4 hs4
          go_wp2
          refine bodyPost_ret (results_blk rfl _ g2 34 _ _ rfl hR4 Tryd.underlying34 rfl size3) rfl ?_
          exact ⟨by rw [Hf.out] <;> rfl, hK3.trans hk4 (by simp; omega)⟩

set_option maxRecDepth 100000 in
set_option maxHeartbeats 8000000 in
theorem rFirst_3 (s : ByteArray) (w : World) (h0 : 0 < s.size) (hs : s.size ≤ 140737488355328) (l : List UInt8) (Hl : Hid (strL s = l)) (zb : Int) (Hzb : Hid ((at8 l 0 : Int) = zb)) (hx0 : ∀ v, (Instr.index 9 (.string s) (.int .i64 0)).run Tryd.prog v = .ok (.int .u8 zb) v)
    (h1 : 224 ≤ zb) (h2 : zb < 240) : Calls Tryd.prog 18 #[.string s] w fun e w' => e = .returned (runeV l) ∧ Kept [] w w' := by
  have h128 : 128 ≤ zb := by omega
  have p2 : 192 ≤ zb := by omega
  have q2 : ¬ zb < 224 := by omega
  have p3 : 224 ≤ zb := by omega
  have q3 : zb < 240 := by omega
  have p4 : ¬ 240 ≤ zb := by omega
  have HD : Hid (decL l = if (cont8 l 1 ∧ cont8 l 2) ∧ 2048 ≤ v3 l ∧ (v3 l < 55296 ∨ 57344 ≤ v3 l) then (v3 l, 3) else (65533, 1)) := Lib.hid (by have := Hzb.out; exact decL_of3 (by omega) (by omega))
  have HLn : Hid (l.length = s.size) := Lib.hid (by rw [← Hl.out]; exact strL_length s)
  by_cases hlen : s.size < 3
  · rw [runeV_bad3 (by rw [HD.out, if_neg (fun g => absurd g.1.2 (cont8_short (by rw [HLn.out]; omega)))])]
    go_enter Tryd.func18, Tryd.ntmps18
    go_wp2_with (with_reducible change wpList _ _ _ (⟨_, Op.alloc _, _, _, _, _⟩ :: _) _ _; refine wpList_alloc_blk rfl 34 rfl zero3 zero3_is ?_)
    intro w1 hR1 hk1 hs1
    obtain ⟨g2, hg2⟩ : ∃ g, g = w.heap.size := ⟨_, rfl⟩
    rw [← hg2] at hR1 ⊢
    have hg2w : w.heap.size ≤ g2 := by omega
    clear hg2 hs1
    go_wp2_with (with_reducible change wpList _ _ _ (⟨_, Op.alloc _, _, _, _, _⟩ :: _) _ _; refine wpList_alloc_blk rfl 34 rfl zero3 zero3_is ?_)
    intro w2 hB2 hk2 hs2
    obtain ⟨g6, hg6⟩ : ∃ g, g = w1.heap.size := ⟨_, rfl⟩
    rw [← hg6] at hB2 ⊢
    have hg6w : w.heap.size ≤ g6 := by have := hk1.size; omega
    have hg26 : g2 ≠ g6 := by have := hR1.lt; omega
    have hR2 := hR1.kept0 hk2
    clear hg6 hs2
    go_wp2_with (with_reducible change wpList _ _ _ (⟨_, Op.store _ _ _, _, _, _, _⟩ :: _) _ _; refine wpList_store3 rfl (.tmp 6) (.tmp 40) rfl g6 65533 1 false rfl rfl hB2 ?_)
    intro w3 hB3 hk3 hs3
    have hR3 := hR2.kept hk3 (by simp; omega)
    have hK3 : Kept [] w w3 := ((hk1.andThen hk2).trans hk3 (by simp; omega))
    have hw3 := hK3.size
    clear hR1 hR2 hB2 hk1 hk2 hk3 hs3
    go_wp2_with (first | (with_reducible change wpList _ _ _ (⟨_, Op.load _ _, _, _, _, _⟩ :: _) _ _; refine wpList_load3 rfl (.tmp 6) rfl g6 65533 1 false rfl hB3 ?_) | (with_reducible change wpList _ _ _ (⟨_, Op.store _ _ _, _, _, _, _⟩ :: _) _ _; refine wpList_store3 rfl (.tmp 2) (.tmp 49) rfl g2 65533 1 false rfl rfl hR3 ?_))
    intro w4 hR4 hk4 hs4
    go_wp2
    refine bodyPost_ret (results_blk rfl _ g2 34 _ _ rfl hR4 Tryd.underlying34 rfl size3) rfl ?_
    exact ⟨rfl, hK3.trans hk4 (by simp; omega)⟩
  · have hlen2 : 3 ≤ s.size := by omega
    have hA0 : accX l 224 0 = zb - 224 := by have := Hzb.out; simp only [accX]; omega
    have HS : Hid (∀ j, accX l 224 (j + 1) = 64 * accX l 224 j + at8 l (j + 1) - 128) := Lib.hid (fun j => rfl)
    have HB : Hid (∀ j, j ≤ 3 → (∀ m, 1 ≤ m → m ≤ j → cont8 l m) → 0 ≤ accX l 224 j ∧ accX l 224 j < 16777216) := Lib.hid (fun j hj hc => by have := Hzb.out; exact accX_bound l 224 (by omega) (by omega) j hj hc)
    have HV : Hid ((cont8 l 1 ∧ cont8 l 2) → accX l 224 2 = v3 l) := Lib.hid (fun hc => by
      have := Hzb.out
      simp only [accX, v3, Nat.zero_add, Nat.reduceAdd]
      have d1 := hc.1.2; have d2 := hc.2.2
      omega)
    obtain ⟨X, hX⟩ : ∃ X, accX l 224 = X := ⟨_, rfl⟩
    rw [hX] at hA0 HS HB HV
    have HA0 := Lib.hid hA0
    clear hX hA0
    obtain ⟨R, hR⟩ : ∃ R, runeV l = R := ⟨_, rfl⟩
    rw [hR]
    have HR := Lib.hid hR
    clear hR
    go_enter Tryd.func18, Tryd.ntmps18
    go_wp2_with (with_reducible change wpList _ _ _ (⟨_, Op.alloc _, _, _, _, _⟩ :: _) _ _; refine wpList_alloc_blk rfl 34 rfl zero3 zero3_is ?_)
    intro w1 hR1 hk1 hs1
    obtain ⟨g2, hg2⟩ : ∃ g, g = w.heap.size := ⟨_, rfl⟩
    rw [← hg2] at hR1 ⊢
    have hg2w : w.heap.size ≤ g2 := by omega
    clear hg2 hs1
    go_wp2_with (with_reducible change wpList _ _ _ (⟨_, Op.alloc _, _, _, _, _⟩ :: _) _ _; refine wpList_alloc_blk rfl 34 rfl zero3 zero3_is ?_)
    intro w2 hB2 hk2 hs2
    obtain ⟨g6, hg6⟩ : ∃ g, g = w1.heap.size := ⟨_, rfl⟩
    rw [← hg6] at hB2 ⊢
    have hg6w : w.heap.size ≤ g6 := by have := hk1.size; omega
    have hg26 : g2 ≠ g6 := by have := hR1.lt; omega
    have hR2 := hR1.kept0 hk2
    clear hg6 hs2
    go_wp2_with (with_reducible change wpList _ _ _ (⟨_, Op.store _ _ _, _, _, _, _⟩ :: _) _ _; refine wpList_store3 rfl (.tmp 6) (.tmp 40) rfl g6 65533 1 false rfl rfl hB2 ?_)
    intro w3 hB3 hk3 hs3
    have hR3 := hR2.kept hk3 (by simp; omega)
    have hK3 : Kept [] w w3 := ((hk1.andThen hk2).trans hk3 (by simp; omega))
    have hw3 := hK3.size
    clear hR1 hR2 hB2 hk1 hk2 hk3 hs3
    go_wp2
    go_loopw [5, 7] (fun x i wr => ∃ j : Nat, j + 1 ≤ 3 ∧ x = .int .i64 (X j) ∧ i = .int .i64 ((j : Int) + 1) ∧ w3 = wr ∧ Hid (∀ m, 1 ≤ m → m ≤ j → cont8 l m)) (fun _ i _ => 3 - (intOf i).toNat)
    case atStart => exact ⟨0, by omega, by rw [HA0.out], rfl, rfl, Lib.hid (fun m a b => absurd b (by omega))⟩
    case round =>
      obtain ⟨j, hj, rfl, rfl, rfl, Hc⟩ := hrel
      have hbd := HB.out j (by omega) Hc.out
      obtain ⟨x, hx⟩ : ∃ x, X j = x := ⟨_, rfl⟩
      rw [hx] at hbd
      obtain ⟨b0, b1⟩ := hbd
      have Hx := Lib.hid hx
      by_cases hp : j + 1 < 3
      · obtain ⟨c, hc⟩ : ∃ c, (strL s)[j + 1]? = some c := ⟨_, List.getElem?_eq_getElem (by rw [strL_length]; omega)⟩
        have hx1 := fun v => idx_str (P := Tryd.prog) (k := j + 1) (by omega) (z := (j : Int) + 1) (by omega) hc Tryd.underlying9 v
        have hc8 := UInt8.toNat_lt c
        obtain ⟨zc, hzc⟩ : ∃ z : Int, (c.toNat : Int) = z := ⟨_, rfl⟩
        rw [hzc] at hx1
        have Ha : Hid ((at8 l (j + 1) : Int) = zc) := Lib.hid (by rw [← hzc, ← Hl.out]; unfold at8; rw [List.getD_eq_getElem?_getD, hc]; rfl)
        have hc0 : 0 ≤ zc := by omega
        have hc256 : zc < 256 := by omega
        rw [hx]
        clear hx hzc hc hc8
        rcases (by omega : zc < 128 ∨ 192 ≤ zc ∨ (128 ≤ zc ∧ zc < 192)) with hz | hz | ⟨hz, hz2⟩
        · have Hf : Hid (R = .agg #[.int .i64 65533, .int .i64 1, .bool false]) := Lib.hid (by
            rw [← HR.out]
            apply runeV_bad3
            rw [HD.out, if_neg]
            intro g
            have ha := Ha.out
            have hcj : cont8 l (j + 1) := by
              match j, hp with
              | 0, _ => exact g.1.1
              | 1, _ => exact g.1.2
            have := hcj.2
            omega)
          clear Hc
          go_wp2_with (first | (with_reducible change wpList _ _ _ (⟨_, Op.load _ _, _, _, _, _⟩ :: _) _ _; refine wpList_load3 rfl (.tmp 6) rfl g6 65533 1 false rfl hB3 ?_) | (with_reducible change wpList _ _ _ (⟨_, Op.store _ _ _, _, _, _, _⟩ :: _) _ _; refine wpList_store3 rfl (.tmp 2) (.tmp 65) rfl g2 65533 1 false rfl rfl hR3 ?_))
          intro w4 hR4 hk4 hs4
          go_wp2
          refine bodyPost_ret (results_blk rfl _ g2 34 _ _ rfl hR4 Tryd.underlying34 rfl size3) rfl ?_
          exact ⟨by rw [Hf.out] <;> rfl, hK3.trans hk4 (by simp; omega)⟩
        · have hzz : ¬ zc < 128 := by omega
          have Hf : Hid (R = .agg #[.int .i64 65533, .int .i64 1, .bool false]) := Lib.hid (by
            rw [← HR.out]
            apply runeV_bad3
            rw [HD.out, if_neg]
            intro g
            have ha := Ha.out
            have hcj : cont8 l (j + 1) := by
              match j, hp with
              | 0, _ => exact g.1.1
              | 1, _ => exact g.1.2
            have := hcj.2
            omega)
          clear Hc
          go_wp2_with (first | (with_reducible change wpList _ _ _ (⟨_, Op.load _ _, _, _, _, _⟩ :: _) _ _; refine wpList_load3 rfl (.tmp 6) rfl g6 65533 1 false rfl hB3 ?_) | (with_reducible change wpList _ _ _ (⟨_, Op.store _ _ _, _, _, _, _⟩ :: _) _ _; refine wpList_store3 rfl (.tmp 2) (.tmp 65) rfl g2 65533 1 false rfl rfl hR3 ?_))
          intro w4 hR4 hk4 hs4
          go_wp2
          refine bodyPost_ret (results_blk rfl _ g2 34 _ _ rfl hR4 Tryd.underlying34 rfl size3) rfl ?_
          exact ⟨by rw [Hf.out] <;> rfl, hK3.trans hk4 (by simp; omega)⟩
        · have hz3 : ¬ zc < 128 := by omega
          have hz4 : ¬ 192 ≤ zc := by omega
          have hsz := Hl.out
          have Hc2 : Hid (∀ m, 1 ≤ m → m ≤ j + 1 → cont8 l m) := Lib.hid (fun m ma mb => by
            by_cases hm : m = j + 1
            · subst hm
              have ha := Ha.out
              exact ⟨by rw [HLn.out]; omega, by omega⟩
            · exact Hc.out m ma (by omega))
          have Hx2 : Hid (X (j + 1) = 64 * x + zc - 128) := Lib.hid (by have := Ha.out; rw [HS.out j, Hx.out]; omega)
          clear Hc hsz
          go_wp2
          go_roundw
          case rel => exact ⟨j + 1, by omega, by rw [Hx2.out], by go_num, trivial, Hc2⟩
          case measure => simp [intOf]; omega
      · obtain rfl : j = 2 := by omega
        have hcs : cont8 l 1 ∧ cont8 l 2 := by
          exact ⟨Hc.out 1 (by omega) (by omega), Hc.out 2 (by omega) (by omega)⟩
        have hxv : x = v3 l := by rw [← hx]; exact HV.out hcs
        have Hcs := Lib.hid hcs
        have Hxv := Lib.hid hxv
        rw [hx]
        clear hx hcs hxv Hc
        rcases (by omega : x < 2048 ∨ (2048 ≤ x ∧ x < 55296) ∨ (55296 ≤ x ∧ x < 57344) ∨ 57344 ≤ x) with e1 | e1 | e1 | e1
        · have Hf : Hid (R = .agg #[.int .i64 65533, .int .i64 1, .bool false]) := Lib.hid (by
            rw [← HR.out]
            apply runeV_bad3
            rw [HD.out, if_neg]
            intro g
            have := g.2
            have := Hxv.out
            omega)
          go_wp2_with (first | (go_at_call 22; refine (rLeast_3 _).mono ?_; rintro e w9 ⟨rfl, rfl⟩) | (with_reducible change wpList _ _ _ (⟨_, Op.load _ _, _, _, _, _⟩ :: _) _ _; refine wpList_load3 rfl (.tmp 6) rfl g6 65533 1 false rfl hB3 ?_) | (with_reducible change wpList _ _ _ (⟨_, Op.store _ _ _, _, _, _, _⟩ :: _) _ _; refine wpList_store3 rfl (.tmp 2) (.tmp 87) rfl g2 65533 1 false rfl rfl hR3 ?_))
          intro w4 hR4 hk4 hs4
          go_wp2
          refine bodyPost_ret (results_blk rfl _ g2 34 _ _ rfl hR4 Tryd.underlying34 rfl size3) rfl ?_
          exact ⟨by rw [Hf.out] <;> rfl, hK3.trans hk4 (by simp; omega)⟩
        · have e2 : ¬ x < 2048 := by omega
          have e3 : ¬ 1114111 < x := by omega
          have e4 : ¬ 55296 ≤ x := by omega
          have Hf : Hid (R = .agg #[.int .i64 x, .int .i64 3, .bool true]) := Lib.hid (by
            rw [← HR.out]
            have hv := Hxv.out
            exact runeV_of (c := v3 l) (d := 3) (by rw [HD.out, if_pos ⟨Hcs.out, by omega⟩]) (by omega) hv.symm rfl)
          go_wp2_with (first | (go_at_call 22; refine (rLeast_3 _).mono ?_; rintro e w9 ⟨rfl, rfl⟩) | (with_reducible change wpList _ _ _ (⟨_, Op.store _ _ _, _, _, _, _⟩ :: _) _ _; refine wpList_store3 rfl (.tmp 2) (.tmp 90) rfl g2 x 3 true rfl rfl hR3 ?_))
          intro w4 hR4 hk4 hs4
          go_wp2
          refine bodyPost_ret (results_blk rfl _ g2 34 _ _ rfl hR4 Tryd.underlying34 rfl size3) rfl ?_
          exact ⟨by rw [Hf.out] <;> rfl, hK3.trans hk4 (by simp; omega)⟩
        · have e2 : ¬ x < 2048 := by omega
          have e3 : ¬ 1114111 < x := by omega
          have e4 : 55296 ≤ x := by omega
          have e5 : x < 57344 := by omega
          have Hf : Hid (R = .agg #[.int .i64 65533, .int .i64 1, .bool false]) := Lib.hid (by
            rw [← HR.out]
            apply runeV_bad3
            rw [HD.out, if_neg]
            intro g
            have := g.2
            have := Hxv.out
            omega)
          go_wp2_with (first | (go_at_call 22; refine (rLeast_3 _).mono ?_; rintro e w9 ⟨rfl, rfl⟩) | (with_reducible change wpList _ _ _ (⟨_, Op.load _ _, _, _, _, _⟩ :: _) _ _; refine wpList_load3 rfl (.tmp 6) rfl g6 65533 1 false rfl hB3 ?_) | (with_reducible change wpList _ _ _ (⟨_, Op.store _ _ _, _, _, _, _⟩ :: _) _ _; refine wpList_store3 rfl (.tmp 2) (.tmp 87) rfl g2 65533 1 false rfl rfl hR3 ?_))
          intro w4 hR4 hk4 hs4
          go_wp2
          refine bodyPost_ret (results_blk rfl _ g2 34 _ _ rfl hR4 Tryd.underlying34 rfl size3) rfl ?_
          exact ⟨by rw [Hf.out] <;> rfl, hK3.trans hk4 (by simp; omega)⟩
        · have e2 : ¬ x < 2048 := by omega
          have e3 : ¬ 1114111 < x := by have h := Hxv.out; unfold v3 at h; omega
          have e4 : 55296 ≤ x := by omega
          have e5 : ¬ x < 57344 := by omega
          have Hf : Hid (R = .agg #[.int .i64 x, .int .i64 3, .bool true]) := Lib.hid (by
            rw [← HR.out]
            have hv := Hxv.out
            exact runeV_of (c := v3 l) (d := 3) (by rw [HD.out, if_pos ⟨Hcs.out, by omega⟩]) (by omega) hv.symm rfl)
          go_wp2_with (first | (go_at_call 22; refine (rLeast_3 _).mono ?_; rintro e w9 ⟨rfl, rfl⟩) | (with_reducible change wpList _ _ _ (⟨_, Op.store _ _ _, _, _, _, _⟩ :: _) _ _; refine wpList_store3 rfl (.tmp 2) (.tmp 90) rfl g2 x 3 true rfl rfl hR3 ?_))
          intro w4 hR4 hk4 hs4
          go_wp2
          refine bodyPost_ret (results_blk rfl _ g2 34 _ _ rfl hR4 Tryd.underlying34 rfl size3) rfl ?_
          exact ⟨by rw [Hf.out] <;> rfl, hK3.trans hk4 (by simp; omega)⟩

set_option maxRecDepth 100000 in
set_option maxHeartbeats 8000000 in
theorem rFirst_4 (s : ByteArray) (w : World) (h0 : 0 < s.size) (hs : s.size ≤ 140737488355328) (l : List UInt8) (Hl : Hid (strL s = l)) (zb : Int) (Hzb : Hid ((at8 l 0 : Int) = zb)) (hx0 : ∀ v, (Instr.index 9 (.string s) (.int .i64 0)).run Tryd.prog v = .ok (.int .u8 zb) v)
    (h1 : 240 ≤ zb) (h2 : zb < 248) : Calls Tryd.prog 18 #[.string s] w fun e w' => e = .returned (runeV l) ∧ Kept [] w w' := by
  have h128 : 128 ≤ zb := by omega
  have p2 : 192 ≤ zb := by omega
  have q2 : ¬ zb < 224 := by omega
  have p3 : 224 ≤ zb := by omega
  have q3 : ¬ zb < 240 := by omega
  have p4 : 240 ≤ zb := by omega
  have q4 : zb < 248 := by omega
  have HD : Hid (decL l = if (cont8 l 1 ∧ cont8 l 2 ∧ cont8 l 3) ∧ 65536 ≤ v4 l ∧ v4 l ≤ 1114111 then (v4 l, 4) else (65533, 1)) := Lib.hid (by have := Hzb.out; exact decL_of4 (by omega) (by omega))
  have HLn : Hid (l.length = s.size) := Lib.hid (by rw [← Hl.out]; exact strL_length s)
  by_cases hlen : s.size < 4
  · rw [runeV_bad3 (by rw [HD.out, if_neg (fun g => absurd g.1.2.2 (cont8_short (by rw [HLn.out]; omega)))])]
    go_enter Tryd.func18, Tryd.ntmps18
    go_wp2_with (with_reducible change wpList _ _ _ (⟨_, Op.alloc _, _, _, _, _⟩ :: _) _ _; refine wpList_alloc_blk rfl 34 rfl zero3 zero3_is ?_)
    intro w1 hR1 hk1 hs1
    obtain ⟨g2, hg2⟩ : ∃ g, g = w.heap.size := ⟨_, rfl⟩
    rw [← hg2] at hR1 ⊢
    have hg2w : w.heap.size ≤ g2 := by omega
    clear hg2 hs1
    go_wp2_with (with_reducible change wpList _ _ _ (⟨_, Op.alloc _, _, _, _, _⟩ :: _) _ _; refine wpList_alloc_blk rfl 34 rfl zero3 zero3_is ?_)
    intro w2 hB2 hk2 hs2
    obtain ⟨g6, hg6⟩ : ∃ g, g = w1.heap.size := ⟨_, rfl⟩
    rw [← hg6] at hB2 ⊢
    have hg6w : w.heap.size ≤ g6 := by have := hk1.size; omega
    have hg26 : g2 ≠ g6 := by have := hR1.lt; omega
    have hR2 := hR1.kept0 hk2
    clear hg6 hs2
    go_wp2_with (with_reducible change wpList _ _ _ (⟨_, Op.store _ _ _, _, _, _, _⟩ :: _) _ _; refine wpList_store3 rfl (.tmp 6) (.tmp 40) rfl g6 65533 1 false rfl rfl hB2 ?_)
    intro w3 hB3 hk3 hs3
    have hR3 := hR2.kept hk3 (by simp; omega)
    have hK3 : Kept [] w w3 := ((hk1.andThen hk2).trans hk3 (by simp; omega))
    have hw3 := hK3.size
    clear hR1 hR2 hB2 hk1 hk2 hk3 hs3
    go_wp2_with (first | (with_reducible change wpList _ _ _ (⟨_, Op.load _ _, _, _, _, _⟩ :: _) _ _; refine wpList_load3 rfl (.tmp 6) rfl g6 65533 1 false rfl hB3 ?_) | (with_reducible change wpList _ _ _ (⟨_, Op.store _ _ _, _, _, _, _⟩ :: _) _ _; refine wpList_store3 rfl (.tmp 2) (.tmp 49) rfl g2 65533 1 false rfl rfl hR3 ?_))
    intro w4 hR4 hk4 hs4
    go_wp2
    refine bodyPost_ret (results_blk rfl _ g2 34 _ _ rfl hR4 Tryd.underlying34 rfl size3) rfl ?_
    exact ⟨rfl, hK3.trans hk4 (by simp; omega)⟩
  · have hlen2 : 4 ≤ s.size := by omega
    have hA0 : accX l 240 0 = zb - 240 := by have := Hzb.out; simp only [accX]; omega
    have HS : Hid (∀ j, accX l 240 (j + 1) = 64 * accX l 240 j + at8 l (j + 1) - 128) := Lib.hid (fun j => rfl)
    have HB : Hid (∀ j, j ≤ 3 → (∀ m, 1 ≤ m → m ≤ j → cont8 l m) → 0 ≤ accX l 240 j ∧ accX l 240 j < 16777216) := Lib.hid (fun j hj hc => by have := Hzb.out; exact accX_bound l 240 (by omega) (by omega) j hj hc)
    have HV : Hid ((cont8 l 1 ∧ cont8 l 2 ∧ cont8 l 3) → accX l 240 3 = v4 l) := Lib.hid (fun hc => by
      have := Hzb.out
      simp only [accX, v4, Nat.zero_add, Nat.reduceAdd]
      have d1 := hc.1.2; have d2 := hc.2.1.2; have d3 := hc.2.2.2
      omega)
    obtain ⟨X, hX⟩ : ∃ X, accX l 240 = X := ⟨_, rfl⟩
    rw [hX] at hA0 HS HB HV
    have HA0 := Lib.hid hA0
    clear hX hA0
    obtain ⟨R, hR⟩ : ∃ R, runeV l = R := ⟨_, rfl⟩
    rw [hR]
    have HR := Lib.hid hR
    clear hR
    go_enter Tryd.func18, Tryd.ntmps18
    go_wp2_with (with_reducible change wpList _ _ _ (⟨_, Op.alloc _, _, _, _, _⟩ :: _) _ _; refine wpList_alloc_blk rfl 34 rfl zero3 zero3_is ?_)
    intro w1 hR1 hk1 hs1
    obtain ⟨g2, hg2⟩ : ∃ g, g = w.heap.size := ⟨_, rfl⟩
    rw [← hg2] at hR1 ⊢
    have hg2w : w.heap.size ≤ g2 := by omega
    clear hg2 hs1
    go_wp2_with (with_reducible change wpList _ _ _ (⟨_, Op.alloc _, _, _, _, _⟩ :: _) _ _; refine wpList_alloc_blk rfl 34 rfl zero3 zero3_is ?_)
    intro w2 hB2 hk2 hs2
    obtain ⟨g6, hg6⟩ : ∃ g, g = w1.heap.size := ⟨_, rfl⟩
    rw [← hg6] at hB2 ⊢
    have hg6w : w.heap.size ≤ g6 := by have := hk1.size; omega
    have hg26 : g2 ≠ g6 := by have := hR1.lt; omega
    have hR2 := hR1.kept0 hk2
    clear hg6 hs2
    go_wp2_with (with_reducible change wpList _ _ _ (⟨_, Op.store _ _ _, _, _, _, _⟩ :: _) _ _; refine wpList_store3 rfl (.tmp 6) (.tmp 40) rfl g6 65533 1 false rfl rfl hB2 ?_)
    intro w3 hB3 hk3 hs3
    have hR3 := hR2.kept hk3 (by simp; omega)
    have hK3 : Kept [] w w3 := ((hk1.andThen hk2).trans hk3 (by simp; omega))
    have hw3 := hK3.size
    clear hR1 hR2 hB2 hk1 hk2 hk3 hs3
    go_wp2
    go_loopw [5, 7] (fun x i wr => ∃ j : Nat, j + 1 ≤ 4 ∧ x = .int .i64 (X j) ∧ i = .int .i64 ((j : Int) + 1) ∧ w3 = wr ∧ Hid (∀ m, 1 ≤ m → m ≤ j → cont8 l m)) (fun _ i _ => 4 - (intOf i).toNat)
    case atStart => exact ⟨0, by omega, by rw [HA0.out], rfl, rfl, Lib.hid (fun m a b => absurd b (by omega))⟩
    case round =>
      obtain ⟨j, hj, rfl, rfl, rfl, Hc⟩ := hrel
      have hbd := HB.out j (by omega) Hc.out
      obtain ⟨x, hx⟩ : ∃ x, X j = x := ⟨_, rfl⟩
      rw [hx] at hbd
      obtain ⟨b0, b1⟩ := hbd
      have Hx := Lib.hid hx
      by_cases hp : j + 1 < 4
      · obtain ⟨c, hc⟩ : ∃ c, (strL s)[j + 1]? = some c := ⟨_, List.getElem?_eq_getElem (by rw [strL_length]; omega)⟩
        have hx1 := fun v => idx_str (P := Tryd.prog) (k := j + 1) (by omega) (z := (j : Int) + 1) (by omega) hc Tryd.underlying9 v
        have hc8 := UInt8.toNat_lt c
        obtain ⟨zc, hzc⟩ : ∃ z : Int, (c.toNat : Int) = z := ⟨_, rfl⟩
        rw [hzc] at hx1
        have Ha : Hid ((at8 l (j + 1) : Int) = zc) := Lib.hid (by rw [← hzc, ← Hl.out]; unfold at8; rw [List.getD_eq_getElem?_getD, hc]; rfl)
        have hc0 : 0 ≤ zc := by omega
        have hc256 : zc < 256 := by omega
        rw [hx]
        clear hx hzc hc hc8
        rcases (by omega : zc < 128 ∨ 192 ≤ zc ∨ (128 ≤ zc ∧ zc < 192)) with hz | hz | ⟨hz, hz2⟩
        · have Hf : Hid (R = .agg #[.int .i64 65533, .int .i64 1, .bool false]) := Lib.hid (by
            rw [← HR.out]
            apply runeV_bad3
            rw [HD.out, if_neg]
            intro g
            have ha := Ha.out
            have hcj : cont8 l (j + 1) := by
              match j, hp with
              | 0, _ => exact g.1.1
              | 1, _ => exact g.1.2.1
              | 2, _ => exact g.1.2.2
            have := hcj.2
            omega)
          clear Hc
          go_wp2_with (first | (with_reducible change wpList _ _ _ (⟨_, Op.load _ _, _, _, _, _⟩ :: _) _ _; refine wpList_load3 rfl (.tmp 6) rfl g6 65533 1 false rfl hB3 ?_) | (with_reducible change wpList _ _ _ (⟨_, Op.store _ _ _, _, _, _, _⟩ :: _) _ _; refine wpList_store3 rfl (.tmp 2) (.tmp 65) rfl g2 65533 1 false rfl rfl hR3 ?_))
          intro w4 hR4 hk4 hs4
          go_wp2
          refine bodyPost_ret (results_blk rfl _ g2 34 _ _ rfl hR4 Tryd.underlying34 rfl size3) rfl ?_
          exact ⟨by rw [Hf.out] <;> rfl, hK3.trans hk4 (by simp; omega)⟩
        · have hzz : ¬ zc < 128 := by omega
          have Hf : Hid (R = .agg #[.int .i64 65533, .int .i64 1, .bool false]) := Lib.hid (by
            rw [← HR.out]
            apply runeV_bad3
            rw [HD.out, if_neg]
            intro g
            have ha := Ha.out
            have hcj : cont8 l (j + 1) := by
              match j, hp with
              | 0, _ => exact g.1.1
              | 1, _ => exact g.1.2.1
              | 2, _ => exact g.1.2.2
            have := hcj.2
            omega)
          clear Hc
          go_wp2_with (first | (with_reducible change wpList _ _ _ (⟨_, Op.load _ _, _, _, _, _⟩ :: _) _ _; refine wpList_load3 rfl (.tmp 6) rfl g6 65533 1 false rfl hB3 ?_) | (with_reducible change wpList _ _ _ (⟨_, Op.store _ _ _, _, _, _, _⟩ :: _) _ _; refine wpList_store3 rfl (.tmp 2) (.tmp 65) rfl g2 65533 1 false rfl rfl hR3 ?_))
          intro w4 hR4 hk4 hs4
          go_wp2
          refine bodyPost_ret (results_blk rfl _ g2 34 _ _ rfl hR4 Tryd.underlying34 rfl size3) rfl ?_
          exact ⟨by rw [Hf.out] <;> rfl, hK3.trans hk4 (by simp; omega)⟩
        · have hz3 : ¬ zc < 128 := by omega
          have hz4 : ¬ 192 ≤ zc := by omega
          have hsz := Hl.out
          have Hc2 : Hid (∀ m, 1 ≤ m → m ≤ j + 1 → cont8 l m) := Lib.hid (fun m ma mb => by
            by_cases hm : m = j + 1
            · subst hm
              have ha := Ha.out
              exact ⟨by rw [HLn.out]; omega, by omega⟩
            · exact Hc.out m ma (by omega))
          have Hx2 : Hid (X (j + 1) = 64 * x + zc - 128) := Lib.hid (by have := Ha.out; rw [HS.out j, Hx.out]; omega)
          clear Hc hsz
          go_wp2
          go_roundw
          case rel => exact ⟨j + 1, by omega, by rw [Hx2.out], by go_num, trivial, Hc2⟩
          case measure => simp [intOf]; omega
      · obtain rfl : j = 3 := by omega
        have hcs : cont8 l 1 ∧ cont8 l 2 ∧ cont8 l 3 := by
          exact ⟨Hc.out 1 (by omega) (by omega), Hc.out 2 (by omega) (by omega), Hc.out 3 (by omega) (by omega)⟩
        have hxv : x = v4 l := by rw [← hx]; exact HV.out hcs
        have Hcs := Lib.hid hcs
        have Hxv := Lib.hid hxv
        rw [hx]
        clear hx hcs hxv Hc
        rcases (by omega : x < 65536 ∨ (65536 ≤ x ∧ x ≤ 1114111) ∨ 1114111 < x) with e1 | e1 | e1
        · have Hf : Hid (R = .agg #[.int .i64 65533, .int .i64 1, .bool false]) := Lib.hid (by
            rw [← HR.out]
            apply runeV_bad3
            rw [HD.out, if_neg]
            intro g
            have := g.2
            have := Hxv.out
            omega)
          go_wp2_with (first | (go_at_call 22; refine (rLeast_4 _).mono ?_; rintro e w9 ⟨rfl, rfl⟩) | (with_reducible change wpList _ _ _ (⟨_, Op.load _ _, _, _, _, _⟩ :: _) _ _; refine wpList_load3 rfl (.tmp 6) rfl g6 65533 1 false rfl hB3 ?_) | (with_reducible change wpList _ _ _ (⟨_, Op.store _ _ _, _, _, _, _⟩ :: _) _ _; refine wpList_store3 rfl (.tmp 2) (.tmp 87) rfl g2 65533 1 false rfl rfl hR3 ?_))
          intro w4 hR4 hk4 hs4
          go_wp2
          refine bodyPost_ret (results_blk rfl _ g2 34 _ _ rfl hR4 Tryd.underlying34 rfl size3) rfl ?_
          exact ⟨by rw [Hf.out] <;> rfl, hK3.trans hk4 (by simp; omega)⟩
        · have e2 : ¬ x < 65536 := by omega
          have e3 : ¬ 1114111 < x := by omega
          have e4 : 55296 ≤ x := by omega
          have e5 : ¬ x < 57344 := by omega
          have Hf : Hid (R = .agg #[.int .i64 x, .int .i64 4, .bool true]) := Lib.hid (by
            rw [← HR.out]
            have hv := Hxv.out
            exact runeV_of (c := v4 l) (d := 4) (by rw [HD.out, if_pos ⟨Hcs.out, by omega⟩]) (by omega) hv.symm rfl)
          go_wp2_with (first | (go_at_call 22; refine (rLeast_4 _).mono ?_; rintro e w9 ⟨rfl, rfl⟩) | (with_reducible change wpList _ _ _ (⟨_, Op.store _ _ _, _, _, _, _⟩ :: _) _ _; refine wpList_store3 rfl (.tmp 2) (.tmp 90) rfl g2 x 4 true rfl rfl hR3 ?_))
          intro w4 hR4 hk4 hs4
          go_wp2
          refine bodyPost_ret (results_blk rfl _ g2 34 _ _ rfl hR4 Tryd.underlying34 rfl size3) rfl ?_
          exact ⟨by rw [Hf.out] <;> rfl, hK3.trans hk4 (by simp; omega)⟩
        · have e2 : ¬ x < 65536 := by omega
          have Hf : Hid (R = .agg #[.int .i64 65533, .int .i64 1, .bool false]) := Lib.hid (by
            rw [← HR.out]
            apply runeV_bad3
            rw [HD.out, if_neg]
            intro g
            have := g.2
            have := Hxv.out
            omega)
          go_wp2_with (first | (go_at_call 22; refine (rLeast_4 _).mono ?_; rintro e w9 ⟨rfl, rfl⟩) | (with_reducible change wpList _ _ _ (⟨_, Op.load _ _, _, _, _, _⟩ :: _) _ _; refine wpList_load3 rfl (.tmp 6) rfl g6 65533 1 false rfl hB3 ?_) | (with_reducible change wpList _ _ _ (⟨_, Op.store _ _ _, _, _, _, _⟩ :: _) _ _; refine wpList_store3 rfl (.tmp 2) (.tmp 87) rfl g2 65533 1 false rfl rfl hR3 ?_))
          intro w4 hR4 hk4 hs4
          go_wp2
          refine bodyPost_ret (results_blk rfl _ g2 34 _ _ rfl hR4 Tryd.underlying34 rfl size3) rfl ?_
          exact ⟨by rw [Hf.out] <;> rfl, hK3.trans hk4 (by simp; omega)⟩

theorem rFirst_any (s : ByteArray) (w : World) (h0 : 0 < s.size) (hs : s.size ≤ 140737488355328) : Calls Tryd.prog 18 #[.string s] w fun e w' => e = .returned (runeV (strL s)) ∧ Kept [] w w' := by
  have hl := strL_length s
  obtain ⟨b, hb⟩ : ∃ b, (strL s)[0]? = some b := ⟨_, List.getElem?_eq_getElem (by omega)⟩
  have hb8 := UInt8.toNat_lt b
  have ha0 : at8 (strL s) 0 = b.toNat := by unfold at8; rw [List.getD_eq_getElem?_getD, hb]; rfl
  obtain ⟨zb, hzb⟩ : ∃ z : Int, (at8 (strL s) 0 : Int) = z := ⟨_, rfl⟩
  have hx0 : ∀ v, (Instr.index 9 (.string s) (.int .i64 0)).run Tryd.prog v = .ok (.int .u8 zb) v := fun v => by rw [← hzb, ha0]; exact idx_str (k := 0) h0 rfl hb Tryd.underlying9 v
  rcases (by omega : zb < 128 ∨ ((128 ≤ zb ∧ zb < 256) ∧ (zb < 192 ∨ 248 ≤ zb)) ∨ (192 ≤ zb ∧ zb < 224) ∨ (224 ≤ zb ∧ zb < 240) ∨ (240 ≤ zb ∧ zb < 248)) with h | h | h | h | h
  · exact rFirst_low s w h0 zb hzb hx0 (by omega) h
  · exact rFirst_none s w h0 zb hzb hx0 h.1.2 h.1.1 h.2
  · exact rFirst_2 s w h0 hs _ (Lib.hid rfl) zb (Lib.hid hzb) hx0 h.1 h.2
  · exact rFirst_3 s w h0 hs _ (Lib.hid rfl) zb (Lib.hid hzb) hx0 h.1 h.2
  · exact rFirst_4 s w h0 hs _ (Lib.hid rfl) zb (Lib.hid hzb) hx0 h.1 h.2
end Go.Proofs.YtboienifeciidaaDoor
