/-
  Contracts of layer 10, the document's own: all runes of a text. No statement of the seed is proved here.
-/
import Derived.Test.YtboienifeciidaaDoorNr2
import Derived.Test.YtboienifeciidaaDoorStrU
import Derived.Deep.Slices
namespace Go.Proofs.YtboienifeciidaaDoor
open Go.RowKit
set_option linter.unusedVariables false

abbrev Rn := Nat × Nat × Bool
def rcs : List Rn → List Value
  | [] => []
  | r :: t => .int .i64 r.1 :: .int .i64 r.2.1 :: .bool r.2.2 :: rcs t
theorem rcs_length (l : List Rn) : (rcs l).length = l.length * 3 := by
  induction l with
  | nil => rfl
  | cons r t ih => simp only [rcs, List.length_cons, ih]; omega
theorem rcs_append (a b : List Rn) : rcs (a ++ b) = rcs a ++ rcs b := by
  induction a with
  | nil => rfl
  | cons r t ih => simp only [List.cons_append, rcs, ih]
theorem rcs_get (l : List Rn) (j : Nat) (r : Rn) (h : l[j]? = some r) : (rcs l)[3 * j]? = some (.int .i64 r.1) ∧ (rcs l)[3 * j + 1]? = some (.int .i64 r.2.1) ∧ (rcs l)[3 * j + 2]? = some (.bool r.2.2) := by
  induction l generalizing j with
  | nil => simp at h
  | cons x t ih =>
    cases j with
    | zero =>
      have : x = r := by simpa using h
      subst this
      exact ⟨rfl, rfl, rfl⟩
    | succ j =>
      have := ih j (by simpa using h)
      simp only [rcs, show 3 * (j + 1) = 3 * j + 1 + 1 + 1 by omega, show 3 * j + 1 + 1 + 1 + 1 = (3 * j + 1) + 1 + 1 + 1 by omega, show 3 * j + 1 + 1 + 1 + 2 = (3 * j + 2) + 1 + 1 + 1 by omega, List.getElem?_cons_succ]
      exact this

/-- A row of runes of one's own. -/
def OwN (w : World) (v : Value) (rs : List Rn) : Prop := w.ownsRow 0 34 3 v rs.length (rcs rs)
section
variable {w w' : World} {v : Value} {rs : List Rn} {S : List Nat}
theorem OwN.nil (w : World) : OwN w (.slice none 0 0) [] := World.ownsRow_nil _ _ _ _
theorem OwN.keep (h : OwN w v rs) (hk : ∀ g, v.ownBlock = some g → g < w.heap.size → w'.heap[g]? = w.heap[g]?) : OwN w' v rs := by
  refine ⟨h.1, ?_⟩
  rcases h.2 with hn | ⟨g, cap, cur, rfl, hb, hg, rest⟩
  · exact .inl hn
  · exact .inr ⟨g, cap, cur, rfl, hb, (hk g rfl (Array.getElem?_eq_some_iff.1 hg).1).trans hg, rest⟩
theorem OwN.kept0 (h : OwN w v rs) (hk : Kept [] w w') : OwN w' v rs := h.keep fun g _ hl => hk.block g hl (by simp)
theorem OwN.keptOf (h : OwN w v rs) (hk : Kept S w w') (hS : ∀ g, v.ownBlock = some g → g ∉ S) : OwN w' v rs := h.keep fun g hg hl => hk.block g hl (hS g hg)
theorem OwN.form (h : OwN w v rs) : ∃ A c, v = .slice A rs.length c ∧ rs.length ≤ c ∧ c ≤ maxLen ∧ (0 < rs.length → ∃ g, A = some ⟨g, 0, none⟩ ∧ g < w.heap.size ∧
    ∀ j r, rs[j]? = some r → w.cell? ⟨g, 3 * j, none⟩ = some (.int .i64 r.1) ∧ w.cell? ⟨g, 3 * j + 1, none⟩ = some (.int .i64 r.2.1) ∧ w.cell? ⟨g, 3 * j + 2, none⟩ = some (.bool r.2.2)) := by
  rcases h.2 with ⟨rfl, hn⟩ | ⟨g, cap, cur, rfl, _, hg, hnc, hcm, hcs, htake⟩
  · exact ⟨none, 0, by rw [hn], by omega, by simp [maxLen], fun h0 => absurd h0 (by omega)⟩
  · refine ⟨some ⟨g, 0, none⟩, cap, rfl, hnc, hcm, fun _ => ⟨g, rfl, (Array.getElem?_eq_some_iff.1 hg).1, fun j r hr => ?_⟩⟩
    have hc : ∀ i u, (rcs rs)[i]? = some u → w.cell? ⟨g, i, none⟩ = some u := fun i u hu => by
      rw [cell_of_row w g i cur 34 (0, 0) hg]
      have h1 := congrArg (fun l : List Value => l[i]?) htake
      simp only [List.getElem?_take] at h1
      have hi : i < rs.length * 3 := by have := (List.getElem?_eq_some_iff.1 hu).1; rw [rcs_length] at this; exact this
      rw [if_pos hi, hu] at h1
      simpa using h1
    obtain ⟨a, b, c⟩ := rcs_get rs j r hr
    exact ⟨hc _ _ a, hc _ _ b, hc _ _ c⟩
theorem info3 : ∃ i, Tryd.prog.info? 34 = some i ∧ i.zero = some (.agg zero3.toArray) ∧ i.size = 3 ∧ i.bytes = 24 := by
  have h1 : (Tryd.prog.info? 34).map (fun i => (i.zero, i.size, i.bytes)) = some (some (.agg zero3.toArray), 3, 24) := by kernel_rfl
  obtain ⟨i, hi, he⟩ := Option.map_eq_some_iff.1 h1
  injection he with e1 e2
  injection e2 with e2 e3
  exact ⟨i, hi, e1, e2, e3⟩
theorem wpList_append_rune {ops : Array Oper} {rest : List Oper} {o : Oper} {a : Act} {Q : Exit → Act → World → Prop} (hgd : o.guard = none) (s x : Operand)
    (ho : o.op = .call { callee := .builtin .append, args := #[s, x], argTypes := #[31, 31] })
    (v : Value) (rs : List Rn) (hs : a.eval s = v) (hown : OwN w v rs) (g c : Nat) (n d : Nat) (k : Bool) (zn zd : Int) (hn : zn = n) (hd : zd = d) (hx : a.eval x = .slice (some ⟨g, 0, none⟩) 1 c)
    (hg : Blk w g 34 [.int .i64 zn, .int .i64 zd, .bool k]) (hlen : rs.length ≤ 1000000000000)
    (h : ∀ v' w', OwN w' v' (rs ++ [(n, d, k)]) → Kept v.ownBlock.toList w w' → Moved w v v' → wpList Tryd.prog ops Q rest (a.put o.dst v') w') : wpList Tryd.prog ops Q (o :: rest) a w := by
  subst hn hd
  obtain ⟨i, hi, hz, hsz, hby⟩ := info3
  refine wpList_plain hgd fun K hK => ?_
  obtain ⟨v', w', hrun, h2, h3, _, h5⟩ := run_append_own_at (P := Tryd.prog) w 0 31 o.type 34 i (.agg zero3.toArray) 3 24 Tryd.underlying31 hi hz hsz hby rfl (by omega) v rs.length (rcs rs) hown ⟨g, 0, none⟩ 1 c [.int .i64 n, .int .i64 d, .bool k]
      rfl (fun j u hu => by simp only [Addr.add]; have := hg.cell j; split <;> (try (rename_i h0; subst h0)) <;> simp_all) (one3 n d k) (by simp only [maxLen]; omega) (by omega) (Nat.zero_le _)
  unfold Oper.wp execOp
  simp only [ho, resolve, invoke, builtin, Sem.run_bind, Sem.run_pure, Result.andThen_ok, List.map_toArray, List.map_cons, List.map_nil, hs, hx, hrun]
  refine hK _ _ (h v' w' ?_ ((Kept.refl _ _).grown h3 (by intro k hk; simp [hk])) ?_)
  · unfold OwN
    rw [rcs_append, List.length_append]
    exact h2
  · intro q hq
    rcases h5 with h5 | h5
    · exact .inl (by rw [← h5]; exact hq)
    · rw [h5] at hq
      injection hq with hq
      exact .inr (by omega)
end

/-- A text's runes as the document lists them. -/
def rowsL (l : List UInt8) : List Rn := if h : l = [] then [] else ((decL l).1, (decL l).2, runeOk l) :: rowsL (l.drop (decL l).2)
termination_by l.length
decreasing_by
  have := (decL_width l h).1
  have : 0 < l.length := by cases l with | nil => exact absurd rfl h | cons => simp
  rw [List.length_drop]; omega
theorem rowsL_nil : rowsL [] = [] := by rw [rowsL]; rfl
theorem rowsL_next (l : List UInt8) (h : l ≠ []) : rowsL l = ((decL l).1, (decL l).2, runeOk l) :: rowsL (l.drop (decL l).2) := by rw [rowsL, dif_neg h]
theorem rowsL_runes (l : List UInt8) : (rowsL l).map (·.1) = runesL l := by
  induction hn : l.length using Nat.strongRecOn generalizing l with
  | _ n ih =>
    by_cases he : l = []
    · subst he; rw [rowsL_nil, runesL_nil]; rfl
    · have := (decL_width l he).1
      have h0 : 0 < l.length := List.length_pos_iff.2 he
      rw [rowsL_next l he, runesL_next l he, List.map_cons, ih (l.drop (decL l).2).length (by rw [List.length_drop]; omega) _ rfl]
theorem rowsL_length (l : List UInt8) : (rowsL l).length = (runesL l).length := by rw [← rowsL_runes, List.length_map]
/-- A rune that isn't whole counts as FFFD. -/
theorem rowsL_ok (l : List UInt8) : ∀ r ∈ rowsL l, r.2.2 = false → r.1 = 65533 := by
  induction hn : l.length using Nat.strongRecOn generalizing l with
  | _ n ih =>
    by_cases he : l = []
    · subst he; rw [rowsL_nil]; simp
    · have := (decL_width l he).1
      have h0 : 0 < l.length := List.length_pos_iff.2 he
      rw [rowsL_next l he]
      intro r hr hf
      rw [List.mem_cons] at hr
      rcases hr with rfl | hr
      · unfold runeOk at hf
        simp only [decide_eq_false_iff_not, ne_eq, Classical.not_not] at hf
        rw [hf]
      · exact ih (l.drop (decL l).2).length (by rw [List.length_drop]; omega) _ rfl r hr hf

def AllRet (l : List UInt8) (w : World) (e : Ending) (w' : World) : Prop := ∃ v, e = .returned v ∧ OwN w' v (rowsL l) ∧ Kept [] w w'

set_option maxRecDepth 100000 in
set_option maxHeartbeats 4000000 in
theorem rAll_any (s : ByteArray) (w : World) (hs : s.size ≤ 1000000000000) : Calls Tryd.prog 10 #[.string s] w (AllRet (strL s) w) := by
  obtain ⟨T, hT⟩ : ∃ T, rowsL (strL s) = T := ⟨_, rfl⟩
  have HT := Lib.hid hT
  unfold AllRet
  rw [hT]
  clear hT
  go_enter Tryd.func10, Tryd.ntmps10
  go_wp2
  go_loopw [3, 4] (fun v at_ wr => ∃ (pos : Nat) (rs : List Rn), pos ≤ s.size ∧ at_ = .int .i64 pos ∧ OwN wr v rs ∧ rs.length ≤ pos ∧ (∀ g, v.ownBlock = some g → w.heap.size ≤ g) ∧ Kept [] w wr ∧ Hid (rs ++ rowsL ((strL s).drop pos) = T)) (fun _ at_ _ => s.size - (intOf at_).toNat)
  case atStart => exact ⟨0, [], by omega, rfl, OwN.nil _, by simp, by simp [Value.ownBlock], Kept.refl _ _, Lib.hid (by rw [List.drop_zero, HT.out]; rfl)⟩
  case round =>
    obtain ⟨pos, rs, hps, rfl, hN, hrl, hfr, hk, Hr⟩ := hrel
    by_cases hp : pos < s.size
    · obtain ⟨c, d, hd, hdl, hd1, _, hd2, hc, hrn⟩ := dec_at s pos hp
      obtain ⟨u, hu, hul, hus⟩ := str_from (P := Tryd.prog) (t := 9) s pos hps Tryd.underlying9
      have hlu : decL (strL u) = (c, d) := by rw [hul]; exact hdl
      obtain ⟨k, hkk⟩ : ∃ k, runeOk (strL u) = k := ⟨_, rfl⟩
      have HV : Hid (runeV (strL u) = .agg #[.int .i64 (c : Int), .int .i64 (d : Int), .bool k]) := Lib.hid (by unfold runeV; rw [hlu, hkk])
      have hne : (strL s).drop pos ≠ [] := by intro e; have := congrArg List.length e; rw [List.length_drop, strL_length] at this; simp at this; omega
      have Hr2 : Hid ((rs ++ [(c, d, k)]) ++ rowsL ((strL s).drop (pos + d)) = T) := Lib.hid (by
        rw [← Hr.out, rowsL_next _ hne, hdl, ← hul, hkk, hul, List.drop_drop, List.append_assoc]; rfl)
      have hlt : ∀ g, u3.ownBlock = some g → g < wr.heap.size := fun g hg => (World.ownsRow.lt hN g hg).2
      have hwr := hk.size
      have hu0 : 0 < u.size := by omega
      have huM : u.size ≤ 140737488355328 := by omega
      clear Hr hul hkk hlu hdl hd hrn hne
      go_wp2_with (first | (go_at_call 18; refine (rFirst_any u _ hu0 huM).mono ?_; rw [HV.out]; rintro e w1 ⟨rfl, hk1⟩) | (with_reducible change wpList _ _ _ (⟨_, Op.alloc _, _, _, _, _⟩ :: _) _ _; refine wpList_alloc_blk rfl 34 rfl zero3 zero3_is ?_))
      intro w2 hR2 hk2 hs2
      obtain ⟨g5, hg5⟩ : ∃ g, g = w1.heap.size := ⟨_, rfl⟩
      rw [← hg5] at hR2 ⊢
      have hs1 := hk1.size
      have hg5w : wr.heap.size ≤ g5 := by omega
      clear hg5 hs2
      go_wp2_with (with_reducible change wpList _ _ _ (⟨_, Op.store _ _ _, _, _, _, _⟩ :: _) _ _; refine wpList_store3 rfl (.tmp 5) (.tmp 13) rfl g5 c d k rfl rfl hR2 ?_)
      intro w3 hR3 hk3 hs3
      have hK3 : Kept [] wr w3 := (hk1.andThen hk2).trans hk3 (by simp; omega)
      have hN3 := hN.kept0 hK3
      have hB4 := Blk.new w3 34 [.int .i64 (c : Int), .int .i64 (d : Int), .bool k]
      have hA4 := (Kept.refl [] w3).alloc (.cells #[.int .i64 (c : Int), .int .i64 (d : Int), .bool k] 34)
      have hN4 := hN3.kept0 hA4
      have hR4 := hR3.kept0 hA4
      have hK4 := hK3.andThen hA4
      clear hR2 hk1 hk2 hk3 hs3 hs1 hN3 hA4 hK3
      go_wp2_with (first | (with_reducible change wpList _ _ _ (⟨_, Op.load _ _, _, _, _, _⟩ :: _) _ _; refine wpList_load3 rfl (.tmp 5) rfl g5 c d k rfl hR3 ?_) | (at_builtin; refine wpList_append_rune rfl (.tmp 14) (.tmp 16) rfl u3 rs rfl hN4 _ _ c d k _ _ rfl rfl rfl hB4 (by omega) ?_))
      intro v5 w5 hN5 hk5 hm5
      have hR5 := hR4.kept hk5 (by intro hm; have := hlt g5 (by simpa using hm); omega)
      have hc5 := hR5.cell 1
      have hKr : Kept [] w w5 := (hk.andThen hK4).trans hk5 (by intro i hi; exact .inr (hfr i (by simpa using hi)))
      have hfr5 : ∀ g, v5.ownBlock = some g → w.heap.size ≤ g := fun g hg => by
        rcases hm5 g hg with h | h
        · exact hfr g h
        · have := hK4.size; omega
      clear hR3 hR4 hR5 hB4 hN4 hk5 hm5 hK4
      go_wp2
      go_roundw
      case rel => exact ⟨pos + d, rs ++ [(c, d, k)], by omega, by go_num, hN5, by simp; omega, hfr5, hKr, Hr2⟩
      case measure => simp [intOf]; omega
    · have Hf : Hid (rs = T) := Lib.hid (by rw [← Hr.out, drop_end s pos hp, rowsL_nil, List.append_nil])
      clear Hr
      go_wp2
      go_ret
      exact ⟨u3, rfl, by rw [← Hf.out]; exact hN, hk⟩
end Go.Proofs.YtboienifeciidaaDoor
