/- The document's answers for package cut: Segments; a segment as a parameter. -/
import Derived.Test.YtgedlfilhpbfaaaCuO
namespace Go.Proofs.Ytgedlfilhpbfaaa
set_option maxRecDepth 100000
open Go.ChangeShapes Go.WideShapes Go.ChangeAt Go.RowKit Go.PlainAid Go.Deep Go.Shelf Go.Sort
theorem ops_read {H : Type} {enc : TypeId × Value → H} {w : World} {base : Nat} {sp : Nat → Bool} {held : Bool} {fuel : Nat} {cs : List Value} {x : DataW H × List MemPlace}
    (hf : DataW.trod enc Try.prog w base sp held fuel 22 cs = some x) : ∃ (v : Value) (l : List OpV), cs = [v] ∧ OpsOf w v l := by
  rcases open_slice Try.underlying22 hf with ⟨h0, _⟩ | ⟨a, len, cap, m, n, Dt, Pl, hcs, hb, hl, hm, hmm, hx, hi⟩
  · exact ⟨.slice none 0 0, [], h0, .inl ⟨rfl, none, 0, rfl⟩, by simp⟩
  · have hC : Try.prog.cellsOf 35 = 11 := by kernel_rfl
    have hlm : len ≤ m := by rw [hmm]; split <;> omega
    by_cases h0 : len = 0
    · subst h0
      exact ⟨_, [], hcs, .inl ⟨rfl, _, _, rfl⟩, by simp⟩
    · have each : ∀ i, ∃ y : OpV, i < len → y.Wf ∧ ∀ (j : Nat) (u : Value), (#[Value.int .i64 y.id, Value.int .i64 y.proc, Value.int .i64 y.obj, Value.int .i64 y.kind, Value.int .i64 y.meth, Value.int .i64 y.arg, Value.int .i64 y.sec, Value.bool y.done, Value.int .i64 y.res, Value.int .i64 y.inv, Value.int .i64 y.ret].toList)[j]? = some u → w.cell? (a.add (i * 11 + j)) = some u := fun i => by
        by_cases c : i < len
        · obtain ⟨cs', hc, ht⟩ := hi i (by omega)
          rw [hC] at hc
          obtain ⟨_, hcl, hat⟩ := World.cells?_some hc
          obtain ⟨y, hy, hw⟩ := op_read ht
          refine ⟨y, fun _ => ⟨hw, fun j u hj => ?_⟩⟩
          have hj11 : j < 11 := (List.getElem?_eq_some_iff.1 hj).1
          have := hat j hj11
          rw [hy] at this
          rw [← Go.Deep.add_add, this]
          exact hj
        · exact ⟨⟨0, 0, 0, 0, 0, 0, 0, false, 0, 0, 0⟩, fun h => absurd h c⟩
      obtain ⟨f, hf'⟩ := Classical.axiomOfChoice each
      have h00 := (hf' 0 (by omega)).2 0 _ rfl
      obtain ⟨b, off, spot⟩ := a
      have hspot : spot = none := by simpa [Addr.add] using World.cell?_spot h00
      subst hspot
      refine ⟨_, (List.range len).map f, hcs, .inr ⟨b, off, cap, by simp, World.block_lt_of_cell? w _ h00, by simp; omega, fun i x hx' j u hj => ?_⟩, fun x hx' => ?_⟩
      · have hil : i < len := by have := (List.getElem?_eq_some_iff.1 hx').1; simpa using this
        have hxf : f i = x := by simpa [List.getElem?_map, List.getElem?_range hil] using hx'
        subst hxf
        have := (hf' i hil).2 j u hj
        rwa [Addr.add_mid, ← Nat.add_assoc] at this
      · obtain ⟨i, hil, rfl⟩ := List.mem_map.1 hx'
        exact (hf' i (by simpa using hil)).1
theorem seg_open {H : Type} {enc : TypeId × Value → H} {w : World} {base b0 : Nat} {sp : Nat → Bool} {held : Bool} {r : Reach} {v : Value} {d : DataW H} {p : List MemPlace}
    (hv : Value.okWide Try.prog w r b0 29 v) (h : DataW.Trod enc Try.prog w base sp held 29 v d p) : ∃ (s : Cu.SegV) (u : Value), v = .agg #[.int .i64 s.obj, .int .i64 s.kind, u] ∧ OpsOf w u s.ops := by
  obtain ⟨cs, rfl, hsz⟩ := okWide_struct Try.underlying29 hv
  obtain ⟨fuel, hf⟩ := h
  obtain ⟨ys, n, _, _, hlen, hyl, hg⟩ := DataW.trod_struct Try.underlying29 hf
  have hcl : (Value.agg cs).cells.toList = cs.toList := by simp [Value.cells]
  rw [hcl] at hlen hg
  have hl : cs.toList.length = 3 := hlen.trans (by kernel_rfl)
  have h0 : DataW.trod enc Try.prog w base sp held n 3 ((cs.toList.drop 0).take (Try.prog.cellsOf 3)) = ys[0]? := hg 0 _ rfl
  have h1 : DataW.trod enc Try.prog w base sp held n 3 ((cs.toList.drop 1).take (Try.prog.cellsOf 3)) = ys[1]? := hg 1 _ rfl
  have h2 : DataW.trod enc Try.prog w base sp held n 22 ((cs.toList.drop 2).take (Try.prog.cellsOf 22)) = ys[2]? := hg 2 _ rfl
  have hyl2 : ys.length = 3 := hyl
  rw [show Try.prog.cellsOf 3 = 1 by kernel_rfl, List.getElem?_eq_getElem (by omega)] at h0 h1
  rw [show Try.prog.cellsOf 22 = 1 by kernel_rfl, List.getElem?_eq_getElem (by omega)] at h2
  obtain ⟨a, e0, _⟩ := DataW.trod_int Try.underlying3 h0
  obtain ⟨b, e1, _⟩ := DataW.trod_int Try.underlying3 h1
  obtain ⟨u, l, e2, hu⟩ := ops_read h2
  refine ⟨⟨a, b, l⟩, u, ?_, hu⟩
  rw [List.drop_zero] at e0
  have e : cs.toList = [.int .i64 a, .int .i64 b, u] := by
    have e3 : cs.toList = cs.toList.take 1 ++ ((cs.toList.drop 1).take 1 ++ (cs.toList.drop 2).take 1) := by
      apply List.ext_getElem?
      intro i
      match i with
      | 0 => rw [List.getElem?_append_left (by rw [List.length_take]; omega), List.getElem?_take_of_lt (by omega)]
      | 1 => rw [List.getElem?_append_right (by rw [List.length_take]; omega), List.getElem?_append_left (by rw [List.length_take, List.length_take, List.length_drop]; omega), List.length_take, List.getElem?_take_of_lt (by omega), List.getElem?_drop]; congr 1; omega
      | 2 => rw [List.getElem?_append_right (by rw [List.length_take]; omega), List.getElem?_append_right (by rw [List.length_take, List.length_take, List.length_drop]; omega), List.length_take, List.length_take, List.length_drop, List.getElem?_take_of_lt (by omega), List.getElem?_drop]; congr 1; omega
      | i + 3 => rw [List.getElem?_eq_none (by omega), List.getElem?_eq_none (by simp only [List.length_append, List.length_take, List.length_drop]; omega)]
    rw [e3, e0, e1, e2]
    rfl
  have : cs = #[.int .i64 a, .int .i64 b, u] := by rw [← Array.toList_inj, e]
  rw [this]
namespace Cu
attribute [local go_sem ↓ high] load_op store_o load_s app_opO app_seg
/-- A part of a row of operations. -/
theorem part_rd {W : World} {g cap : Nat} {S : List OpV} (h : OpsRd W (.slice (some ⟨g, 0, none⟩) S.length cap) S) {a b : Nat} (ha : a < b) (hb : b ≤ S.length) (c : Nat) : OpsRd W (.slice (some ⟨g, a * 11, none⟩) (b - a) c) ((S.take b).drop a) := by
  have h1 := ops_take h.1 hb cap
  have hl : (S.take b).length = b := by rw [List.length_take]; omega
  have h2 : OpsOf W (.slice (some ⟨g, 0, none⟩) (S.take b).length cap) (S.take b) := by rw [hl]; exact h1
  have h3 := ops_drop h2 (n := a) (by omega) c
  rw [hl, Nat.zero_add] at h3
  exact ⟨h3, fun x hx => h.2 x hx⟩
/-- What is known at a round's beginning. -/
structure RgI (w W : World) (s : SegV) (S : List OpV) (i a : Nat) (v : Value) (ps : List (SegV × Value)) (R : List (Nat × Obj)) : Prop where
  mem : SegM w W v ps R
  mid : i ≤ S.length → a < i ∧ ps.map Prod.fst ++ [mkS s ((S.take i).drop a)] = (cutL (S.take i)).map (mkS s)
  fin : i = S.length + 1 → ps.map Prod.fst = (cutL S).map (mkS s)
theorem rg_step {s : SegV} {S : List OpV} {i a : Nat} {o : OpV} {ps : List SegV} (hi : S[i]? = some o) (h : ps ++ [mkS s ((S.take i).drop a)] = (cutL (S.take i)).map (mkS s)) (ha : a < i) :
    (((S.take i).drop a).all (befB · o) = true → (ps ++ [mkS s ((S.take i).drop a)]) ++ [mkS s ((S.take (i + 1)).drop i)] = (cutL (S.take (i + 1))).map (mkS s)) ∧
    (((S.take i).drop a).all (befB · o) = false → ps ++ [mkS s ((S.take (i + 1)).drop a)] = (cutL (S.take (i + 1))).map (mkS s)) := by
  have hil : i < S.length := (List.getElem?_eq_some_iff.1 hi).1
  have hne : cutL (S.take i) ≠ [] := by intro e; rw [e] at h; simp at h
  obtain ⟨ci, c, hc⟩ := snoc_of hne
  rw [hc, List.map_append] at h
  obtain ⟨h1, h2⟩ := List.append_inj' h rfl
  simp only [List.map_cons, List.map_nil, List.cons.injEq, and_true] at h2
  have h3 : (S.take i).drop a = c := by have := congrArg SegV.ops h2; exact this
  have hlen : (S.take i).length = i := by rw [List.length_take]; omega
  rw [take_snoc hi, cutL_snoc, hc]
  constructor
  · intro hb
    rw [h3] at hb ⊢
    rw [cutStep_cut hb, List.map_append (l₁ := ci ++ [c]), List.map_append, h1]
    congr 1
    rw [List.drop_append_of_le_length (by omega), List.drop_of_length_le (by omega)]
    rfl
  · intro hb
    rw [h3] at hb
    rw [cutStep_on hb, List.map_append, h1, List.drop_append_of_le_length (by omega), h3]
    rfl
theorem rg_all {S : List OpV} {i a : Nat} {o : OpV} (hi : i ≤ S.length) : (∀ (t : Nat) (x : OpV), a ≤ t → t < i → S[t]? = some x → befB x o = true) ↔ ((S.take i).drop a).all (befB · o) = true := by
  rw [List.all_eq_true]
  constructor
  · intro h x hx
    obtain ⟨t, ht, rfl⟩ := List.mem_iff_getElem.1 hx
    rw [List.length_drop, List.length_take] at ht
    rw [List.getElem_drop, List.getElem_take]
    exact h (a + t) _ (by omega) (by omega) (List.getElem?_eq_getElem (by omega))
  · intro h t x h1 h2 hx
    refine h x ?_
    obtain ⟨h3, rfl⟩ := List.getElem?_eq_some_iff.1 hx
    refine List.mem_iff_getElem.2 ⟨t - a, by rw [List.length_drop, List.length_take]; omega, ?_⟩
    rw [List.getElem_drop, List.getElem_take]
    congr 1
    omega
theorem rd_known {n₀ : Nat} {W : World} {v : Value} {S : List OpV} (h : OpsOwn n₀ W v S) (hw : ∀ o ∈ S, o.Wf) : ∃ Rs : List (Nat × Obj), (∀ x ∈ Rs, W.heap[x.1]? = some x.2 ∧ n₀ ≤ x.1) ∧ ∀ W', (∀ x ∈ Rs, W'.heap[x.1]? = some x.2) → OpsRd W' v S := by
  rcases h.2 with ⟨rfl, h0⟩ | ⟨g, cap, cur, rfl, hn, hg, hl, hc, hsz, ht⟩
  · exact ⟨[], by simp, fun W' _ => ⟨⟨.inl ⟨List.length_eq_zero_iff.1 h0, _, _, rfl⟩, hw⟩, fun b hb => by cases hb⟩⟩
  · refine ⟨[(g, .cells cur 35 (0, 0))], fun x hx => by rw [List.mem_singleton.1 hx]; exact ⟨hg, hn⟩, fun W' hW => ?_⟩
    have hg' := hW _ (List.mem_singleton.2 rfl)
    exact OpsOwn.rd (n₀ := n₀) ⟨h.1, .inr ⟨g, cap, cur, rfl, hn, hg', hl, hc, hsz, ht⟩⟩ hw
theorem own_cap2 {n₀ : Nat} {W : World} {v : Value} {L : List OpV} (h : OpsOwn n₀ W v L) : ∃ ao cap, v = .slice ao L.length cap ∧ L.length ≤ cap ∧ (0 < L.length → ∃ g, ao = some ⟨g, 0, none⟩) := by
  rcases h.2 with ⟨rfl, e⟩ | ⟨g, cap, cur, rfl, _, _, hl, _⟩
  · exact ⟨none, 0, by rw [e], by omega, fun h => by omega⟩
  · exact ⟨_, cap, rfl, hl, fun _ => ⟨g, rfl⟩⟩
theorem RgI.on {w W W' : World} {s : SegV} {S : List OpV} {i a : Nat} {v : Value} {ps : List (SegV × Value)} {R : List (Nat × Obj)} (h : RgI w W s S i a v ps R) (hb : Below W.heap.size W W') : RgI w W' s S i a v ps R := ⟨h.mem.on hb, h.mid, h.fin⟩
theorem RgI.few {w W : World} {s : SegV} {S : List OpV} {i a : Nat} {v : Value} {ps : List (SegV × Value)} {R : List (Nat × Obj)} (h : RgI w W s S i a v ps R) (hi : i ≤ S.length) : ps.length ≤ S.length := by
  have h1 := congrArg List.length (h.mid hi).2
  have h2 := cut_few (P := S.take i)
  simp only [List.length_append, List.length_map, List.length_cons, List.length_nil] at h1
  rw [List.length_take] at h2
  omega
/-- What clean says. -/
def Clean (S : List OpV) (i a k : Nat) (cl : Bool) : Prop := (cl = true → i < S.length ∧ ∀ (t : Nat) (x o : OpV), a ≤ t → t < k → S[t]? = some x → S[i]? = some o → befB x o = true) ∧ (cl = false → i < S.length → ∃ (t : Nat) (x o : OpV), a ≤ t ∧ t < i ∧ S[t]? = some x ∧ S[i]? = some o ∧ befB x o = false)
def RgPost (s : SegV) (w : World) (e : Ending) (w' : World) : Prop := ∃ v' ps S, e = .returned v' ∧ SegM w w' v' ps [] ∧ Sorted cfInv s.ops S ∧ ps.map Prod.fst = (cutL S).map (mkS s)
set_option maxHeartbeats 2000000 in
theorem rsegments_any {s : SegV} {vO : Value} {w : World} (h : OpsOf w vO s.ops) (hl : s.ops.length ≤ 65536) : Calls Try.prog 13 #[.agg #[.int .i64 s.obj, .int .i64 s.kind, vO]] w (RgPost s w) := by
  have mixed := mixed
  obtain ⟨b1, hb1⟩ : ∃ b, w.heap.size = b := ⟨_, rfl⟩
  have g1 := heap_alloc_new w (.cells #[.int .i64 s.obj, .int .i64 s.kind, vO] 29)
  have hb01 : Below w.heap.size w (w.alloc (.cells #[.int .i64 s.obj, .int .i64 s.kind, vO] 29)) := by go_grown
  have z1 : (w.alloc (.cells #[.int .i64 s.obj, .int .i64 s.kind, vO] 29)).heap.size = b1 + 1 := by rw [World.size_alloc, hb1]
  obtain ⟨W1, hW1⟩ : ∃ W, w.alloc (.cells #[.int .i64 s.obj, .int .i64 s.kind, vO] 29) = W := ⟨_, rfl⟩
  rw [hW1] at g1 hb01 z1
  rw [hb1] at g1
  have HC := Lib.hid (rsorted_any (h.on hb01) (by omega))
  have HW := Lib.hid h.2
  have c2 : W1.cell? ⟨b1, 2, none⟩ = some vO := by rw [cell_of_row _ _ _ _ _ _ g1]; rfl
  have HG := Lib.hid (And.intro g1 (And.intro hb01 z1))
  clear h g1 hb01 z1
  go_enter Try.func13, Try.ntmps13
  go_wp2_with fail
  (with_reducible refine HC.out.mono ?_)
  rintro _ w1 ⟨vS, rfl, S, ho, hs, hb⟩
  have hwf : ∀ o ∈ S, o.Wf := fun o h => HW.out o (hs.1.mem_iff.1 h)
  obtain ⟨Rs, hR, hK⟩ := rd_known ho hwf
  have hcapO := own_cap2 ho
  obtain ⟨aS, cS, rfl, hlc, hform⟩ := hcapO
  have HS := Lib.hid hs
  have HK := Lib.hid hK
  have HFORM := Lib.hid hform
  have hSl : S.length ≤ 65536 := by rw [hs.1.length_eq]; exact hl
  obtain ⟨R0, hR0⟩ : ∃ R, (b1, Obj.cells #[.int .i64 s.obj, .int .i64 s.kind, vO] 29 (0, 0)) :: Rs = R := ⟨_, rfl⟩
  have HI0 := Lib.hid (show RgI w w1 s S 1 0 (.slice none 0 0) [] R0 from ⟨⟨HG.out.2.1.on hb, World.ownsRow_nil _ _ _ _, (fun q hq => by cases hq), fun x hx => ⟨by
    rw [← hR0] at hx
    rcases List.mem_cons.1 hx with rfl | hx
    · exact (hb.block b1 (by have := HG.out; omega)).trans HG.out.1
    · exact (hR x hx).1, by simp [Value.ownBlock]⟩⟩, fun h1 => ⟨by omega, by
    cases S with
    | nil => simp at h1
    | cons o r => simp [cutL, cutStep]⟩, fun h1 => by
    have : S = [] := List.length_eq_zero_iff.1 (by omega)
    subst this
    rfl⟩)
  have HR0 := Lib.hid hR0
  clear ho hs hb hwf hR hK HC HW hR0 c2 hW1 hb1 hform
  go_wp2_with fail
  go_loopw [4, 5, 6] (fun s4 s5 s6 wr => ∃ (i a : Nat) (ps : List (SegV × Value)), s5 = .int .i64 a ∧ s6 = .int .i64 i ∧ i ≤ S.length + 1 ∧ Hid (RgI w wr s S i a s4 ps R0)) (fun _ _ s6 _ => S.length + 1 - (intOf s6).toNat)
  case atStart => exact ⟨1, 0, [], rfl, rfl, by omega, HI0⟩
  case round =>
    clear HI0
    obtain ⟨i, a, ps, rfl, rfl, hi, HI⟩ := hrel
    by_cases hil : i ≤ S.length
    case neg =>
      have q1 : ¬ ((i : Int) ≤ (S.length : Int)) := by omega
      have HE := Lib.hid (And.intro (HI.out.mem.sub (R' := []) (by simp)) (HI.out.fin (by omega)))
      go_wp2_with fail
      go_returns
      exact ⟨_, ps, S, rfl, HE.out.1, HS.out, HE.out.2⟩
    have q1 : (i : Int) ≤ (S.length : Int) := by omega
    have q2 : IntKind.i64.wrap ((i : Int) + 1) = (i : Int) + 1 := IntWalk.i64_in _ (by omega)
    obtain ⟨hai, hcut⟩ := HI.out.mid hil
    have HCUT := Lib.hid hcut
    obtain ⟨g, rfl⟩ := HFORM.out (by omega)
    clear hcut
    have HI5 := HI
    obtain ⟨w2, hw2⟩ : ∃ W, wr = W := ⟨_, rfl⟩
    have HJ0 := Lib.hid (show Below w2.heap.size w2 wr ∧ Clean S i a a (decide (i < S.length)) from ⟨by rw [hw2]; exact Below.refl _ _, fun h => ⟨of_decide_eq_true h, fun t x o h1 h2 => by omega⟩, fun h1 h2 => absurd h2 (of_decide_eq_false h1)⟩)
    have HW2 := Lib.hid hw2
    rw [hw2] at HI
    clear hw2 HI5
    go_wp2_with fail
    go_loopw [7, 8] (fun s7 s8 wr => ∃ (k : Nat) (cl : Bool), s7 = .bool cl ∧ s8 = .int .i64 k ∧ a ≤ k ∧ k ≤ i ∧ Hid (Below w2.heap.size w2 wr ∧ Clean S i a k cl)) (fun _ s8 _ => i - (intOf s8).toNat)
    case atStart => exact ⟨a, decide (i < S.length), by simp, rfl, Nat.le_refl _, by omega, HJ0⟩
    case round =>
      clear HJ0
      obtain ⟨k, cl, rfl, rfl, hak, hki, HJ⟩ := hrel
      have HI5 := Lib.hid (show RgI w wr s S i a _ ps R0 from HI.out.on HJ.out.1)
      cases cl with
      | true =>
        obtain ⟨hilt, hall⟩ := HJ.out.2.1 rfl
        obtain ⟨o, hok⟩ : ∃ o, S[i]? = some o := ⟨_, List.getElem?_eq_getElem hilt⟩
        have HO := Lib.hid hok
        have HALL := Lib.hid hall
        clear hall hok
        by_cases hlt : k < i
        case pos =>
          have q3 : (k : Int) < (i : Int) := by omega
          have q4 : IntKind.i64.wrap ((k : Int) + 1) = (k : Int) + 1 := IntWalk.i64_in _ (by omega)
          have q5 : (k : Int) < (S.length : Int) := by omega
          have q6 : (i : Int) < (S.length : Int) := by omega
          obtain ⟨x, hx⟩ : ∃ x, S[k]? = some x := ⟨_, List.getElem?_eq_getElem (by omega)⟩
          have hrd := (HK.out wr fun x hx => (HI5.out.mem.keep x (by rw [← HR0.out]; simp [hx])).1).1
          obtain ⟨bk, pk, ck, hvk, hltk, _, hck⟩ := OpsOf.at hrd hx
          obtain ⟨rfl, rfl⟩ : g = bk ∧ 0 = pk := by cases hvk; exact ⟨rfl, rfl⟩
          obtain ⟨bi, pi, ci, hvi, hlti, _, hci⟩ := OpsOf.at hrd HO.out
          obtain ⟨rfl, rfl⟩ : g = bi ∧ 0 = pi := by cases hvi; exact ⟨rfl, rfl⟩
          have m1 := fun e os => load_cellsO (w := grow (redrawn wr e) os) (b := g) (p := k * 11) (o := x) (fun t u ht => ((below_regrown wr e os).cell (p := ⟨g, k * 11 + t, none⟩) hltk).trans (by have := hck t u ht; rwa [Nat.zero_add] at this))
          have m2 := fun e os => load_cellsO (w := grow (redrawn wr e) os) (b := g) (p := i * 11) (o := o) (fun t u ht => ((below_regrown wr e os).cell (p := ⟨g, i * 11 + t, none⟩) hltk).trans (by have := hci t u ht; rwa [Nat.zero_add] at this))
          obtain ⟨bf, hbf⟩ : ∃ b, befB x o = b := ⟨_, rfl⟩
          have k1 : ∀ e os, Calls Try.prog 17 #[Value.agg #[Value.int .i64 x.id, Value.int .i64 x.proc, Value.int .i64 x.obj, Value.int .i64 x.kind, Value.int .i64 x.meth, Value.int .i64 x.arg, Value.int .i64 x.sec, Value.bool x.done, Value.int .i64 x.res, Value.int .i64 x.inv, Value.int .i64 x.ret], Value.agg #[Value.int .i64 o.id, Value.int .i64 o.proc, Value.int .i64 o.obj, Value.int .i64 o.kind, Value.int .i64 o.meth, Value.int .i64 o.arg, Value.int .i64 o.sec, Value.bool o.done, Value.int .i64 o.res, Value.int .i64 o.inv, Value.int .i64 o.ret]] (grow (redrawn wr e) os) fun r w'' => r = .returned (.bool bf) ∧ ∃ p : Regrown, w'' = grow (redrawn wr p.d) p.os := fun e os => Calls.regrown_of (by rw [← hbf]; exact rbefore_any x o _)
          have K1 := Lib.hid k1
          have HCL := Lib.hid (show Clean S i a (k + 1) bf from ⟨fun h => ⟨hilt, fun t y z h1 h2 hy hz => by
            by_cases e : t = k
            · subst e
              rw [hx] at hy
              rw [HO.out] at hz
              cases hy
              cases hz
              rw [hbf, h]
            · exact HALL.out t y z h1 (by omega) hy hz⟩, fun h _ => ⟨k, x, o, hak, hlt, hx, HO.out, by rw [hbf, h]⟩⟩)
          clear hx hrd hvk hltk hck hvi hlti hci hbf k1
          go_wp2_with fail
          refine wp_region_quiet_below (by kernel_rfl) (by kernel_rfl) ?_
          repeat (go_big_quiet_step (first | (with_reducible exact K1.out _ _)))
          refine wpQuiet_nil ?_
          intro _ hw'
          obtain ⟨⟨dq, osq⟩, hw''⟩ := hw'
          subst hw''
          go_wp2_with fail
          go_roundw
          case measure => simp [intOf] <;> omega
          case rel => exact ⟨k + 1, bf, rfl, by simp, by omega, by omega, Lib.hid ⟨HJ.out.1.on (below_regrown wr dq osq), HCL.out⟩⟩
        case neg =>
          obtain rfl : k = i := by omega
          have q3 : ¬ ((k : Int) < (k : Int)) := by omega
          have HST := Lib.hid ((rg_step HO.out HCUT.out hai).1 ((rg_all hil).1 fun t x h1 h2 hx => HALL.out t x o h1 h2 hx HO.out))
          obtain ⟨hrd0, hcS⟩ := Lib.hid (And.intro (HK.out wr fun x hx => (HI5.out.mem.keep x (by rw [← HR0.out]; simp [hx])).1) hlc) |>.out
          have hm5 := HI5.out.mem
          have b1c := (hm5.on (below_drew wr)).mem (x := (b1, .cells #[.int .i64 s.obj, .int .i64 s.kind, vO] 29 (0, 0))) (by simp [← HR0.out])
          have c0 : wr.drew.cell? ⟨b1, 0, none⟩ = some (.int .i64 s.obj) := by rw [cell_of_row _ _ _ _ _ _ b1c]; rfl
          have c1 : wr.drew.cell? ⟨b1, 1, none⟩ = some (.int .i64 s.kind) := by rw [cell_of_row _ _ _ _ _ _ b1c]; rfl
          obtain ⟨g6, cap6, W6, hrun, h6, _, _⟩ := SegM.app (hm5.on (below_drew wr)) (mkS s ((S.take k).drop a)) ((part_rd hrd0 hai hil (cS - a)).on (below_drew wr)) (by have := HI5.out.few hil; omega)
          have hrun2 : (appSS #[u4, .slice (some ⟨wr.heap.size, 0, none⟩) 1 1]).run Try.prog ((wr.alloc (.cells #[.int .i64 s.obj, .int .i64 s.kind, .slice (some ⟨g, a * 11, none⟩) (k - a) (cS - a)] 29)).drew) = .ok (.slice (some ⟨g6, 0, none⟩) (ps.length + 1) cap6) W6 := hrun
          have H6 := Lib.hid h6
          have r1 : (a : Int) ≤ (k : Int) := by omega
          have r2 : (k : Int) ≤ (cS : Int) := by omega
          have r3 : ¬ cS = a := by omega
          have r4 : a ≤ k := by omega
          have r5 : k ≤ cS := by omega
          clear hrd0 hcS hm5 b1c h6 hrun
          go_wp2_with fail
          go_big_region_o
          all_goals go_wp2_with fail
          go_roundw
          case measure => simp [intOf] <;> omega
          case rel => exact ⟨k + 1, k, _, rfl, by simp, by omega, Lib.hid ⟨H6.out, fun _ => ⟨by omega, by have := HST.out; simpa using this⟩, fun h => by omega⟩⟩
      | false =>
        have q3 : decide ((k : Int) < (i : Int)) = decide (k < i) := by simp
        by_cases hie : i = S.length
        · have q6 : ((i : Int) == (S.length : Int)) = true := by rw [hie]; simp
          have HST := Lib.hid (show ps.map Prod.fst ++ [mkS s ((S.take i).drop a)] = (cutL S).map (mkS s) from by have := HCUT.out; rw [hie, List.take_length] at this; rw [hie, List.take_length]; exact this)
          have HIE := Lib.hid hie
          clear hie
          by_cases hlt : k < i
          · have q4 : (k : Int) < (i : Int) := by omega
            obtain ⟨hrd0, hcS⟩ := Lib.hid (And.intro (HK.out wr fun x hx => (HI5.out.mem.keep x (by rw [← HR0.out]; simp [hx])).1) hlc) |>.out
            have hm5 := HI5.out.mem
            have b1c := (hm5.on (below_drew wr)).mem (x := (b1, .cells #[.int .i64 s.obj, .int .i64 s.kind, vO] 29 (0, 0))) (by simp [← HR0.out])
            have c0 : wr.drew.cell? ⟨b1, 0, none⟩ = some (.int .i64 s.obj) := by rw [cell_of_row _ _ _ _ _ _ b1c]; rfl
            have c1 : wr.drew.cell? ⟨b1, 1, none⟩ = some (.int .i64 s.kind) := by rw [cell_of_row _ _ _ _ _ _ b1c]; rfl
            obtain ⟨g6, cap6, W6, hrun, h6, _, _⟩ := SegM.app (hm5.on (below_drew wr)) (mkS s ((S.take i).drop a)) ((part_rd hrd0 hai hil (cS - a)).on (below_drew wr)) (by have := HI5.out.few hil; omega)
            have hrun2 : (appSS #[u4, .slice (some ⟨wr.heap.size, 0, none⟩) 1 1]).run Try.prog ((wr.alloc (.cells #[.int .i64 s.obj, .int .i64 s.kind, .slice (some ⟨g, a * 11, none⟩) (i - a) (cS - a)] 29)).drew) = .ok (.slice (some ⟨g6, 0, none⟩) (ps.length + 1) cap6) W6 := hrun
            have H6 := Lib.hid h6
            have r1 : (a : Int) ≤ (i : Int) := by omega
            have r2 : (i : Int) ≤ (cS : Int) := by omega
            have r3 : ¬ cS = a := by omega
            have r4 : a ≤ i := by omega
            have r5 : i ≤ cS := by omega
            clear hrd0 hcS hm5 b1c h6 hrun
            go_wp2_with fail
            go_big_region_o
            all_goals go_wp2_with fail
            go_roundw
            case measure => simp [intOf] <;> omega
            case rel => exact ⟨i + 1, i, _, rfl, by simp, by omega, Lib.hid ⟨H6.out, fun h => by have := HIE.out; omega, fun _ => by have := HST.out; simpa using this⟩⟩
          · have q4 : ¬ ((k : Int) < (i : Int)) := by omega
            obtain ⟨hrd0, hcS⟩ := Lib.hid (And.intro (HK.out wr fun x hx => (HI5.out.mem.keep x (by rw [← HR0.out]; simp [hx])).1) hlc) |>.out
            have hm5 := HI5.out.mem
            have b1c := (hm5.on (below_drew wr)).mem (x := (b1, .cells #[.int .i64 s.obj, .int .i64 s.kind, vO] 29 (0, 0))) (by simp [← HR0.out])
            have c0 : wr.drew.cell? ⟨b1, 0, none⟩ = some (.int .i64 s.obj) := by rw [cell_of_row _ _ _ _ _ _ b1c]; rfl
            have c1 : wr.drew.cell? ⟨b1, 1, none⟩ = some (.int .i64 s.kind) := by rw [cell_of_row _ _ _ _ _ _ b1c]; rfl
            obtain ⟨g6, cap6, W6, hrun, h6, _, _⟩ := SegM.app (hm5.on (below_drew wr)) (mkS s ((S.take i).drop a)) ((part_rd hrd0 hai hil (cS - a)).on (below_drew wr)) (by have := HI5.out.few hil; omega)
            have hrun2 : (appSS #[u4, .slice (some ⟨wr.heap.size, 0, none⟩) 1 1]).run Try.prog ((wr.alloc (.cells #[.int .i64 s.obj, .int .i64 s.kind, .slice (some ⟨g, a * 11, none⟩) (i - a) (cS - a)] 29)).drew) = .ok (.slice (some ⟨g6, 0, none⟩) (ps.length + 1) cap6) W6 := hrun
            have H6 := Lib.hid h6
            have r1 : (a : Int) ≤ (i : Int) := by omega
            have r2 : (i : Int) ≤ (cS : Int) := by omega
            have r3 : ¬ cS = a := by omega
            have r4 : a ≤ i := by omega
            have r5 : i ≤ cS := by omega
            clear hrd0 hcS hm5 b1c h6 hrun
            go_wp2_with fail
            go_big_region_o
            all_goals go_wp2_with fail
            go_roundw
            case measure => simp [intOf] <;> omega
            case rel => exact ⟨i + 1, i, _, rfl, by simp, by omega, Lib.hid ⟨H6.out, fun h => by have := HIE.out; omega, fun _ => by have := HST.out; simpa using this⟩⟩
        · have q6 : ((i : Int) == (S.length : Int)) = false := by simp; omega
          have hilt : i < S.length := by omega
          have HST := Lib.hid (show ps.map Prod.fst ++ [mkS s ((S.take (i + 1)).drop a)] = (cutL (S.take (i + 1))).map (mkS s) from by
            obtain ⟨t, x, o, h1, h2, hx, ho, hb⟩ := HJ.out.2.2 rfl hilt
            refine (rg_step ho HCUT.out hai).2 ?_
            cases hc : ((S.take i).drop a).all (befB · o) with
            | false => rfl
            | true => rw [(rg_all hil).2 hc t x h1 h2 hx] at hb; cases hb)
          clear hie
          have HE := Lib.hid (show RgI w wr s S (i + 1) a _ ps R0 from ⟨HI5.out.mem, fun _ => ⟨by omega, HST.out⟩, fun h => by omega⟩)
          by_cases hlt : k < i
          · have q4 : (k : Int) < (i : Int) := by omega
            go_wp2_with fail
            go_roundw
            case measure => simp [intOf] <;> omega
            case rel => exact ⟨i + 1, a, ps, rfl, by simp, by omega, HE⟩
          · have q4 : ¬ ((k : Int) < (i : Int)) := by omega
            go_wp2_with fail
            go_roundw
            case measure => simp [intOf] <;> omega
            case rel => exact ⟨i + 1, a, ps, rfl, by simp, by omega, HE⟩
end Cu
end Go.Proofs.Ytgedlfilhpbfaaa
