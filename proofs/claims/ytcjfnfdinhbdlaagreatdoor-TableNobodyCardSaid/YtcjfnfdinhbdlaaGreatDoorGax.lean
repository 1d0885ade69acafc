import Derived.Test.YtcjfnfdinhbdlaaGreatDoorGau
import Derived.Test.YtcjfnfdinhbdlaaGreatDoorGae
import Derived.Test.YtcjfnfdinhbdlaaGreatDoorGat
import Derived.Deep.RegionHeld3
namespace Go.Proofs.YtcjfnfdinhbdlaaGreatDoor
set_option maxRecDepth 100000
open Go.ChangeShapes Go.WideShapes Go.ChangeAt Go.RowKit Go.PlainAid
attribute [local go_sem ↓ high] app_u64U
theorem own_nilU (n₀ : Nat) (W : World) : UnsOwn n₀ W (.slice none 0 0) [] := ⟨rfl, .inl ⟨rfl, rfl⟩⟩
theorem empty_is {t : ByteArray} (h : t.size = 0) : t.toList = [] := by
  rw [ByteArray.toList_eq]
  exact List.length_eq_zero_iff.1 (by rw [Array.length_toList]; exact h)
theorem empty_yes {t : ByteArray} (h : t.size = 0) : t.toList.isEmpty = true := by rw [empty_is h]; rfl
theorem empty_no {t : ByteArray} (h : t.size ≠ 0) : t.toList.isEmpty = false := by
  cases e : t.toList with
  | nil =>
    rw [ByteArray.toList_eq] at e
    exact absurd (by have := congrArg List.length e; simpa using this) h
  | cons => rfl
def strLen : Value → Nat | .string t => t.size | _ => 0
def NumsPost (s : ByteArray) (w : World) (e : Ending) (w' : World) : Prop := (numsP 10 s = none ∧ e = .returned (.tuple #[.slice none 0 0, .bool false]) ∧ Below w.heap.size w w') ∨
  ∃ l r v, numsP 10 s = some (l, r) ∧ e = .returned (.tuple #[v, .bool (decide (r.size = 0))]) ∧ UnsOwn w.heap.size w' v l ∧ l.length ≤ 10 ∧ Below w.heap.size w w'
set_option maxHeartbeats 1000000 in
theorem numbers_any (s : ByteArray) (w : World) (hs : s.size ≤ 140737488351232) : Calls Tryz.prog 181 #[.string s] w (NumsPost s w) := by
  have HS := Lib.hid hs
  go_enter Tryz.func181, Tryz.ntmps181
  go_wp2_with fail
  go_loopw [4, 0] (fun v sv wr => ∃ (L : List Int) (t : ByteArray), sv = .string t ∧ L.length ≤ 10 ∧ t.size ≤ 140737488351232 ∧ Hid (UnsOwn w.heap.size wr v L) ∧ Hid (numsP 10 s = (numsP (10 - L.length) t).map fun x => (L ++ x.1, x.2)) ∧ Below w.heap.size w wr) (fun _ sv _ => strLen sv)
  case atStart => exact ⟨[], s, rfl, Nat.zero_le _, HS.out, own_nilU _ _, by unfold Hid; show _ = (numsP 10 s).map _; cases numsP 10 s <;> rfl, Below.refl _ _⟩
  case round =>
    obtain ⟨L, t, rfl, hl, ht, HV, HP, hb⟩ := hrel
    have HB := Lib.hid hb
    clear hb
    obtain ⟨ao, cap, rfl, _⟩ := HV.out.cells
    by_cases h0 : t.size = 0
    · have he := empty_yes h0
      have hl0 := empty_is h0
      have HN := Lib.hid (show numsP 10 s = some (L, t) by rw [HP.out, numsP_end _ h0]; simp)
      have HD := Lib.hid (decide_eq_true h0)
      clear h0
      go_wp2
      go_returns
      exact .inr ⟨L, t, _, HN.out, by rw [HD.out]; rfl, HV.out, hl, HB.out⟩
    · have he := empty_no h0
      have HD := Lib.hid (decide_eq_false h0)
      by_cases hten : L.length < 10
      · obtain ⟨n, hn⟩ : ∃ n, (unvarP t).1 = n := ⟨_, rfl⟩
        obtain ⟨k, hk⟩ : ∃ k, (unvarP t).2 = k := ⟨_, rfl⟩
        have HU := Lib.hid (show unvarP t = (n, k) by rw [← hn, ← hk])
        obtain ⟨f, hf⟩ : ∃ f, 10 - L.length = f + 1 := ⟨10 - L.length - 1, by omega⟩
        have HH := Lib.hid h0
        have HFL := Lib.hid hf
        rw [hf] at HP
        have hten' : (L.length : Int) < 10 := by omega
        have HNN := Lib.hid hn
        have HKK := Lib.hid hk
        clear hn hk h0 hf
        have HC := Lib.hid (unvar_any t (by unfold maxLen; omega))
        by_cases hk0 : k = 0
        · have HN := Lib.hid (show numsP 10 s = none by rw [HP.out, numsP_bad f HH.out (by rw [HKK.out]; exact hk0)]; rfl)
          subst hk0
          go_wp2_with fail
          refine (HC.out _).mono ?_
          rintro _ _ ⟨rfl, rfl⟩
          rw [HU.out]
          go_wp2
          go_returns
          exact .inl ⟨HN.out, rfl, HB.out⟩
        · obtain ⟨⟨n0, n1⟩, ⟨k0, k1, k2⟩, _, _⟩ := unvar_forth HU.out hk0
          have hk0' : (k == 0) = false := beq_eq_false_iff_ne.2 hk0
          obtain ⟨g, cap2, w2, p1, p2, _, p3⟩ := row_pushU HV.out HB.out.size (by omega) n L.length rfl
          have P2 := Lib.hid p2
          have P3 := Lib.hid (HB.out.trans p3)
          have HN := Lib.hid (show numsP 10 s = (numsP f (t.extract k.toNat t.size)).map fun x => ((L ++ [n]) ++ x.1, x.2) by
            rw [HP.out, numsP_go f HH.out (by rw [HKK.out]; exact hk0), HNN.out, HKK.out, Option.map_map]
            congr 1
            funext x
            simp)
          have HSM := Lib.hid (show (t.extract k.toNat t.size).size < t.size by rw [ByteArray.size_extract]; have := HH.out; omega)
          clear p2 p3 hk0
          go_wp2_with fail
          refine (HC.out _).mono ?_
          rintro _ _ ⟨rfl, rfl⟩
          rw [HU.out]
          go_wp2
          go_roundw
          case rel => exact ⟨L ++ [n], _, rfl, by simp; omega, by have := HSM.out; omega, P2.out, by rw [List.length_append, List.length_singleton, show 10 - (L.length + 1) = f by have := HFL.out; omega]; exact HN.out, P3.out⟩
          case measure => exact HSM.out
      · have HN := Lib.hid (show numsP 10 s = some (L, t) by rw [HP.out, show 10 - L.length = 0 by omega]; simp [numsP])
        have hten' : ¬ (L.length : Int) < 10 := by omega
        clear h0
        go_wp2
        go_returns
        exact .inr ⟨L, t, _, HN.out, by rw [HD.out]; rfl, HV.out, hl, HB.out⟩
end Go.Proofs.YtcjfnfdinhbdlaaGreatDoor
namespace Go.Proofs.YtcjfnfdinhbdlaaGreatDoor
set_option maxRecDepth 100000
open Go.ChangeShapes Go.WideShapes Go.ChangeAt Go.RowKit Go.PlainAid
def decV (x : Option OpV) : Value := match x with
  | none => .tuple #[Value.agg #[Value.int .i64 0, Value.int .i64 0, Value.int .i64 0, Value.int .i64 0, Value.int .i64 0, Value.int .i64 0, Value.int .i64 0, Value.bool false, Value.int .i64 0, Value.int .i64 0, Value.int .i64 0], .int .i64 14]
  | some o => .tuple #[Value.agg #[Value.int .i64 o.id, Value.int .i64 o.proc, Value.int .i64 o.obj, Value.int .i64 o.kind, Value.int .i64 o.meth, Value.int .i64 o.arg, Value.int .i64 o.sec, Value.bool o.done, Value.int .i64 o.res, Value.int .i64 o.inv, Value.int .i64 o.ret], .int .i64 0]
theorem put_op {w w3 : World} {c : Array Value} (hq : w3.heap[w.heap.size]? = some (.cells c 32 (0, 0))) (hc : c.size = 11) (hb : Below w.heap.size w w3) (o : OpV) :
    ∃ W5, (storeS 32 (.pointer (some ⟨w.heap.size, 0, none⟩)) (Value.agg #[Value.int .i64 o.id, Value.int .i64 o.proc, Value.int .i64 o.obj, Value.int .i64 o.kind, Value.int .i64 o.meth, Value.int .i64 o.arg, Value.int .i64 o.sec, Value.bool o.done, Value.int .i64 o.res, Value.int .i64 o.inv, Value.int .i64 o.ret])).run Tryz.prog w3 = .ok () W5 ∧ W5.heap[w.heap.size]? = some (.cells #[Value.int .i64 o.id, Value.int .i64 o.proc, Value.int .i64 o.obj, Value.int .i64 o.kind, Value.int .i64 o.meth, Value.int .i64 o.arg, Value.int .i64 o.sec, Value.bool o.done, Value.int .i64 o.res, Value.int .i64 o.inv, Value.int .i64 o.ret] 32 (0, 0)) ∧ Below w.heap.size w W5 :=
  ⟨_, store_op hq hc o, setRow_heap _ _ _ _ _ _ hq, hb.trans (Keeps.below (Keeps.setRow (own := fun j => j = w.heap.size) (Keeps.refl _ _) (.inl rfl) _) (fun _ e => by rw [e]; exact Nat.le_refl _) hb.size)⟩
theorem set3 {W : World} {b i j k : Nat} {c c' : Array Value} {u v x : Value} (h : W.heap[b]? = some (.cells c 32 (0, 0))) (e : ((c.setIfInBounds i u).setIfInBounds j v).setIfInBounds k x = c') :
    (((W.setCell ⟨b, i, none⟩ u).setCell ⟨b, j, none⟩ v).setCell ⟨b, k, none⟩ x).heap[b]? = some (.cells c' 32 (0, 0)) := by
  rw [← e]
  exact heap_setCell_same _ b k _ _ x (heap_setCell_same _ b j _ _ v (heap_setCell_same _ b i _ _ u h))
theorem keep3 {w W : World} {b i j k : Nat} {u v x : Value} (hb : Below w.heap.size w W) (h : w.heap.size ≤ b) : Below w.heap.size w (((W.setCell ⟨b, i, none⟩ u).setCell ⟨b, j, none⟩ v).setCell ⟨b, k, none⟩ x) :=
  ((hb.setCell h _).setCell h _).setCell h _
theorem far3 {W : World} {b b' i j k : Nat} {u v x : Value} {o : Obj} (h : W.heap[b']? = some o) (hn : b' ≠ b) : (((W.setCell ⟨b, i, none⟩ u).setCell ⟨b, j, none⟩ v).setCell ⟨b, k, none⟩ x).heap[b']? = some o := by
  rw [heap_setCell_other _ _ _ _ hn, heap_setCell_other _ _ _ _ hn, heap_setCell_other _ _ _ _ hn]
  exact h
theorem of_yes {l : List Int} {o : OpV} (ho : opOf l = o) (hl : l.length = 8 ∨ l.length = 10) (h : checkZ o = 0) : ofList l = some o := by
  unfold ofList
  rw [ho, if_pos ⟨hl, h⟩]
theorem of_no {l : List Int} {o : OpV} (ho : opOf l = o) (h : checkZ o ≠ 0) : ofList l = none := by
  unfold ofList
  rw [ho, if_neg fun c => h c.2]
theorem list8 {l : List Int} (h : l.length = 8) : ∃ x0 x1 x2 x3 x4 x5 x6 x7, l = [x0, x1, x2, x3, x4, x5, x6, x7] :=
  match l, h with
  | [x0, x1, x2, x3, x4, x5, x6, x7], _ => ⟨x0, x1, x2, x3, x4, x5, x6, x7, rfl⟩
theorem list10 {l : List Int} (h : l.length = 10) : ∃ x0 x1 x2 x3 x4 x5 x6 x7 x8 x9, l = [x0, x1, x2, x3, x4, x5, x6, x7, x8, x9] :=
  match l, h with
  | [x0, x1, x2, x3, x4, x5, x6, x7, x8, x9], _ => ⟨x0, x1, x2, x3, x4, x5, x6, x7, x8, x9, rfl⟩
theorem cell_set_off (w : World) (b i j : Nat) (v : Value) (h : i ≠ j) : (w.setCell ⟨b, i, none⟩ v).cell? ⟨b, j, none⟩ = w.cell? ⟨b, j, none⟩ := by
  unfold World.setCell World.cell?
  simp only [Array.getElem?_modify, if_true]
  cases hb : w.heap[b]? with
  | none => rfl
  | some o => cases o <;> simp [h]
attribute [local go_sem ↓ high] store_o load_op
theorem dec_none {s : ByteArray} (h : numsP 10 s = none) : decZ s = none := by unfold decZ; rw [h]
theorem dec_rest {s : ByteArray} {l : List Int} {r : ByteArray} (h : numsP 10 s = some (l, r)) (hr : r.size ≠ 0) : decZ s = none := by
  unfold decZ
  rw [h]
  exact if_neg hr
theorem dec_some {s : ByteArray} {l : List Int} {r : ByteArray} (h : numsP 10 s = some (l, r)) (hr : r.size = 0) : decZ s = ofList l := by
  unfold decZ
  rw [h]
  exact if_pos hr
set_option maxHeartbeats 4000000 in
theorem decode_any (s : ByteArray) (w : World) (hR : RulesAt w) (hs : s.size ≤ 140737488351232) :
    Calls Tryz.prog 129 #[.string s] w fun e w' => e = .returned (decV (decZ s)) ∧ Below w.heap.size w w' := by
  have q0 := heap_alloc_new w (.cells #[Value.int .i64 0, Value.int .i64 0, Value.int .i64 0, Value.int .i64 0, Value.int .i64 0, Value.int .i64 0, Value.int .i64 0, Value.bool false, Value.int .i64 0, Value.int .i64 0, Value.int .i64 0] 32)
  have hb0 : Below w.heap.size w (w.alloc (.cells #[Value.int .i64 0, Value.int .i64 0, Value.int .i64 0, Value.int .i64 0, Value.int .i64 0, Value.int .i64 0, Value.int .i64 0, Value.bool false, Value.int .i64 0, Value.int .i64 0, Value.int .i64 0] 32)) := by go_grown
  obtain ⟨W0, hW0⟩ : ∃ W, w.alloc (.cells #[Value.int .i64 0, Value.int .i64 0, Value.int .i64 0, Value.int .i64 0, Value.int .i64 0, Value.int .i64 0, Value.int .i64 0, Value.bool false, Value.int .i64 0, Value.int .i64 0, Value.int .i64 0] 32) = W := ⟨_, rfl⟩
  rw [hW0] at q0 hb0
  have Q0 := Lib.hid q0
  have HB0 := Lib.hid hb0
  have HR0 := Lib.hid (hR.on hb0)
  have HS := Lib.hid hs
  have HRw := Lib.hid hR
  clear q0 hb0 hR hs
  go_enter Tryz.func129, Tryz.ntmps129
  go_wp2_with fail
  clear hW0
  refine (numbers_any s _ HS.out).mono ?_
  intro e w1 hp
  rcases hp with ⟨h, rfl, hb1⟩ | ⟨L, r, v, h, rfl, hv, hl10, hb1⟩
  · have FIN := Lib.hid (dec_none h)
    have HB := Lib.hid (HB0.out.on hb1)
    have Q := Lib.hid ((hb1.block _ (heap_inO Q0.out)).trans Q0.out)
    clear h hb1
    obtain ⟨W5, hs5, q5, hb5⟩ := put_op Q.out rfl HB.out ⟨0, 0, 0, 0, 0, 0, 0, false, 0, 0, 0⟩
    dsimp only at hs5 q5
    have HB6 := Lib.hid hb5
    have Q6 := Lib.hid q5
    clear hb5 q5
    go_wp2_with fail
    have q6 := Q6.out
    refine bodyPost_ret (v := .tuple #[Value.agg #[Value.int .i64 0, Value.int .i64 0, Value.int .i64 0, Value.int .i64 0, Value.int .i64 0, Value.int .i64 0, Value.int .i64 0, Value.bool false, Value.int .i64 0, Value.int .i64 0, Value.int .i64 0], .int .i64 14]) (by simp [results, Tryz.results129, go_sem, cell_of_row _ _ _ _ _ _ q6]) rfl ?_
    exact ⟨by rw [FIN.out]; rfl, HB6.out⟩
  · obtain ⟨ao, cap, rfl, hc⟩ := hv.cells
    have HB := Lib.hid (HB0.out.on hb1)
    have Q := Lib.hid ((hb1.block _ (heap_inO Q0.out)).trans Q0.out)
    have HR := Lib.hid (HR0.out.on hb1)
    have HC := Lib.hid hc
    have HX := Lib.hid (nums_text 10 s h).2.1
    clear hc hv hb1
    by_cases hr : r.size = 0
    · have FIN := Lib.hid (dec_some h hr)
      have HE := Lib.hid (decide_eq_true hr)
      rw [HE.out]
      clear h hr HE
      by_cases h8 : L.length = 8
      · obtain ⟨x0, x1, x2, x3, x4, x5, x6, x7, rfl⟩ := list8 h8
        clear h8
        obtain ⟨y0, hy0⟩ : ∃ y, IntKind.i64.wrap x0 = y := ⟨_, rfl⟩
        obtain ⟨y1, hy1⟩ : ∃ y, IntKind.i64.wrap x1 = y := ⟨_, rfl⟩
        obtain ⟨y2, hy2⟩ : ∃ y, IntKind.i64.wrap x2 = y := ⟨_, rfl⟩
        obtain ⟨y3, hy3⟩ : ∃ y, IntKind.i64.wrap x3 = y := ⟨_, rfl⟩
        obtain ⟨y4, hy4⟩ : ∃ y, IntKind.i64.wrap x4 = y := ⟨_, rfl⟩
        obtain ⟨y5, hy5⟩ : ∃ y, IntKind.i64.wrap x5 = y := ⟨_, rfl⟩
        obtain ⟨y6, hy6⟩ : ∃ y, IntKind.i64.wrap x6 = y := ⟨_, rfl⟩
        obtain ⟨y7, hy7⟩ : ∃ y, IntKind.i64.wrap x7 = y := ⟨_, rfl⟩
        have ho := Lib.hid (show opOf [x0, x1, x2, x3, x4, x5, x6, x7] = ⟨y0, y1, y2, y3, y4, y5, y6, false, 0, y7, 0⟩ by rw [← hy0, ← hy1, ← hy2, ← hy3, ← hy4, ← hy5, ← hy6, ← hy7]; rfl)
        obtain ⟨g, hg0, hg, hg2, c0⟩ := HC.out 0 _ rfl
        obtain rfl := hg0
        obtain ⟨_, e1, _, _, c1⟩ := HC.out 1 _ rfl
        cases e1
        obtain ⟨_, e1, _, _, c2⟩ := HC.out 2 _ rfl
        cases e1
        obtain ⟨_, e1, _, _, c3⟩ := HC.out 3 _ rfl
        cases e1
        obtain ⟨_, e1, _, _, c4⟩ := HC.out 4 _ rfl
        cases e1
        obtain ⟨_, e1, _, _, c5⟩ := HC.out 5 _ rfl
        cases e1
        obtain ⟨_, e1, _, _, c6⟩ := HC.out 6 _ rfl
        cases e1
        obtain ⟨_, e1, _, _, c7⟩ := HC.out 7 _ rfl
        cases e1
        have hst : (storeS 32 (.pointer (some ⟨w1.heap.size, 0, none⟩)) (Value.agg #[Value.int .i64 y0, Value.int .i64 y1, Value.int .i64 y2, Value.int .i64 y3, Value.int .i64 y4, Value.int .i64 y5, Value.int .i64 y6, Value.bool false, Value.int .i64 0, Value.int .i64 y7, Value.int .i64 0])).run Tryz.prog (w1.alloc (.cells #[Value.int .i64 0, Value.int .i64 0, Value.int .i64 0, Value.int .i64 0, Value.int .i64 0, Value.int .i64 0, Value.int .i64 0, Value.bool false, Value.int .i64 0, Value.int .i64 0, Value.int .i64 0] 32)).drew = .ok () (w1.drew.alloc (.cells #[Value.int .i64 y0, Value.int .i64 y1, Value.int .i64 y2, Value.int .i64 y3, Value.int .i64 y4, Value.int .i64 y5, Value.int .i64 y6, Value.bool false, Value.int .i64 0, Value.int .i64 y7, Value.int .i64 0] 32)) := store_op_new w1.drew #[Value.int .i64 0, Value.int .i64 0, Value.int .i64 0, Value.int .i64 0, Value.int .i64 0, Value.int .i64 0, Value.int .i64 0, Value.bool false, Value.int .i64 0, Value.int .i64 0, Value.int .i64 0] rfl ⟨y0, y1, y2, y3, y4, y5, y6, false, 0, y7, 0⟩
        have hst2 : (storeS 32 (.pointer (some ⟨w1.heap.size, 0, none⟩)) (Value.agg #[Value.int .i64 y0, Value.int .i64 y1, Value.int .i64 y2, Value.int .i64 y3, Value.int .i64 y4, Value.int .i64 y5, Value.int .i64 y6, Value.bool false, Value.int .i64 0, Value.int .i64 y7, Value.int .i64 0])).run Tryz.prog (w1.drew.alloc (.cells #[Value.int .i64 0, Value.int .i64 0, Value.int .i64 0, Value.int .i64 0, Value.int .i64 0, Value.int .i64 0, Value.int .i64 0, Value.bool false, Value.int .i64 0, Value.int .i64 0, Value.int .i64 0] 32)) = .ok () (w1.drew.alloc (.cells #[Value.int .i64 y0, Value.int .i64 y1, Value.int .i64 y2, Value.int .i64 y3, Value.int .i64 y4, Value.int .i64 y5, Value.int .i64 y6, Value.bool false, Value.int .i64 0, Value.int .i64 y7, Value.int .i64 0] 32)) := store_op_new w1.drew #[Value.int .i64 0, Value.int .i64 0, Value.int .i64 0, Value.int .i64 0, Value.int .i64 0, Value.int .i64 0, Value.int .i64 0, Value.bool false, Value.int .i64 0, Value.int .i64 0, Value.int .i64 0] rfl ⟨y0, y1, y2, y3, y4, y5, y6, false, 0, y7, 0⟩
        have hbw : Below w1.heap.size w1 (w1.alloc (.cells #[Value.int .i64 y0, Value.int .i64 y1, Value.int .i64 y2, Value.int .i64 y3, Value.int .i64 y4, Value.int .i64 y5, Value.int .i64 y6, Value.bool false, Value.int .i64 0, Value.int .i64 y7, Value.int .i64 0] 32)).drew := ((Below.refl _ _).alloc (Nat.le_refl _) _).drew
        have oq : OpAt (w1.alloc (.cells #[Value.int .i64 y0, Value.int .i64 y1, Value.int .i64 y2, Value.int .i64 y3, Value.int .i64 y4, Value.int .i64 y5, Value.int .i64 y6, Value.bool false, Value.int .i64 0, Value.int .i64 y7, Value.int .i64 0] 32)).drew w1.heap.size ⟨y0, y1, y2, y3, y4, y5, y6, false, 0, y7, 0⟩ := heap_alloc_new _ _
        obtain ⟨W2, hW2⟩ : ∃ W2, (w1.alloc (.cells #[Value.int .i64 y0, Value.int .i64 y1, Value.int .i64 y2, Value.int .i64 y3, Value.int .i64 y4, Value.int .i64 y5, Value.int .i64 y6, Value.bool false, Value.int .i64 0, Value.int .i64 y7, Value.int .i64 0] 32)).drew = W2 := ⟨_, rfl⟩
        rw [hW2] at hbw oq
        have HB2 := Lib.hid (HB.out.on hbw)
        have Q2 := Lib.hid ((hbw.block _ (heap_inO Q.out)).trans Q.out)
        have HR2 := Lib.hid (HR.out.on hbw)
        have OQ := Lib.hid oq
        have HW2 := Lib.hid hW2
        have HG := Lib.hid hg
        have HG2 := Lib.hid hg2
        have hne := Lib.hid (show w.heap.size ≠ w1.heap.size from fun e => by have := heap_inO Q.out; omega)
        clear hg2 hbw oq hW2
        go_wp2_with fail
        go_region_held3 (fun w' => w'.cell? ⟨g, 0, none⟩ = some (.int .u64 x0) ∧ w'.cell? ⟨g, 1, none⟩ = some (.int .u64 x1) ∧ w'.cell? ⟨g, 2, none⟩ = some (.int .u64 x2) ∧ w'.cell? ⟨g, 3, none⟩ = some (.int .u64 x3) ∧ w'.cell? ⟨g, 4, none⟩ = some (.int .u64 x4) ∧ w'.cell? ⟨g, 5, none⟩ = some (.int .u64 x5) ∧ w'.cell? ⟨g, 6, none⟩ = some (.int .u64 x6) ∧ w'.cell? ⟨g, 7, none⟩ = some (.int .u64 x7)) (go_keep) (fail)
        rw [HW2.out]
        rename_i hheld
        clear hheld hst hst2 c0 c1 c2 c3 c4 c5 c6 c7 hy0 hy1 hy2 hy3 hy4 hy5 hy6 hy7
        have l2 := OQ.out.load
        dsimp only at l2
        have OA4 := OQ
        have HB4 := HB2
        have Q4 := Q2
        have HR4 := HR2
        go_wp2_with fail
        clear l2
        refine (ocheck_any ⟨y0, y1, y2, y3, y4, y5, y6, false, 0, y7, 0⟩ _ HR4.out).mono ?_
        rintro _ w4 ⟨rfl, hb4⟩
        have HB5 := Lib.hid (HB4.out.on hb4)
        have Q5 := Lib.hid ((hb4.block _ (heap_inO Q4.out)).trans Q4.out)
        have l5 := (OA4.out.on hb4).load
        dsimp only at l5
        clear hb4
        by_cases hz0 : checkZ ⟨y0, y1, y2, y3, y4, y5, y6, false, 0, y7, 0⟩ = 0
        · have HZ := Lib.hid hz0
          have FI := Lib.hid (of_yes ho.out (by first | exact .inl rfl | exact .inr rfl) hz0)
          rw [hz0]
          clear hz0
          obtain ⟨W5, hs5, q5, hb5⟩ := put_op Q5.out rfl HB5.out ⟨y0, y1, y2, y3, y4, y5, y6, false, 0, y7, 0⟩
          dsimp only at hs5 q5
          have HB6 := Lib.hid hb5
          have Q6 := Lib.hid q5
          clear hb5 q5
          go_wp2_with fail
          have q6 := Q6.out
          refine bodyPost_ret (v := .tuple #[Value.agg #[Value.int .i64 y0, Value.int .i64 y1, Value.int .i64 y2, Value.int .i64 y3, Value.int .i64 y4, Value.int .i64 y5, Value.int .i64 y6, Value.bool false, Value.int .i64 0, Value.int .i64 y7, Value.int .i64 0], .int .i64 0]) (by simp [results, Tryz.results129, go_sem, cell_of_row _ _ _ _ _ _ q6]) rfl ?_
          exact ⟨by rw [FIN.out, FI.out]; rfl, HB6.out⟩
        · obtain ⟨zz, hzz⟩ : ∃ q, checkZ ⟨y0, y1, y2, y3, y4, y5, y6, false, 0, y7, 0⟩ = q := ⟨_, rfl⟩
          have FI := Lib.hid (of_no ho.out hz0)
          rw [hzz] at hz0 ⊢
          have hz1 : (zz == 0) = false := beq_eq_false_iff_ne.2 hz0
          clear hz0 hzz l5
          obtain ⟨W5, hs5, q5, hb5⟩ := put_op Q5.out rfl HB5.out ⟨0, 0, 0, 0, 0, 0, 0, false, 0, 0, 0⟩
          dsimp only at hs5 q5
          have HB6 := Lib.hid hb5
          have Q6 := Lib.hid q5
          clear hb5 q5
          go_wp2_with fail
          have q6 := Q6.out
          refine bodyPost_ret (v := .tuple #[Value.agg #[Value.int .i64 0, Value.int .i64 0, Value.int .i64 0, Value.int .i64 0, Value.int .i64 0, Value.int .i64 0, Value.int .i64 0, Value.bool false, Value.int .i64 0, Value.int .i64 0, Value.int .i64 0], .int .i64 14]) (by simp [results, Tryz.results129, go_sem, cell_of_row _ _ _ _ _ _ q6]) rfl ?_
          exact ⟨by rw [FIN.out, FI.out]; rfl, HB6.out⟩
      · by_cases h10 : L.length = 10
        · obtain ⟨x0, x1, x2, x3, x4, x5, x6, x7, x8, x9, rfl⟩ := list10 h10
          clear h8 h10
          obtain ⟨y0, hy0⟩ : ∃ y, IntKind.i64.wrap x0 = y := ⟨_, rfl⟩
          obtain ⟨y1, hy1⟩ : ∃ y, IntKind.i64.wrap x1 = y := ⟨_, rfl⟩
          obtain ⟨y2, hy2⟩ : ∃ y, IntKind.i64.wrap x2 = y := ⟨_, rfl⟩
          obtain ⟨y3, hy3⟩ : ∃ y, IntKind.i64.wrap x3 = y := ⟨_, rfl⟩
          obtain ⟨y4, hy4⟩ : ∃ y, IntKind.i64.wrap x4 = y := ⟨_, rfl⟩
          obtain ⟨y5, hy5⟩ : ∃ y, IntKind.i64.wrap x5 = y := ⟨_, rfl⟩
          obtain ⟨y6, hy6⟩ : ∃ y, IntKind.i64.wrap x6 = y := ⟨_, rfl⟩
          obtain ⟨y7, hy7⟩ : ∃ y, IntKind.i64.wrap x7 = y := ⟨_, rfl⟩
          obtain ⟨y8, hy8⟩ : ∃ y, IntKind.i64.wrap x8 = y := ⟨_, rfl⟩
          obtain ⟨z, hz⟩ : ∃ y, IntKind.i64.wrap (y7 + y8) = y := ⟨_, rfl⟩
          obtain ⟨u, hu⟩ : ∃ y, unfoldZ x9 = y := ⟨_, rfl⟩
          have hx9 := HX.out x9 (by simp)
          have ho := Lib.hid (show opOf [x0, x1, x2, x3, x4, x5, x6, x7, x8, x9] = ⟨y0, y1, y2, y3, y4, y5, y6, true, u, y7, z⟩ by rw [← hz, ← hu, ← hy0, ← hy1, ← hy2, ← hy3, ← hy4, ← hy5, ← hy6, ← hy7, ← hy8]; rfl)
          have HU := Lib.hid hu
          clear hu
          obtain ⟨g, hg0, hg, hg2, c0⟩ := HC.out 0 _ rfl
          obtain rfl := hg0
          obtain ⟨_, e1, _, _, c1⟩ := HC.out 1 _ rfl
          cases e1
          obtain ⟨_, e1, _, _, c2⟩ := HC.out 2 _ rfl
          cases e1
          obtain ⟨_, e1, _, _, c3⟩ := HC.out 3 _ rfl
          cases e1
          obtain ⟨_, e1, _, _, c4⟩ := HC.out 4 _ rfl
          cases e1
          obtain ⟨_, e1, _, _, c5⟩ := HC.out 5 _ rfl
          cases e1
          obtain ⟨_, e1, _, _, c6⟩ := HC.out 6 _ rfl
          cases e1
          obtain ⟨_, e1, _, _, c7⟩ := HC.out 7 _ rfl
          cases e1
          obtain ⟨_, e1, _, _, c8⟩ := HC.out 8 _ rfl
          cases e1
          obtain ⟨_, e1, _, _, c9⟩ := HC.out 9 _ rfl
          cases e1
          have hst : (storeS 32 (.pointer (some ⟨w1.heap.size, 0, none⟩)) (Value.agg #[Value.int .i64 y0, Value.int .i64 y1, Value.int .i64 y2, Value.int .i64 y3, Value.int .i64 y4, Value.int .i64 y5, Value.int .i64 y6, Value.bool false, Value.int .i64 0, Value.int .i64 y7, Value.int .i64 0])).run Tryz.prog (w1.alloc (.cells #[Value.int .i64 0, Value.int .i64 0, Value.int .i64 0, Value.int .i64 0, Value.int .i64 0, Value.int .i64 0, Value.int .i64 0, Value.bool false, Value.int .i64 0, Value.int .i64 0, Value.int .i64 0] 32)).drew = .ok () (w1.drew.alloc (.cells #[Value.int .i64 y0, Value.int .i64 y1, Value.int .i64 y2, Value.int .i64 y3, Value.int .i64 y4, Value.int .i64 y5, Value.int .i64 y6, Value.bool false, Value.int .i64 0, Value.int .i64 y7, Value.int .i64 0] 32)) := store_op_new w1.drew #[Value.int .i64 0, Value.int .i64 0, Value.int .i64 0, Value.int .i64 0, Value.int .i64 0, Value.int .i64 0, Value.int .i64 0, Value.bool false, Value.int .i64 0, Value.int .i64 0, Value.int .i64 0] rfl ⟨y0, y1, y2, y3, y4, y5, y6, false, 0, y7, 0⟩
          have hst2 : (storeS 32 (.pointer (some ⟨w1.heap.size, 0, none⟩)) (Value.agg #[Value.int .i64 y0, Value.int .i64 y1, Value.int .i64 y2, Value.int .i64 y3, Value.int .i64 y4, Value.int .i64 y5, Value.int .i64 y6, Value.bool false, Value.int .i64 0, Value.int .i64 y7, Value.int .i64 0])).run Tryz.prog (w1.drew.alloc (.cells #[Value.int .i64 0, Value.int .i64 0, Value.int .i64 0, Value.int .i64 0, Value.int .i64 0, Value.int .i64 0, Value.int .i64 0, Value.bool false, Value.int .i64 0, Value.int .i64 0, Value.int .i64 0] 32)) = .ok () (w1.drew.alloc (.cells #[Value.int .i64 y0, Value.int .i64 y1, Value.int .i64 y2, Value.int .i64 y3, Value.int .i64 y4, Value.int .i64 y5, Value.int .i64 y6, Value.bool false, Value.int .i64 0, Value.int .i64 y7, Value.int .i64 0] 32)) := store_op_new w1.drew #[Value.int .i64 0, Value.int .i64 0, Value.int .i64 0, Value.int .i64 0, Value.int .i64 0, Value.int .i64 0, Value.int .i64 0, Value.bool false, Value.int .i64 0, Value.int .i64 0, Value.int .i64 0] rfl ⟨y0, y1, y2, y3, y4, y5, y6, false, 0, y7, 0⟩
          have hbw : Below w1.heap.size w1 (w1.alloc (.cells #[Value.int .i64 y0, Value.int .i64 y1, Value.int .i64 y2, Value.int .i64 y3, Value.int .i64 y4, Value.int .i64 y5, Value.int .i64 y6, Value.bool false, Value.int .i64 0, Value.int .i64 y7, Value.int .i64 0] 32)).drew := ((Below.refl _ _).alloc (Nat.le_refl _) _).drew
          have oq : OpAt (w1.alloc (.cells #[Value.int .i64 y0, Value.int .i64 y1, Value.int .i64 y2, Value.int .i64 y3, Value.int .i64 y4, Value.int .i64 y5, Value.int .i64 y6, Value.bool false, Value.int .i64 0, Value.int .i64 y7, Value.int .i64 0] 32)).drew w1.heap.size ⟨y0, y1, y2, y3, y4, y5, y6, false, 0, y7, 0⟩ := heap_alloc_new _ _
          obtain ⟨W2, hW2⟩ : ∃ W2, (w1.alloc (.cells #[Value.int .i64 y0, Value.int .i64 y1, Value.int .i64 y2, Value.int .i64 y3, Value.int .i64 y4, Value.int .i64 y5, Value.int .i64 y6, Value.bool false, Value.int .i64 0, Value.int .i64 y7, Value.int .i64 0] 32)).drew = W2 := ⟨_, rfl⟩
          rw [hW2] at hbw oq
          have HB2 := Lib.hid (HB.out.on hbw)
          have Q2 := Lib.hid ((hbw.block _ (heap_inO Q.out)).trans Q.out)
          have HR2 := Lib.hid (HR.out.on hbw)
          have d8 := Lib.hid ((hbw.cell (p := ⟨g, 8, none⟩) hg).trans c8)
          have d9 := Lib.hid ((hbw.cell (p := ⟨g, 9, none⟩) hg).trans c9)
          clear c8 c9
          have OQ := Lib.hid oq
          have HW2 := Lib.hid hW2
          have HG := Lib.hid hg
          have HG2 := Lib.hid hg2
          have hne := Lib.hid (show w.heap.size ≠ w1.heap.size from fun e => by have := heap_inO Q.out; omega)
          clear hg2 hbw oq hW2
          go_wp2_with fail
          go_region_held3 (fun w' => w'.cell? ⟨g, 0, none⟩ = some (.int .u64 x0) ∧ w'.cell? ⟨g, 1, none⟩ = some (.int .u64 x1) ∧ w'.cell? ⟨g, 2, none⟩ = some (.int .u64 x2) ∧ w'.cell? ⟨g, 3, none⟩ = some (.int .u64 x3) ∧ w'.cell? ⟨g, 4, none⟩ = some (.int .u64 x4) ∧ w'.cell? ⟨g, 5, none⟩ = some (.int .u64 x5) ∧ w'.cell? ⟨g, 6, none⟩ = some (.int .u64 x6) ∧ w'.cell? ⟨g, 7, none⟩ = some (.int .u64 x7)) (go_keep) (fail)
          rw [HW2.out]
          rename_i hheld
          clear hheld hst hst2 c0 c1 c2 c3 c4 c5 c6 c7 hy0 hy1 hy2 hy3 hy4 hy5 hy6 hy7
          obtain ⟨_, _, _, _, _, _, _, _, _, k9, _⟩ := OQ.out.cell
          have e8 := d8.out
          have e9 := d9.out
          have hwn : W2.heap.size ≠ 0 := fun e => by have := HB2.out.size; have := heap_inO Q2.out; omega
          clear hwn
          have UC := Lib.hid (fun W => unfold_any x9 W hx9.1 hx9.2)
          have f7 : W2.frozen? ⟨w1.heap.size, 7, none⟩ = false := by unfold World.frozen?; rw [show W2.heap[w1.heap.size]? = _ from OQ.out]; rfl
          have f8 : W2.frozen? ⟨w1.heap.size, 8, none⟩ = false := by unfold World.frozen?; rw [show W2.heap[w1.heap.size]? = _ from OQ.out]; rfl
          have f10 : W2.frozen? ⟨w1.heap.size, 10, none⟩ = false := by unfold World.frozen?; rw [show W2.heap[w1.heap.size]? = _ from OQ.out]; rfl
          obtain ⟨_, _, _, _, _, _, _, k7, k8, _, k10⟩ := OQ.out.cell
          have hng := Lib.hid (show g ≠ w1.heap.size from fun e => by have := HG.out; omega)
          have o3 : OpAt (((W2.setCell ⟨w1.heap.size, 7, none⟩ (.bool true)).setCell ⟨w1.heap.size, 10, none⟩ (.int .i64 z)).setCell ⟨w1.heap.size, 8, none⟩ (.int .i64 u)).drew w1.heap.size ⟨y0, y1, y2, y3, y4, y5, y6, true, u, y7, z⟩ := set3 OQ.out rfl
          have hb3 : Below w.heap.size w (((W2.setCell ⟨w1.heap.size, 7, none⟩ (.bool true)).setCell ⟨w1.heap.size, 10, none⟩ (.int .i64 z)).setCell ⟨w1.heap.size, 8, none⟩ (.int .i64 u)).drew := (keep3 HB2.out HB.out.size).drew
          have q3 : ((((W2.setCell ⟨w1.heap.size, 7, none⟩ (.bool true)).setCell ⟨w1.heap.size, 10, none⟩ (.int .i64 z)).setCell ⟨w1.heap.size, 8, none⟩ (.int .i64 u)).drew).heap[w.heap.size]? = _ := far3 Q2.out hne.out
          obtain ⟨W3, hW3⟩ : ∃ W3, (((W2.setCell ⟨w1.heap.size, 7, none⟩ (.bool true)).setCell ⟨w1.heap.size, 10, none⟩ (.int .i64 z)).setCell ⟨w1.heap.size, 8, none⟩ (.int .i64 u)).drew = W3 := ⟨_, rfl⟩
          rw [hW3] at o3 hb3 q3
          have OA4 := Lib.hid o3
          have HB4 := Lib.hid hb3
          have Q4 := Lib.hid q3
          have HR4 := Lib.hid (HRw.out.on hb3)
          have HW3 := Lib.hid hW3
          clear o3 hb3 q3 hW3
          have hng2 := hng.out
          have hng3 := Ne.symm hng2
          go_wp2_with fail
          go_region_held3 (fun w' => w'.cell? ⟨w1.heap.size, 9, none⟩ = some (.int .i64 y7) ∧ w'.cell? ⟨g, 8, none⟩ = some (.int .u64 x8) ∧ w'.cell? ⟨g, 9, none⟩ = some (.int .u64 x9)) (simp [*, World.cell?_setCell_far, cell_set_off]) (first | (go_at_call 182; refine (UC.out _).mono ?_; rintro _ _ ⟨rfl, rfl⟩))
          rw [HU.out, HW3.out]
          rename_i hheld
          clear hheld e8 e9 hng2 hng3 f7 f8 f10 k7 k8 k9 k10
          have l3 := OA4.out.load
          dsimp only at l3
          go_wp2_with fail
          clear l3
          refine (ocheck_any ⟨y0, y1, y2, y3, y4, y5, y6, true, u, y7, z⟩ _ HR4.out).mono ?_
          rintro _ w4 ⟨rfl, hb4⟩
          have HB5 := Lib.hid (HB4.out.on hb4)
          have Q5 := Lib.hid ((hb4.block _ (heap_inO Q4.out)).trans Q4.out)
          have l5 := (OA4.out.on hb4).load
          dsimp only at l5
          clear hb4
          by_cases hz0 : checkZ ⟨y0, y1, y2, y3, y4, y5, y6, true, u, y7, z⟩ = 0
          · have HZ := Lib.hid hz0
            have FI := Lib.hid (of_yes ho.out (by first | exact .inl rfl | exact .inr rfl) hz0)
            rw [hz0]
            clear hz0
            obtain ⟨W5, hs5, q5, hb5⟩ := put_op Q5.out rfl HB5.out ⟨y0, y1, y2, y3, y4, y5, y6, true, u, y7, z⟩
            dsimp only at hs5 q5
            have HB6 := Lib.hid hb5
            have Q6 := Lib.hid q5
            clear hb5 q5
            go_wp2_with fail
            have q6 := Q6.out
            refine bodyPost_ret (v := .tuple #[Value.agg #[Value.int .i64 y0, Value.int .i64 y1, Value.int .i64 y2, Value.int .i64 y3, Value.int .i64 y4, Value.int .i64 y5, Value.int .i64 y6, Value.bool true, Value.int .i64 u, Value.int .i64 y7, Value.int .i64 z], .int .i64 0]) (by simp [results, Tryz.results129, go_sem, cell_of_row _ _ _ _ _ _ q6]) rfl ?_
            exact ⟨by rw [FIN.out, FI.out]; rfl, HB6.out⟩
          · obtain ⟨zz, hzz⟩ : ∃ q, checkZ ⟨y0, y1, y2, y3, y4, y5, y6, true, u, y7, z⟩ = q := ⟨_, rfl⟩
            have FI := Lib.hid (of_no ho.out hz0)
            rw [hzz] at hz0 ⊢
            have hz1 : (zz == 0) = false := beq_eq_false_iff_ne.2 hz0
            clear hz0 hzz l5
            obtain ⟨W5, hs5, q5, hb5⟩ := put_op Q5.out rfl HB5.out ⟨0, 0, 0, 0, 0, 0, 0, false, 0, 0, 0⟩
            dsimp only at hs5 q5
            have HB6 := Lib.hid hb5
            have Q6 := Lib.hid q5
            clear hb5 q5
            go_wp2_with fail
            have q6 := Q6.out
            refine bodyPost_ret (v := .tuple #[Value.agg #[Value.int .i64 0, Value.int .i64 0, Value.int .i64 0, Value.int .i64 0, Value.int .i64 0, Value.int .i64 0, Value.int .i64 0, Value.bool false, Value.int .i64 0, Value.int .i64 0, Value.int .i64 0], .int .i64 14]) (by simp [results, Tryz.results129, go_sem, cell_of_row _ _ _ _ _ _ q6]) rfl ?_
            exact ⟨by rw [FIN.out, FI.out]; rfl, HB6.out⟩
        · have FI := Lib.hid (FIN.out.trans (other_no (l := L) (by omega)))
          have FIN := FI
          have h8' : ((L.length : Int) != 8) = true := bne_iff_ne.2 (by omega)
          have h10' : ((L.length : Int) != 10) = true := bne_iff_ne.2 (by omega)
          obtain ⟨W5, hs5, q5, hb5⟩ := put_op Q.out rfl HB.out ⟨0, 0, 0, 0, 0, 0, 0, false, 0, 0, 0⟩
          dsimp only at hs5 q5
          have HB6 := Lib.hid hb5
          have Q6 := Lib.hid q5
          clear hb5 q5
          go_wp2_with fail
          have q6 := Q6.out
          refine bodyPost_ret (v := .tuple #[Value.agg #[Value.int .i64 0, Value.int .i64 0, Value.int .i64 0, Value.int .i64 0, Value.int .i64 0, Value.int .i64 0, Value.int .i64 0, Value.bool false, Value.int .i64 0, Value.int .i64 0, Value.int .i64 0], .int .i64 14]) (by simp [results, Tryz.results129, go_sem, cell_of_row _ _ _ _ _ _ q6]) rfl ?_
          exact ⟨by rw [FIN.out]; rfl, HB6.out⟩
    · have FIN := Lib.hid (dec_rest h hr)
      have HE := Lib.hid (decide_eq_false hr)
      rw [HE.out]
      clear h hr HE
      obtain ⟨W5, hs5, q5, hb5⟩ := put_op Q.out rfl HB.out ⟨0, 0, 0, 0, 0, 0, 0, false, 0, 0, 0⟩
      dsimp only at hs5 q5
      have HB6 := Lib.hid hb5
      have Q6 := Lib.hid q5
      clear hb5 q5
      go_wp2_with fail
      have q6 := Q6.out
      refine bodyPost_ret (v := .tuple #[Value.agg #[Value.int .i64 0, Value.int .i64 0, Value.int .i64 0, Value.int .i64 0, Value.int .i64 0, Value.int .i64 0, Value.int .i64 0, Value.bool false, Value.int .i64 0, Value.int .i64 0, Value.int .i64 0], .int .i64 14]) (by simp [results, Tryz.results129, go_sem, cell_of_row _ _ _ _ _ _ q6]) rfl ?_
      exact ⟨by rw [FIN.out]; rfl, HB6.out⟩
end Go.Proofs.YtcjfnfdinhbdlaaGreatDoor
namespace Go.Proofs.YtcjfnfdinhbdlaaGreatDoor
set_option maxRecDepth 100000
open Go.ChangeShapes Go.WideShapes Go.ChangeAt Go.RowKit Go.PlainAid Go.Deep
attribute [local go_sem ↓ high] load_op store_o
theorem put_box {B : Nat} {w W : World} {b : Nat} {o : OpV} (h : OpAt W b o) (hb : B ≤ b) (hB : Below B w W) (hw : B ≤ w.heap.size) (x : OpV) :
    ∃ W5, (storeS 32 (.pointer (some ⟨b, 0, none⟩)) (Value.agg #[Value.int .i64 x.id, Value.int .i64 x.proc, Value.int .i64 x.obj, Value.int .i64 x.kind, Value.int .i64 x.meth, Value.int .i64 x.arg, Value.int .i64 x.sec, Value.bool x.done, Value.int .i64 x.res, Value.int .i64 x.inv, Value.int .i64 x.ret])).run Tryz.prog W = .ok () W5 ∧ OpAt W5 b x ∧ Below B w W5 ∧ (∀ k, k ≠ b → W5.heap[k]? = W.heap[k]?) ∧ W5.heap.size = W.heap.size :=
  ⟨_, store_op h rfl x, setRow_heap _ _ _ _ _ _ h, hB.trans (Keeps.below (Keeps.setRow (own := fun j => j = b) (Keeps.refl _ _) (.inl rfl) _) (fun i e => by rw [show i = b from e]; exact hb) (Nat.le_trans hw hB.size)), fun k hk => setRow_other _ _ _ _ hk, by simp⟩
theorem cells11 {w : World} {b : Nat} {o : OpV} (h : OpAt w b o) : ∀ i, w.cell? ⟨b, i, none⟩ = (#[Value.int .i64 o.id, Value.int .i64 o.proc, Value.int .i64 o.obj, Value.int .i64 o.kind, Value.int .i64 o.meth, Value.int .i64 o.arg, Value.int .i64 o.sec, Value.bool o.done, Value.int .i64 o.res, Value.int .i64 o.inv, Value.int .i64 o.ret])[i]? := fun _ => cell_of_row _ _ _ _ _ _ h
end Go.Proofs.YtcjfnfdinhbdlaaGreatDoor
