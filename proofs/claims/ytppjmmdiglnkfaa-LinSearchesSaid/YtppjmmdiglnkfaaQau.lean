/- Package lin: steps. Package lin: spread. -/
import Derived.Test.YtppjmmdiglnkfaaQat
namespace Go.Proofs.Ytppjmmdiglnkfaa
set_option maxRecDepth 100000
open Go.ChangeShapes Go.WideShapes Go.ChangeAt Go.RowKit Go.PlainAid Go.Deep
namespace Ln
def rtSp : RT := ⟨126, 132, .agg #[.int .u32 0, .int .i64 0], 2, 16⟩
theorem rtSp_good : rtSp.Good := ⟨Try.underlying132, by kernel_rfl, rfl, by decide, by decide⟩
def appSp (vs : Array Value) : Sem Value := Builtin.append_ #[132, 132] 132 vs
theorem app_sp (vs : Array Value) : Builtin.append_ #[132, 132] 132 vs = appSp vs := rfl
attribute [local go_sem ↓ high] app_sp
/-- The cells of spots. -/
def flatS (ns : List (Nat × Nat)) : List Value := ns.flatMap fun p => [.int .u32 (p.1 : Int), .int .i64 (p.2 : Int)]
theorem flatS_snoc (ns : List (Nat × Nat)) (p : Nat × Nat) : flatS (ns ++ [p]) = flatS ns ++ [.int .u32 (p.1 : Int), .int .i64 (p.2 : Int)] := by unfold flatS; rw [List.flatMap_append]; rfl
theorem flatS_get : ∀ (ns : List (Nat × Nat)) (i : Nat) (p : Nat × Nat), ns[i]? = some p → (flatS ns)[i * 2]? = some (.int .u32 (p.1 : Int)) ∧ (flatS ns)[i * 2 + 1]? = some (.int .i64 (p.2 : Int))
  | q :: r, 0, p, h => by
    obtain rfl : q = p := by simpa using h
    exact ⟨rfl, rfl⟩
  | q :: r, i + 1, p, h => by
    have := flatS_get r i p (by simpa using h)
    have e : flatS (q :: r) = [.int .u32 (q.1 : Int), .int .i64 (q.2 : Int)] ++ flatS r := rfl
    rw [e, List.getElem?_append_right (by simp; omega), List.getElem?_append_right (by simp; omega)]
    simp only [List.length_cons, List.length_nil]
    rw [show (i + 1) * 2 - (0 + 1 + 1) = i * 2 by omega, show (i + 1) * 2 + 1 - (0 + 1 + 1) = i * 2 + 1 by omega]
    exact this
/-- A spot by its numbers. -/
def dec (L : List (List Int)) (p : Nat × Nat) : Spt := (p.1, (L[p.2]?).getD [])
theorem dec_ext {L L' : List (List Int)} (h : Ext L L') {p : Nat × Nat} (hp : p.2 < L.length) : dec L' p = dec L p := by
  unfold dec
  rw [h _ _ (List.getElem?_eq_getElem hp), List.getElem?_eq_getElem hp]
theorem Ext.len {L L' : List (List Int)} (h : Ext L L') {n : Nat} (hn : n < L.length) : n < L'.length := (List.getElem?_eq_some_iff.1 (h _ _ (List.getElem?_eq_getElem hn))).1
theorem decs_ext {L L' : List (List Int)} (h : Ext L L') {ns : List (Nat × Nat)} (hp : ∀ p ∈ ns, p.2 < L.length) : ns.map (dec L') = ns.map (dec L) := List.map_congr_left fun p hq => dec_ext h (hp p hq)
theorem SrAt.keep' {w0 : World} {n₁ : Nat} {v : Value} {l : List OpV} {dn : Nat} {ah : List Nat} {w w' : World} {E c : Nat} {L : List (List Int)} (h : SrAt w0 n₁ v l dn ah w E c L) {own : Nat → Prop} (k : Keeps own w w') (hlo : ∀ b, own b → w0.heap.size ≤ b)
    (hno : ∀ b cur T, own b → w.heap[b]? = some (.cells cur T (0, 0)) → T ≠ 27 ∧ T ≠ 119 ∧ T ≠ 68 ∧ T ≠ 3) (hmp : ∀ b es ck, own b → w.heap[b]? = some (.map es ck) → b ≠ w0.heap.size + 1 ∧ b ≠ w0.heap.size + 1 + 1) : SrAt w0 n₁ v l dn ah w' E c L := by
  obtain ⟨vs, hb, ho⟩ := h.bs
  obtain ⟨G, hG, hGo⟩ := h.nums
  obtain ⟨G', hM, hMo⟩ := h.mvs
  refine ⟨h.bel.trans (Keeps.below k hlo h.bel.size), ⟨vs, (k.block _ (heap_inO hb) (fun c => ?_)).trans hb, sts_keep ho k (fun g cur hg he => (hno g cur _ hg he).1 rfl) (fun g cur hg he => (hno g cur _ hg he).2.2.2 rfl)⟩, (k.block _ (heap_inO h.ba) (fun c => ?_)).trans h.ba, ⟨G, hG.of (k.block _ hG.lt fun c => ?_), hGo⟩, ⟨G', hM.of (k.block _ hM.lt fun c => ?_), hMo⟩, h.nd, h.ok, h.cnt, h.base.1, Nat.le_trans h.base.2 k.size⟩
  · unfold srO at hb; exact (hno _ _ _ c hb).2.1 rfl
  · have := h.ba; unfold ahO at this; exact (hno _ _ _ c this).2.2.1 rfl
  · obtain ⟨es, ck, e, _⟩ := hG; exact (hmp _ _ _ c e).1 rfl
  · obtain ⟨es, ck, e, _⟩ := hM; exact (hmp _ _ _ c e).2 rfl
theorem SrAt.keep {w0 : World} {n₁ : Nat} {v : Value} {l : List OpV} {dn : Nat} {ah : List Nat} {w w' : World} {E c : Nat} {L : List (List Int)} (h : SrAt w0 n₁ v l dn ah w E c L) {own : Nat → Prop} (k : Keeps own w w')
    (hno : ∀ b, own b → w0.heap.size ≤ b ∧ ∃ cur T, w.heap[b]? = some (.cells cur T (0, 0)) ∧ T ≠ 27 ∧ T ≠ 119 ∧ T ≠ 68 ∧ T ≠ 3) : SrAt w0 n₁ v l dn ah w' E c L :=
  h.keep' k (fun b hb => (hno b hb).1) (fun b cur T hb hg => by
    obtain ⟨_, cur', T', hg', ht⟩ := hno b hb
    rw [hg'] at hg
    have e := (Obj.cells.inj (Option.some.inj hg)).2.1
    subst e
    exact ht) fun b es ck hb hg => by
    obtain ⟨_, cur', T', hg', _⟩ := hno b hb
    rw [hg'] at hg; cases hg
theorem SrAt.row {w0 : World} {n₁ : Nat} {v : Value} {l : List OpV} {dn : Nat} {ah : List Nat} {w w' : World} {E c : Nat} {L : List (List Int)} (h : SrAt w0 n₁ v l dn ah w E c L) (k : Fr w0 n₁ w w') {n₀ : Nat} {T : TypeId} {z n : Nat} {u : Value} {cs : List Value} (hr : w.ownsRow n₀ T z u n cs) (h1 : T ≠ 27) (h2 : T ≠ 119) : w'.ownsRow n₀ T z u n cs := by
  refine ⟨hr.1, ?_⟩
  rcases hr.2 with h' | ⟨g, cap, cur, hv, hn, hg, hrest⟩
  · exact .inl h'
  · exact .inr ⟨g, cap, cur, hv, hn, h.cells k hg h1 h2, hrest⟩
theorem row_block {w : World} {n₀ : Nat} {T : TypeId} {z n : Nat} {u : Value} {cs : List Value} (hr : w.ownsRow n₀ T z u n cs) {b : Nat} (hb : u.ownBlock = some b) : n₀ ≤ b ∧ ∃ cur, w.heap[b]? = some (.cells cur T (0, 0)) := by
  rcases hr.2 with ⟨rfl, _⟩ | ⟨g, cap, cur, rfl, hn, hg, _⟩
  · simp [Value.ownBlock] at hb
  · obtain rfl : g = b := by simpa [Value.ownBlock] using hb
    exact ⟨hn, cur, hg⟩
/-- What steps has in memory. -/
structure StI (w0 : World) (n₁ : Nat) (v : Value) (l : List OpV) (dn : Nat) (ah : List Nat) (w wr : World) (E c : Nat) (L : List (List Int)) (p : Spt) (x : Array Value) (i : Nat) (u : Value) (L1 : List (List Int)) (ns : List (Nat × Nat)) : Prop where
  sr : SrAt w0 n₁ v l dn ah wr E c L1
  ext : Ext L L1
  row : wr.ownsRow w.heap.size 126 2 u ns.length (flatS ns)
  is : ns.map (dec L1) = nxK l p i
  lt : ∀ q ∈ ns, q.1 < 65536 ∧ q.2 < L1.length
  fr : Fr w0 n₁ w wr
  box : wr.heap[w.heap.size]? = some (.cells x 128 (0, 0))
theorem StI.drew {w0 : World} {n₁ : Nat} {v : Value} {l : List OpV} {dn : Nat} {ah : List Nat} {w wr : World} {E c : Nat} {L : List (List Int)} {p : Spt} {x : Array Value} {i : Nat} {u : Value} {L1 : List (List Int)} {ns : List (Nat × Nat)} (h : StI w0 n₁ v l dn ah w wr E c L p x i u L1 ns) : StI w0 n₁ v l dn ah w wr.drew E c L p x i u L1 ns :=
  ⟨h.sr.on (Below.refl _ _).drew, h.ext, h.row, h.is, h.lt, h.fr.trans (Fr.of (Below.refl wr.heap.size wr).drew), h.box⟩
theorem StI.skip {w0 : World} {n₁ : Nat} {v : Value} {l : List OpV} {dn : Nat} {ah : List Nat} {w wr : World} {E c c' : Nat} {L : List (List Int)} {p : Spt} {x : Array Value} {i : Nat} {u : Value} {L1 : List (List Int)} {ns : List (Nat × Nat)} (h : StI w0 n₁ v l dn ah w wr E c L p x i u L1 ns) (hn : nx1 l p i = none) (hc : c ≤ c') : StI w0 n₁ v l dn ah w wr E c' L p x (i + 1) u L1 ns :=
  ⟨h.sr.more hc, h.ext, h.row, by rw [nxK_succ, hn]; simpa using h.is, h.lt, h.fr, h.box⟩
/-- Behind a move. -/
theorem StI.next {w0 : World} {n₁ : Nat} {v : Value} {l : List OpV} {dn : Nat} {ah : List Nat} {w wr w' : World} {E c c' : Nat} {L : List (List Int)} {p : Spt} {x : Array Value} {i : Nat} {u : Value} {L1 L2 : List (List Int)} {ns : List (Nat × Nat)} (h : StI w0 n₁ v l dn ah w wr E c L p x i u L1 ns) (hs : SrAt w0 n₁ v l dn ah w' E c' L2) (he : Ext L1 L2) (hf : Fr w0 n₁ wr w') : StI w0 n₁ v l dn ah w w' E c' L p x i u L2 ns :=
  ⟨hs, h.ext.trans he, h.sr.row hf h.row (by decide) (by decide), by rw [decs_ext he fun q hq => (h.lt q hq).2]; exact h.is, fun q hq => ⟨(h.lt q hq).1, he.len (h.lt q hq).2⟩, h.fr.trans hf, h.sr.cells hf h.box (by decide) (by decide)⟩
/-- A spot more. -/
theorem StI.push {w0 : World} {n₁ : Nat} {v : Value} {l : List OpV} {dn : Nat} {ah : List Nat} {w wr : World} {E c : Nat} {L : List (List Int)} {p : Spt} {x : Array Value} {i : Nat} {u : Value} {L1 : List (List Int)} {ns : List (Nat × Nat)} (h : StI w0 n₁ v l dn ah w wr E c L p x i u L1 ns) (hw : w0.heap.size ≤ w.heap.size) (hx : w.heap.size < wr.heap.size) {m k : Nat} {t : List Int} (hm : m < 65536) (hk : L1[k]? = some t) (hn : nx1 l p i = some (m, t)) (hl : ns.length < 1000000) :
    ∃ u' w', (appSp #[u, .slice (some ⟨wr.heap.size, 0, none⟩) 1 1]).run Try.prog (wr.alloc (.cells #[.int .u32 (m : Int), .int .i64 (k : Int)] 126)) = .ok u' w' ∧ (∃ ao cap, u' = .slice ao (ns.length + 1) cap) ∧ StI w0 n₁ v l dn ah w w' E c L p x (i + 1) u' L1 (ns ++ [(m, k)]) := by
  obtain ⟨u', w', hr, ho, hkp⟩ := row_push rtSp_good (v := u) (n := ns.length) (a := flatS ns) h.row [.int .u32 (m : Int), .int .i64 (k : Int)] rfl (fun y hy => by simp at hy; rcases hy with rfl | rfl <;> rfl) (by omega) (by omega)
  have hown : ∀ b, u.ownBlock = some b → w.heap.size ≤ b ∧ ∃ cur, wr.heap[b]? = some (.cells cur 126 (0, 0)) := fun b hb => row_block h.row hb
  obtain ⟨ao, cap, hu', _⟩ := own_len ho
  have hfr : Fr w0 n₁ w w' := Keeps.trans h.fr hkp fun i hi => .inr (hown i hi).1
  have hbx : w'.heap[w.heap.size]? = some (.cells x 128 (0, 0)) := (hkp.block _ (heap_inO h.box) (fun e => by
    obtain ⟨_, cur, hg⟩ := hown _ e
    rw [h.box] at hg
    exact absurd (Obj.cells.inj (Option.some.inj hg)).2.1 (by decide))).trans h.box
  have hl1 : (ns ++ [(m, k)]).length = ns.length + 1 := by simp
  refine ⟨u', w', hr, ⟨ao, cap, hu'⟩, h.sr.keep hkp (fun b hb => ?_), h.ext, by rw [hl1, flatS_snoc]; exact ho, ?_, ?_, hfr, hbx⟩
  · obtain ⟨h1, cur, hg⟩ := hown b hb
    exact ⟨Nat.le_trans hw h1, cur, _, hg, by decide, by decide, by decide, by decide⟩
  · rw [nxK_succ, hn, List.map_append, h.is]
    congr 1
    show [dec L1 (m, k)] = _
    unfold dec
    rw [hk]
    rfl
  · intro q hq
    rcases List.mem_append.1 hq with hq | hq
    · exact h.lt q hq
    · rw [List.mem_singleton.1 hq]
      exact ⟨hm, (List.getElem?_eq_some_iff.1 hk).1⟩
set_option maxHeartbeats 4000000 in
theorem steps_any {w0 : World} {n₁ : Nat} {v : Value} {l : List OpV} {dn : Nat} {ah : List Nat} {w : World} {E c : Nat} {L : List (List Int)} (hF : Fix w0 v l dn ah) (h : SrAt w0 n₁ v l dn ah w E c L) {m n op : Nat} {s : List Int} (hm : m < 65536) (hn : L[n]? = some s) (ho : Mk op (mayB l m)) (hE : E ≤ 500000000) (hc : c < 8000000) :
    Calls Try.prog 73 #[.pointer (some ⟨w0.heap.size + 1 + 1 + 1, 0, none⟩), .agg #[.int .u32 (m : Int), .int .i64 (n : Int), .int .u32 (op : Int)]] w fun e w' => ∃ u, e = .returned u ∧ ∃ L' ns, StI w0 n₁ v l dn ah w w' E (c + 2 * l.length) L (m, s) #[.int .u32 (m : Int), .int .i64 (n : Int), .int .u32 (op : Int)] l.length u L' ns := by
  have hbw : Below w.heap.size w (w.alloc (.cells #[.int .u32 (m : Int), .int .i64 (n : Int), .int .u32 (op : Int)] 128)) := by go_grown
  have hbx := heap_alloc_new w (.cells #[.int .u32 (m : Int), .int .i64 (n : Int), .int .u32 (op : Int)] 128)
  obtain ⟨W1, hW1⟩ : ∃ W, w.alloc (.cells #[.int .u32 (m : Int), .int .i64 (n : Int), .int .u32 (op : Int)] 128) = W := ⟨_, rfl⟩
  rw [hW1] at hbw hbx
  have h1 := h.on hbw
  obtain ⟨_, c0, _⟩ := h1.reads
  obtain ⟨av, cv, rfl⟩ := hF.ops.len
  have HI0 := Lib.hid (show StI w0 n₁ (.slice av l.length cv) l dn ah w W1 E (c + 2 * 0) L (m, s) #[.int .u32 (m : Int), .int .i64 (n : Int), .int .u32 (op : Int)] 0 (.slice none 0 0) L [] from ⟨h1, Ext.refl L, World.ownsRow_nil _ _ _ _, rfl, fun q hq => by simp at hq, Fr.of hbw, hbx⟩)
  have HF := Lib.hid hF
  have HM := Lib.hid (And.intro hn ho)
  have HW := Lib.hid (And.intro h.bel.size hbw.size)
  have hfew := hF.few
  have hopl := ho.lt
  clear hF h hn ho hbw hbx h1
  go_enter Try.func73, Try.ntmps73
  go_wp2_with fail
  go_loopw [5, 13] (fun s5 s13 wr => ∃ (i : Nat) (aA : Option Addr) (cA : Nat) (L1 : List (List Int)) (ns : List (Nat × Nat)), s13 = .int .i64 i ∧ s5 = .slice aA ns.length cA ∧ i ≤ l.length ∧ Hid (StI w0 n₁ (.slice av l.length cv) l dn ah w wr E (c + 2 * i) L (m, s) #[.int .u32 (m : Int), .int .i64 (n : Int), .int .u32 (op : Int)] i (.slice aA ns.length cA) L1 ns)) (fun _ s13 _ => l.length - (intOf s13).toNat)
  case atStart => exact ⟨0, none, 0, L, [], rfl, rfl, Nat.zero_le _, HI0⟩
  case round =>
    clear HI0 c0 hW1
    obtain ⟨i, aA, cA, L1, ns, rfl, rfl, hi, HI⟩ := hrel
    rename World => wq
    by_cases hil : i < l.length
    · have q1 : (i : Int) < (l.length : Int) := by omega
      have q2 : IntKind.i64.wrap ((i : Int) + 1) = (i : Int) + 1 := IntWalk.i64_in _ (by omega)
      have q3 : (0 : Int) ≤ i := by omega
      have q4 : (i : Int) ≤ 32 := by omega
      have q5 := wrap_pow (i := i) (by omega)
      have g2 : wq.drew.cell? ⟨w.heap.size, 2, none⟩ = some (.int .u32 (op : Int)) := by
        have hx : wq.drew.heap[w.heap.size]? = _ := HI.out.box
        rw [cell_of_row _ _ _ _ _ _ hx]; rfl
      cases hmy : op.testBit i with
      | false =>
        have e1 : bits .and .u32 (op : Int) ((2 : Int) ^ i) = 0 := by
          rw [pow_int, and_u32 _ _ (by omega) (pow_lt16 (by omega)), and_pow_zero.2 hmy]
          rfl
        have HE := Lib.hid (HI.out.drew.skip (c' := c + 2 * (i + 1)) (show nx1 l (m, s) i = none by unfold nx1; rw [if_neg]; rw [← HM.out.2.bit i, hmy]; decide) (by omega))
        clear hmy
        go_wp2_with fail
        go_region
        go_wp2_with fail
        go_roundw
        case measure => simp [intOf] <;> omega
        case rel => exact ⟨i + 1, aA, cA, L1, ns, by simp, by simp, by omega, HE⟩
      | true =>
        have e1 : (bits .and .u32 (op : Int) ((2 : Int) ^ i) == 0) = false := by
          rw [pow_int, and_u32 _ _ (by omega) (pow_lt16 (by omega))]
          refine beq_eq_false_iff_ne.2 fun c => ?_
          have := and_pow_zero.1 (show op &&& 2 ^ i = 0 by omega)
          rw [hmy] at this
          cases this
        have HY := Lib.hid (show mayB l m i = true from (HM.out.2.bit i).symm.trans hmy)
        obtain ⟨o, hok⟩ : ∃ o, l[i]? = some o := ⟨_, List.getElem?_eq_getElem hil⟩
        have HO := Lib.hid hok
        have HD := Lib.hid HI.out.drew
        clear hmy hok HI
        have g1 : wq.drew.cell? ⟨w.heap.size, 1, none⟩ = some (.int .i64 (n : Int)) := by rw [cell_of_row _ _ _ _ _ _ HD.out.box]; rfl
        go_wp2_with fail
        go_region
        go_wp2_with fail
        refine (behind_any HF.out HD.out.sr (HD.out.ext _ _ HM.out.1) HO.out hE (by omega)).mono ?_
        rintro _ w4 ⟨r, rfl, L2, h4, he4, hr4, hf4⟩
        have H4 := Lib.hid (HD.out.next h4 he4 hf4)
        clear h4 he4 hf4 g1 g2 e1
        rcases hr4 with ⟨rfl, hno⟩ | ⟨k, t, rfl, hk, hyes⟩
        · have HE := Lib.hid (H4.out.skip (c' := c + 2 * (i + 1)) (show nx1 l (m, s) i = none by unfold nx1; rw [if_pos HY.out, HO.out]; simp [hno]) (by omega))
          clear hno
          go_wp2_with fail
          go_roundw
          case measure => simp [intOf] <;> omega
          case rel => exact ⟨i + 1, aA, cA, L2, ns, by simp, by simp, by omega, HE⟩
        · have hne : ((k : Int) != -1) = true := bne_iff_ne.2 (by omega)
          have e3 : bits .or .u32 (m : Int) ((2 : Int) ^ i) = ((m ||| 2 ^ i : Nat) : Int) := by rw [pow_int]; exact or_u32 _ _ (by omega) (pow_lt16 (by omega))
          have HX := Lib.hid (show nx1 l (m, s) i = some (m ||| 2 ^ i, t) by unfold nx1; rw [if_pos HY.out, HO.out]; simp [hyes])
          have g0 : w4.drew.cell? ⟨w.heap.size, 0, none⟩ = some (.int .u32 (m : Int)) := by rw [cell_of_row _ _ _ _ _ _ H4.out.drew.box]; rfl
          have hnl : ns.length ≤ i := by have := congrArg List.length H4.out.is; rw [List.length_map] at this; rw [this]; exact nxK_len _ _ _
          obtain ⟨u5, w5, hr5, ⟨a5, c5, rfl⟩, h5⟩ := H4.out.drew.push HW.out.1 (heap_inO H4.out.box) (nx1_mk (by omega) (show (m, s).1 < 65536 from hm) HX.out) hk HX.out (by omega)
          have hl1 : (ns ++ [((m ||| 2 ^ i), k)]).length = ns.length + 1 := by simp
          have HE := Lib.hid (show StI w0 n₁ (.slice av l.length cv) l dn ah w w5 E (c + 2 * (i + 1)) L (m, s) #[.int .u32 (m : Int), .int .i64 (n : Int), .int .u32 (op : Int)] (i + 1) (.slice a5 (ns.length + 1) c5) L2 (ns ++ [((m ||| 2 ^ i), k)]) from ⟨h5.sr.more (by omega), h5.ext, h5.row, h5.is, h5.lt, h5.fr, h5.box⟩)
          rw [← hl1] at HE
          have hr6 : (appSp #[.slice aA ns.length cA, .slice (some ⟨w4.heap.size, 0, none⟩) 1 1]).run Try.prog (w4.alloc (.cells #[.int .u32 ((m ||| 2 ^ i : Nat) : Int), .int .i64 (k : Int)] 126)).drew = .ok (.slice a5 (ns.length + 1) c5) w5 := hr5
          have hr7 : (appSp #[.slice aA ns.length cA, .slice (some ⟨w4.heap.size, 0, none⟩) 1 1]).run Try.prog (w4.drew.alloc (.cells #[.int .u32 ((m ||| 2 ^ i : Nat) : Int), .int .i64 (k : Int)] 126)) = .ok (.slice a5 (ns.length + 1) c5) w5 := hr5
          clear hr5
          clear h5 hk hyes hnl
          go_wp2_with fail
          go_region
          go_wp2_with fail
          go_roundw
          case measure => simp [intOf] <;> omega
          case rel => exact ⟨i + 1, a5, c5, L2, ns ++ [((m ||| 2 ^ i), k)], by simp, by simp, by omega, HE⟩
    · obtain rfl : i = l.length := by omega
      have q1 : ¬ ((l.length : Int) < (l.length : Int)) := by omega
      go_wp2_with fail
      go_returns
      exact ⟨_, rfl, _, _, HI.out⟩
end Ln
end Go.Proofs.Ytppjmmdiglnkfaa
namespace Go.Proofs.Ytppjmmdiglnkfaa
set_option maxRecDepth 100000
open Go.ChangeShapes Go.WideShapes Go.ChangeAt Go.RowKit Go.PlainAid Go.Deep
namespace Ln
def rtPl : RT := ⟨128, 82, .agg #[.int .u32 0, .int .i64 0, .int .u32 0], 3, 24⟩
theorem rtPl_good : rtPl.Good := ⟨Try.underlying82, by kernel_rfl, rfl, by decide, by decide⟩
def appPl (vs : Array Value) : Sem Value := Builtin.append_ #[82, 82] 82 vs
theorem app_pl (vs : Array Value) : Builtin.append_ #[82, 82] 82 vs = appPl vs := rfl
/-- The cells of places: a spot by its numbers, and what may be next. -/
def flatP (ps : List ((Nat × Nat) × Nat)) : List Value := ps.flatMap fun p => [.int .u32 (p.1.1 : Int), .int .i64 (p.1.2 : Int), .int .u32 (p.2 : Int)]
theorem flatP_snoc (ps : List ((Nat × Nat) × Nat)) (p : (Nat × Nat) × Nat) : flatP (ps ++ [p]) = flatP ps ++ [.int .u32 (p.1.1 : Int), .int .i64 (p.1.2 : Int), .int .u32 (p.2 : Int)] := by unfold flatP; rw [List.flatMap_append]; rfl
theorem flatP_get : ∀ (ns : List ((Nat × Nat) × Nat)) (i : Nat) (p : (Nat × Nat) × Nat), ns[i]? = some p → (flatP ns)[i * 3]? = some (.int .u32 (p.1.1 : Int)) ∧ (flatP ns)[i * 3 + 1]? = some (.int .i64 (p.1.2 : Int)) ∧ (flatP ns)[i * 3 + 2]? = some (.int .u32 (p.2 : Int))
  | q :: r, 0, p, h => by
    obtain rfl : q = p := by simpa using h
    exact ⟨rfl, rfl, rfl⟩
  | q :: r, i + 1, p, h => by
    have := flatP_get r i p (by simpa using h)
    have e : flatP (q :: r) = [.int .u32 (q.1.1 : Int), .int .i64 (q.1.2 : Int), .int .u32 (q.2 : Int)] ++ flatP r := rfl
    rw [e, List.getElem?_append_right (by simp; omega), List.getElem?_append_right (by simp; omega), List.getElem?_append_right (by simp; omega)]
    simp only [List.length_cons, List.length_nil]
    rw [show (i + 1) * 3 - (0 + 1 + 1 + 1) = i * 3 by omega, show (i + 1) * 3 + 1 - (0 + 1 + 1 + 1) = i * 3 + 1 by omega, show (i + 1) * 3 + 2 - (0 + 1 + 1 + 1) = i * 3 + 2 by omega]
    exact this
/-- What spread has in memory: its places, as the spots out. -/
structure PlI (w0 : World) (n₁ : Nat) (v : Value) (l : List OpV) (dn : Nat) (ah : List Nat) (w wr : World) (E c : Nat) (L : List (List Int)) (u : Value) (ps : List ((Nat × Nat) × Nat)) (out : List Spt) : Prop where
  sr : SrAt w0 n₁ v l dn ah wr E c L
  row : wr.ownsRow w.heap.size 128 3 u ps.length (flatP ps)
  is : ps.map (fun p => dec L p.1) = out
  lt : ∀ q ∈ ps, q.1.1 < 65536 ∧ q.1.2 < L.length ∧ Mk q.2 (mayB l q.1.1)
  fr : Fr w0 n₁ w wr
theorem PlI.on {w0 : World} {n₁ : Nat} {v : Value} {l : List OpV} {dn : Nat} {ah : List Nat} {w wr w' : World} {E c : Nat} {L : List (List Int)} {u : Value} {ps : List ((Nat × Nat) × Nat)} {out : List Spt} (h : PlI w0 n₁ v l dn ah w wr E c L u ps out) (hb : Below wr.heap.size wr w') : PlI w0 n₁ v l dn ah w w' E c L u ps out :=
  ⟨h.sr.on hb, ownsRow_onI h.row hb, h.is, h.lt, h.fr.trans (Fr.of hb)⟩
theorem PlI.next {w0 : World} {n₁ : Nat} {v : Value} {l : List OpV} {dn : Nat} {ah : List Nat} {w wr w' : World} {E c c' : Nat} {L L' : List (List Int)} {u : Value} {ps : List ((Nat × Nat) × Nat)} {out : List Spt} (h : PlI w0 n₁ v l dn ah w wr E c L u ps out) (hs : SrAt w0 n₁ v l dn ah w' E c' L') (he : Ext L L') (hf : Fr w0 n₁ wr w') : PlI w0 n₁ v l dn ah w w' E c' L' u ps out :=
  ⟨hs, h.sr.row hf h.row (by decide) (by decide), by rw [← h.is]; exact List.map_congr_left fun p hp => dec_ext he (h.lt p hp).2.1, fun q hq => ⟨(h.lt q hq).1, he.len (h.lt q hq).2.1, (h.lt q hq).2.2⟩, h.fr.trans hf⟩
/-- A place more. -/
theorem PlI.push {w0 : World} {n₁ : Nat} {v : Value} {l : List OpV} {dn : Nat} {ah : List Nat} {w wr : World} {E c : Nat} {L : List (List Int)} {u : Value} {ps : List ((Nat × Nat) × Nat)} {out : List Spt} (h : PlI w0 n₁ v l dn ah w wr E c L u ps out) (hw : w0.heap.size ≤ w.heap.size) {m k o : Nat} {t : List Int} (hm : m < 65536) (hk : L[k]? = some t) (ho : Mk o (mayB l m)) (hl : ps.length < 10000000) :
    ∃ u' w', (appPl #[u, .slice (some ⟨wr.heap.size, 0, none⟩) 1 1]).run Try.prog (wr.alloc (.cells #[.int .u32 (m : Int), .int .i64 (k : Int), .int .u32 (o : Int)] 128)) = .ok u' w' ∧ (∃ ao cap, u' = .slice ao (ps.length + 1) cap) ∧ PlI w0 n₁ v l dn ah w w' E c L u' (ps ++ [((m, k), o)]) (out ++ [(m, t)]) ∧ Keeps (fun b => u.ownBlock = some b) wr w' := by
  obtain ⟨u', w', hr, hrow, hkp⟩ := row_push rtPl_good (v := u) (n := ps.length) (a := flatP ps) h.row [.int .u32 (m : Int), .int .i64 (k : Int), .int .u32 (o : Int)] rfl (fun y hy => by simp at hy; rcases hy with rfl | rfl | rfl <;> rfl) h.fr.size (by omega)
  have hown : ∀ b, u.ownBlock = some b → w.heap.size ≤ b ∧ ∃ cur, wr.heap[b]? = some (.cells cur 128 (0, 0)) := fun b hb => row_block h.row hb
  obtain ⟨ao, cap, hu', _⟩ := own_len hrow
  have hl1 : (ps ++ [((m, k), o)]).length = ps.length + 1 := by simp
  refine ⟨u', w', hr, ⟨ao, cap, hu'⟩, ⟨h.sr.keep hkp (fun b hb => ?_), by rw [hl1, flatP_snoc]; exact hrow, ?_, ?_, Keeps.trans h.fr hkp fun i hi => .inr (hown i hi).1⟩, hkp⟩
  · obtain ⟨h1, cur, hg⟩ := hown b hb
    exact ⟨Nat.le_trans hw h1, cur, _, hg, by decide, by decide, by decide, by decide⟩
  · rw [List.map_append, h.is]
    congr 1
    show [dec L (m, k)] = _
    unfold dec
    rw [hk]
    rfl
  · intro q hq
    rcases List.mem_append.1 hq with hq | hq
    · exact h.lt q hq
    · rw [List.mem_singleton.1 hq]
      exact ⟨hm, (List.getElem?_eq_some_iff.1 hk).1, ho⟩
/-- What may be next, by what is before. -/
theorem open_may {l : List OpV} {ah : List Nat} (hl : ah.length = l.length) (h : ∀ i a, ah[i]? = some a → Mk a (befP l i)) (m k : Nat) : openP ah m k = mayB l m k := by
  unfold openP
  cases e : ah[k]? with
  | none =>
    have : ¬ k < l.length := by have := List.getElem?_eq_none_iff.1 e; omega
    cases c : mayB l m k with
    | false => rfl
    | true => exact absurd (may_lt c) this
  | some a =>
    have hk : k < l.length := by have := (List.getElem?_eq_some_iff.1 e).1; omega
    have ha := h k a e
    have hz := notN_zero (a := a) (b := m) (by have := ha.lt; omega)
    cases c : mayB l m k with
    | false =>
      cases d : (!m.testBit k && decide (notN a m = 0)) with
      | false => exact d
      | true =>
        simp at d
        have := may_iff.2 (show k < l.length ∧ m.testBit k = false ∧ ∀ j, befP l k j = true → m.testBit j = true from ⟨hk, d.1, fun j hj => (hz.1 d.2) j ((ha.bit j).trans hj)⟩)
        rw [c] at this
        cases this
    | true =>
      obtain ⟨_, h1, h2⟩ := may_iff.1 c
      simp [h1, hz.2 fun j hj => h2 j ((ha.bit j).symm.trans hj)]
/-- at, of a search. -/
theorem at_sr {w0 : World} {n₁ : Nat} {v : Value} {l : List OpV} {dn : Nat} {ah : List Nat} {w : World} {E c : Nat} {L : List (List Int)} (hF : Fix w0 v l dn ah) (h : SrAt w0 n₁ v l dn ah w E c L) (m : Nat) (hm : m < 65536) (st : Int) :
    Calls Try.prog 71 #[.pointer (some ⟨w0.heap.size + 1 + 1 + 1, 0, none⟩), .agg #[.int .u32 (m : Int), .int .i64 st]] w fun e w' => ∃ o : Nat, e = .returned (.agg #[.int .u32 (m : Int), .int .i64 st, .int .u32 (o : Int)]) ∧ Mk o (mayB l m) ∧ Below w.heap.size w w' := by
  obtain ⟨vs, hb, _⟩ := h.bs
  refine (at_any hb h.ba (by rw [hF.len]; exact hF.few) (fun a ha => ?_) m hm st).mono ?_
  · obtain ⟨i, hi⟩ := List.getElem?_of_mem ha
    exact (hF.ahk i a hi).lt
  · rintro _ w' ⟨o, rfl, ho, hbw⟩
    exact ⟨o, rfl, ho.of fun k => open_may hF.len hF.ahk m k, hbw⟩
/-- A row of states beside what a call changes. -/
theorem ents_keep {n₀ : Nat} {v : Value} {L : List (List Int)} {w w' : World} {own : Nat → Prop} (h : StsOwn n₀ w v L) (hk : Keeps own w w') (h1 : ∀ g cur, v.ownBlock = some g → w.heap[g]? = some (.cells cur 27 (0, 0)) → ¬ own g) (h2 : ∀ g cur, own g → w.heap[g]? = some (.cells cur 3 (0, 0)) → False) : StsOwn n₀ w' v L := by
  obtain ⟨vs, a, b⟩ := h
  refine ⟨vs, ⟨a.1, ?_⟩, fun i u s hu hs => ownI_keep (b i u s hu hs) hk h2⟩
  rcases a.2 with h | ⟨g, cap, cur, rfl, hn, hg, hr⟩
  · exact .inl h
  · exact .inr ⟨g, cap, cur, rfl, hn, (hk.block g (heap_inO hg) (h1 g cur rfl hg)).trans hg, hr⟩
theorem SrAt.ents {w0 : World} {n₁ : Nat} {v : Value} {l : List OpV} {dn : Nat} {ah : List Nat} {w w' : World} {E c : Nat} {L : List (List Int)} (h : SrAt w0 n₁ v l dn ah w E c L) (k : Fr w0 n₁ w w') {n₂ : Nat} {u : Value} {m : List (List Int)} (he : StsOwn n₂ w u m) (hlt : ∀ g, u.ownBlock = some g → g < n₁) : StsOwn n₂ w' u m := by
  obtain ⟨vs, hb, _⟩ := h.bs
  obtain ⟨_, ⟨_, _, e2, _⟩, _⟩ := h.nums
  obtain ⟨_, ⟨_, _, e3, _⟩, _⟩ := h.mvs
  unfold srO at hb
  refine ents_keep he k (fun g cur hg hc => ?_) (fun g cur ho hc => ?_)
  · have := hlt g hg
    rintro (rfl | rfl | rfl | ⟨h0, _⟩)
    · rw [hb] at hc; exact absurd (Obj.cells.inj (Option.some.inj hc)).2.1 (by decide)
    · rw [e2] at hc; cases hc
    · rw [e3] at hc; cases hc
    · omega
  · rcases ho with rfl | rfl | rfl | ⟨_, cur', hc'⟩
    · rw [hb] at hc; exact absurd (Obj.cells.inj (Option.some.inj hc)).2.1 (by decide)
    · rw [e2] at hc; cases hc
    · rw [e3] at hc; cases hc
    · rw [hc'] at hc; exact absurd (Obj.cells.inj (Option.some.inj hc)).2.1 (by decide)
/-- Which spots are known, entries aside. -/
def KnOk (G : Nat × Nat → Option Unit) (ps : List ((Nat × Nat) × Nat)) : Prop := ∀ p : Nat × Nat, p.1 ≠ 0 → ((G p).isSome = true ↔ ∃ o, (p, o) ∈ ps)
theorem nodup_inj {α : Type} {L : List α} (hn : L.Nodup) {i j : Nat} (hi : i < L.length) (hj : j < L.length) (h : L[i] = L[j]) : i = j := by
  rcases Nat.lt_trichotomy i j with c | c | c
  · exact absurd h (List.pairwise_iff_getElem.1 hn i j hi hj c)
  · exact c
  · exact absurd h.symm (List.pairwise_iff_getElem.1 hn j i hj hi c)
theorem dec_inj {L : List (List Int)} (hn : L.Nodup) {p q : Nat × Nat} (hp : p.2 < L.length) (hq : q.2 < L.length) (h : dec L p = dec L q) : p = q := by
  unfold dec at h
  rw [List.getElem?_eq_getElem hp, List.getElem?_eq_getElem hq] at h
  obtain ⟨h1, h2⟩ := Prod.mk.inj h
  exact Prod.ext h1 (nodup_inj hn hp hq h2)
theorem kn_mem {L : List (List Int)} {ps : List ((Nat × Nat) × Nat)} {out : List Spt} (hn : L.Nodup) (hi : ps.map (fun p => dec L p.1) = out) (hl : ∀ q ∈ ps, q.1.2 < L.length) {p : Nat × Nat} (hp : p.2 < L.length) : dec L p ∈ out ↔ ∃ o, (p, o) ∈ ps := by
  rw [← hi, List.mem_map]
  constructor
  · rintro ⟨q, hq, e⟩
    obtain rfl := dec_inj hn (hl q hq) hp e
    exact ⟨q.2, hq⟩
  · rintro ⟨o, ho⟩
    exact ⟨_, ho, rfl⟩
theorem KnOk.put {G : Nat × Nat → Option Unit} {ps : List ((Nat × Nat) × Nat)} (h : KnOk G ps) (p : Nat × Nat) (o : Nat) : KnOk (Lm.put G p ()) (ps ++ [(p, o)]) := fun q hq => by
  by_cases c : q = p
  · subst c
    rw [Lm.put_same]
    exact ⟨fun _ => ⟨o, by simp⟩, fun _ => rfl⟩
  · rw [Lm.put_other _ _ _ c, h q hq]
    constructor
    · rintro ⟨x, hx⟩
      exact ⟨x, List.mem_append_left _ hx⟩
    · rintro ⟨x, hx⟩
      rcases List.mem_append.1 hx with hx | hx
      · exact ⟨x, hx⟩
      · exact absurd (Prod.mk.inj (List.mem_singleton.1 hx)).1 c
end Ln
end Go.Proofs.Ytppjmmdiglnkfaa
