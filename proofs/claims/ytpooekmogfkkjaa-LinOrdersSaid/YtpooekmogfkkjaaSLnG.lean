/- Package lin: steps. -/
import Derived.Test.YtpooekmogfkkjaaSLnF
namespace Go.Proofs.Ytpooekmogfkkjaa
set_option maxRecDepth 100000
open Go.ChangeShapes Go.WideShapes Go.ChangeAt Go.RowKit Go.PlainAid Go.Deep
namespace Ln
def rtSp : RT := ⟨89, 95, .agg #[.int .u32 0, .int .i64 0], 2, 16⟩
theorem rtSp_good : rtSp.Good := ⟨Try.underlying95, by kernel_rfl, rfl, by decide, by decide⟩
def appSp (vs : Array Value) : Sem Value := Builtin.append_ #[95, 95] 95 vs
theorem app_sp (vs : Array Value) : Builtin.append_ #[95, 95] 95 vs = appSp vs := rfl
attribute [local go_sem ↓ high] app_sp
/-- The cells of spots. -/
def flatS (ns : List (Nat × Nat)) : List Value := ns.flatMap fun p => [.int .u32 (p.1 : Int), .int .i64 (p.2 : Int)]
theorem flatS_snoc (ns : List (Nat × Nat)) (p : Nat × Nat) : flatS (ns ++ [p]) = flatS ns ++ [.int .u32 (p.1 : Int), .int .i64 (p.2 : Int)] := by unfold flatS; rw [List.flatMap_append]; rfl
theorem flatS_get : ∀ (ns : List (Nat × Nat)) (i : Nat) (p : Nat × Nat), ns[i]? = some p → (flatS ns)[i * 2]? = some (.int .u32 (p.1 : Int)) ∧ (flatS ns)[i * 2 + 1]? = some (.int .i64 (p.2 : Int))
  | q :: r, 0, p, h => by
    obtain rfl : q = p := by simpa using h
    exact ⟨rfl, rfl⟩
  | q :: r, i + 1, p, h => by
    have := flatS_get r i p (by simpa using h)
    have e : flatS (q :: r) = [.int .u32 (q.1 : Int), .int .i64 (q.2 : Int)] ++ flatS r := rfl
    rw [e, List.getElem?_append_right (by simp; omega), List.getElem?_append_right (by simp; omega)]
    simp only [List.length_cons, List.length_nil]
    rw [show (i + 1) * 2 - (0 + 1 + 1) = i * 2 by omega, show (i + 1) * 2 + 1 - (0 + 1 + 1) = i * 2 + 1 by omega]
    exact this
/-- A spot by its numbers. -/
def dec (L : List (List Int)) (p : Nat × Nat) : Spt := (p.1, (L[p.2]?).getD [])
theorem dec_ext {L L' : List (List Int)} (h : Ext L L') {p : Nat × Nat} (hp : p.2 < L.length) : dec L' p = dec L p := by
  unfold dec
  rw [h _ _ (List.getElem?_eq_getElem hp), List.getElem?_eq_getElem hp]
theorem Ext.len {L L' : List (List Int)} (h : Ext L L') {n : Nat} (hn : n < L.length) : n < L'.length := (List.getElem?_eq_some_iff.1 (h _ _ (List.getElem?_eq_getElem hn))).1
theorem decs_ext {L L' : List (List Int)} (h : Ext L L') {ns : List (Nat × Nat)} (hp : ∀ p ∈ ns, p.2 < L.length) : ns.map (dec L') = ns.map (dec L) := List.map_congr_left fun p hq => dec_ext h (hp p hq)
theorem SrAt.keep' {w0 : World} {n₁ : Nat} {v : Value} {l : List OpV} {dn : Nat} {ah : List Nat} {w w' : World} {E c : Nat} {L : List (List Int)} (h : SrAt w0 n₁ v l dn ah w E c L) {own : Nat → Prop} (k : Keeps own w w') (hlo : ∀ b, own b → w0.heap.size ≤ b)
    (hno : ∀ b cur T, own b → w.heap[b]? = some (.cells cur T (0, 0)) → T ≠ 36 ∧ T ≠ 87 ∧ T ≠ 85 ∧ T ≠ 3) (hmp : ∀ b es ck, own b → w.heap[b]? = some (.map es ck) → b ≠ w0.heap.size + 1 ∧ b ≠ w0.heap.size + 1 + 1) : SrAt w0 n₁ v l dn ah w' E c L := by
  obtain ⟨vs, hb, ho⟩ := h.bs
  obtain ⟨G, hG, hGo⟩ := h.nums
  obtain ⟨G', hM, hMo⟩ := h.mvs
  refine ⟨h.bel.trans (Keeps.below k hlo h.bel.size), ⟨vs, (k.block _ (heap_inO hb) (fun c => ?_)).trans hb, sts_keep ho k (fun g cur hg he => (hno g cur _ hg he).1 rfl) (fun g cur hg he => (hno g cur _ hg he).2.2.2 rfl)⟩, (k.block _ (heap_inO h.ba) (fun c => ?_)).trans h.ba, ⟨G, hG.of (k.block _ hG.lt fun c => ?_), hGo⟩, ⟨G', hM.of (k.block _ hM.lt fun c => ?_), hMo⟩, h.nd, h.ok, h.cnt, h.base.1, Nat.le_trans h.base.2 k.size⟩
  · unfold srO at hb; exact (hno _ _ _ c hb).2.1 rfl
  · have := h.ba; unfold ahO at this; exact (hno _ _ _ c this).2.2.1 rfl
  · obtain ⟨es, ck, e, _⟩ := hG; exact (hmp _ _ _ c e).1 rfl
  · obtain ⟨es, ck, e, _⟩ := hM; exact (hmp _ _ _ c e).2 rfl
theorem SrAt.keep {w0 : World} {n₁ : Nat} {v : Value} {l : List OpV} {dn : Nat} {ah : List Nat} {w w' : World} {E c : Nat} {L : List (List Int)} (h : SrAt w0 n₁ v l dn ah w E c L) {own : Nat → Prop} (k : Keeps own w w')
    (hno : ∀ b, own b → w0.heap.size ≤ b ∧ ∃ cur T, w.heap[b]? = some (.cells cur T (0, 0)) ∧ T ≠ 36 ∧ T ≠ 87 ∧ T ≠ 85 ∧ T ≠ 3) : SrAt w0 n₁ v l dn ah w' E c L :=
  h.keep' k (fun b hb => (hno b hb).1) (fun b cur T hb hg => by
    obtain ⟨_, cur', T', hg', ht⟩ := hno b hb
    rw [hg'] at hg
    have e := (Obj.cells.inj (Option.some.inj hg)).2.1
    subst e
    exact ht) fun b es ck hb hg => by
    obtain ⟨_, cur', T', hg', _⟩ := hno b hb
    rw [hg'] at hg; cases hg
theorem SrAt.row {w0 : World} {n₁ : Nat} {v : Value} {l : List OpV} {dn : Nat} {ah : List Nat} {w w' : World} {E c : Nat} {L : List (List Int)} (h : SrAt w0 n₁ v l dn ah w E c L) (k : Fr w0 n₁ w w') {n₀ : Nat} {T : TypeId} {z n : Nat} {u : Value} {cs : List Value} (hr : w.ownsRow n₀ T z u n cs) (h1 : T ≠ 36) (h2 : T ≠ 87) : w'.ownsRow n₀ T z u n cs := by
  refine ⟨hr.1, ?_⟩
  rcases hr.2 with h' | ⟨g, cap, cur, hv, hn, hg, hrest⟩
  · exact .inl h'
  · exact .inr ⟨g, cap, cur, hv, hn, h.cells k hg h1 h2, hrest⟩
theorem row_block {w : World} {n₀ : Nat} {T : TypeId} {z n : Nat} {u : Value} {cs : List Value} (hr : w.ownsRow n₀ T z u n cs) {b : Nat} (hb : u.ownBlock = some b) : n₀ ≤ b ∧ ∃ cur, w.heap[b]? = some (.cells cur T (0, 0)) := by
  rcases hr.2 with ⟨rfl, _⟩ | ⟨g, cap, cur, rfl, hn, hg, _⟩
  · simp [Value.ownBlock] at hb
  · obtain rfl : g = b := by simpa [Value.ownBlock] using hb
    exact ⟨hn, cur, hg⟩
/-- What steps has in memory. -/
structure StI (w0 : World) (n₁ : Nat) (v : Value) (l : List OpV) (dn : Nat) (ah : List Nat) (w wr : World) (E c : Nat) (L : List (List Int)) (p : Spt) (x : Array Value) (i : Nat) (u : Value) (L1 : List (List Int)) (ns : List (Nat × Nat)) : Prop where
  sr : SrAt w0 n₁ v l dn ah wr E c L1
  ext : Ext L L1
  row : wr.ownsRow w.heap.size 89 2 u ns.length (flatS ns)
  is : ns.map (dec L1) = nxK l p i
  lt : ∀ q ∈ ns, q.1 < 65536 ∧ q.2 < L1.length
  fr : Fr w0 n₁ w wr
  box : wr.heap[w.heap.size]? = some (.cells x 91 (0, 0))
theorem StI.drew {w0 : World} {n₁ : Nat} {v : Value} {l : List OpV} {dn : Nat} {ah : List Nat} {w wr : World} {E c : Nat} {L : List (List Int)} {p : Spt} {x : Array Value} {i : Nat} {u : Value} {L1 : List (List Int)} {ns : List (Nat × Nat)} (h : StI w0 n₁ v l dn ah w wr E c L p x i u L1 ns) : StI w0 n₁ v l dn ah w wr.drew E c L p x i u L1 ns :=
  ⟨h.sr.on (Below.refl _ _).drew, h.ext, h.row, h.is, h.lt, h.fr.trans (Fr.of (Below.refl wr.heap.size wr).drew), h.box⟩
theorem StI.skip {w0 : World} {n₁ : Nat} {v : Value} {l : List OpV} {dn : Nat} {ah : List Nat} {w wr : World} {E c c' : Nat} {L : List (List Int)} {p : Spt} {x : Array Value} {i : Nat} {u : Value} {L1 : List (List Int)} {ns : List (Nat × Nat)} (h : StI w0 n₁ v l dn ah w wr E c L p x i u L1 ns) (hn : nx1 l p i = none) (hc : c ≤ c') : StI w0 n₁ v l dn ah w wr E c' L p x (i + 1) u L1 ns :=
  ⟨h.sr.more hc, h.ext, h.row, by rw [nxK_succ, hn]; simpa using h.is, h.lt, h.fr, h.box⟩
/-- Behind a move. -/
theorem StI.next {w0 : World} {n₁ : Nat} {v : Value} {l : List OpV} {dn : Nat} {ah : List Nat} {w wr w' : World} {E c c' : Nat} {L : List (List Int)} {p : Spt} {x : Array Value} {i : Nat} {u : Value} {L1 L2 : List (List Int)} {ns : List (Nat × Nat)} (h : StI w0 n₁ v l dn ah w wr E c L p x i u L1 ns) (hs : SrAt w0 n₁ v l dn ah w' E c' L2) (he : Ext L1 L2) (hf : Fr w0 n₁ wr w') : StI w0 n₁ v l dn ah w w' E c' L p x i u L2 ns :=
  ⟨hs, h.ext.trans he, h.sr.row hf h.row (by decide) (by decide), by rw [decs_ext he fun q hq => (h.lt q hq).2]; exact h.is, fun q hq => ⟨(h.lt q hq).1, he.len (h.lt q hq).2⟩, h.fr.trans hf, h.sr.cells hf h.box (by decide) (by decide)⟩
/-- A spot more. -/
theorem StI.push {w0 : World} {n₁ : Nat} {v : Value} {l : List OpV} {dn : Nat} {ah : List Nat} {w wr : World} {E c : Nat} {L : List (List Int)} {p : Spt} {x : Array Value} {i : Nat} {u : Value} {L1 : List (List Int)} {ns : List (Nat × Nat)} (h : StI w0 n₁ v l dn ah w wr E c L p x i u L1 ns) (hw : w0.heap.size ≤ w.heap.size) (hx : w.heap.size < wr.heap.size) {m k : Nat} {t : List Int} (hm : m < 65536) (hk : L1[k]? = some t) (hn : nx1 l p i = some (m, t)) (hl : ns.length < 1000000) :
    ∃ u' w', (appSp #[u, .slice (some ⟨wr.heap.size, 0, none⟩) 1 1]).run Try.prog (wr.alloc (.cells #[.int .u32 (m : Int), .int .i64 (k : Int)] 89)) = .ok u' w' ∧ (∃ ao cap, u' = .slice ao (ns.length + 1) cap) ∧ StI w0 n₁ v l dn ah w w' E c L p x (i + 1) u' L1 (ns ++ [(m, k)]) := by
  obtain ⟨u', w', hr, ho, hkp⟩ := row_push rtSp_good (v := u) (n := ns.length) (a := flatS ns) h.row [.int .u32 (m : Int), .int .i64 (k : Int)] rfl (fun y hy => by simp at hy; rcases hy with rfl | rfl <;> rfl) (by omega) (by omega)
  have hown : ∀ b, u.ownBlock = some b → w.heap.size ≤ b ∧ ∃ cur, wr.heap[b]? = some (.cells cur 89 (0, 0)) := fun b hb => row_block h.row hb
  obtain ⟨ao, cap, hu', _⟩ := own_len ho
  have hfr : Fr w0 n₁ w w' := Keeps.trans h.fr hkp fun i hi => .inr (hown i hi).1
  have hbx : w'.heap[w.heap.size]? = some (.cells x 91 (0, 0)) := (hkp.block _ (heap_inO h.box) (fun e => by
    obtain ⟨_, cur, hg⟩ := hown _ e
    rw [h.box] at hg
    exact absurd (Obj.cells.inj (Option.some.inj hg)).2.1 (by decide))).trans h.box
  have hl1 : (ns ++ [(m, k)]).length = ns.length + 1 := by simp
  refine ⟨u', w', hr, ⟨ao, cap, hu'⟩, h.sr.keep hkp (fun b hb => ?_), h.ext, by rw [hl1, flatS_snoc]; exact ho, ?_, ?_, hfr, hbx⟩
  · obtain ⟨h1, cur, hg⟩ := hown b hb
    exact ⟨Nat.le_trans hw h1, cur, _, hg, by decide, by decide, by decide, by decide⟩
  · rw [nxK_succ, hn, List.map_append, h.is]
    congr 1
    show [dec L1 (m, k)] = _
    unfold dec
    rw [hk]
    rfl
  · intro q hq
    rcases List.mem_append.1 hq with hq | hq
    · exact h.lt q hq
    · rw [List.mem_singleton.1 hq]
      exact ⟨hm, (List.getElem?_eq_some_iff.1 hk).1⟩
set_option maxHeartbeats 4000000 in
theorem steps_any {w0 : World} {n₁ : Nat} {v : Value} {l : List OpV} {dn : Nat} {ah : List Nat} {w : World} {E c : Nat} {L : List (List Int)} (hF : Fix w0 v l dn ah) (h : SrAt w0 n₁ v l dn ah w E c L) {m n op : Nat} {s : List Int} (hm : m < 65536) (hn : L[n]? = some s) (ho : Mk op (mayB l m)) (hE : E ≤ 500000000) (hc : c < 8000000) :
    Calls Try.prog 45 #[.pointer (some ⟨w0.heap.size + 1 + 1 + 1, 0, none⟩), .agg #[.int .u32 (m : Int), .int .i64 (n : Int), .int .u32 (op : Int)]] w fun e w' => ∃ u, e = .returned u ∧ ∃ L' ns, StI w0 n₁ v l dn ah w w' E (c + 2 * l.length) L (m, s) #[.int .u32 (m : Int), .int .i64 (n : Int), .int .u32 (op : Int)] l.length u L' ns := by
  have hbw : Below w.heap.size w (w.alloc (.cells #[.int .u32 (m : Int), .int .i64 (n : Int), .int .u32 (op : Int)] 91)) := by go_grown
  have hbx := heap_alloc_new w (.cells #[.int .u32 (m : Int), .int .i64 (n : Int), .int .u32 (op : Int)] 91)
  obtain ⟨W1, hW1⟩ : ∃ W, w.alloc (.cells #[.int .u32 (m : Int), .int .i64 (n : Int), .int .u32 (op : Int)] 91) = W := ⟨_, rfl⟩
  rw [hW1] at hbw hbx
  have h1 := h.on hbw
  obtain ⟨_, c0, _⟩ := h1.reads
  obtain ⟨av, cv, rfl⟩ := hF.ops.len
  have HI0 := Lib.hid (show StI w0 n₁ (.slice av l.length cv) l dn ah w W1 E (c + 2 * 0) L (m, s) #[.int .u32 (m : Int), .int .i64 (n : Int), .int .u32 (op : Int)] 0 (.slice none 0 0) L [] from ⟨h1, Ext.refl L, World.ownsRow_nil _ _ _ _, rfl, fun q hq => by simp at hq, Fr.of hbw, hbx⟩)
  have HF := Lib.hid hF
  have HM := Lib.hid (And.intro hn ho)
  have HW := Lib.hid (And.intro h.bel.size hbw.size)
  have hfew := hF.few
  have hopl := ho.lt
  clear hF h hn ho hbw hbx h1
  go_enter Try.func45, Try.ntmps45
  go_wp2_with fail
  go_loopw [5, 13] (fun s5 s13 wr => ∃ (i : Nat) (aA : Option Addr) (cA : Nat) (L1 : List (List Int)) (ns : List (Nat × Nat)), s13 = .int .i64 i ∧ s5 = .slice aA ns.length cA ∧ i ≤ l.length ∧ Hid (StI w0 n₁ (.slice av l.length cv) l dn ah w wr E (c + 2 * i) L (m, s) #[.int .u32 (m : Int), .int .i64 (n : Int), .int .u32 (op : Int)] i (.slice aA ns.length cA) L1 ns)) (fun _ s13 _ => l.length - (intOf s13).toNat)
  case atStart => exact ⟨0, none, 0, L, [], rfl, rfl, Nat.zero_le _, HI0⟩
  case round =>
    clear HI0 c0 hW1
    obtain ⟨i, aA, cA, L1, ns, rfl, rfl, hi, HI⟩ := hrel
    rename World => wq
    by_cases hil : i < l.length
    · have q1 : (i : Int) < (l.length : Int) := by omega
      have q2 : IntKind.i64.wrap ((i : Int) + 1) = (i : Int) + 1 := IntWalk.i64_in _ (by omega)
      have q3 : (0 : Int) ≤ i := by omega
      have q4 : (i : Int) ≤ 32 := by omega
      have q5 := wrap_pow (i := i) (by omega)
      have g2 : wq.drew.cell? ⟨w.heap.size, 2, none⟩ = some (.int .u32 (op : Int)) := by
        have hx : wq.drew.heap[w.heap.size]? = _ := HI.out.box
        rw [cell_of_row _ _ _ _ _ _ hx]; rfl
      cases hmy : op.testBit i with
      | false =>
        have e1 : bits .and .u32 (op : Int) ((2 : Int) ^ i) = 0 := by
          rw [pow_int, and_u32 _ _ (by omega) (pow_lt16 (by omega)), and_pow_zero.2 hmy]
          rfl
        have HE := Lib.hid (HI.out.drew.skip (c' := c + 2 * (i + 1)) (show nx1 l (m, s) i = none by unfold nx1; rw [if_neg]; rw [← HM.out.2.bit i, hmy]; decide) (by omega))
        clear hmy
        go_wp2_with fail
        go_region
        go_wp2_with fail
        go_roundw
        case measure => simp [intOf] <;> omega
        case rel => exact ⟨i + 1, aA, cA, L1, ns, by simp, by simp, by omega, HE⟩
      | true =>
        have e1 : (bits .and .u32 (op : Int) ((2 : Int) ^ i) == 0) = false := by
          rw [pow_int, and_u32 _ _ (by omega) (pow_lt16 (by omega))]
          refine beq_eq_false_iff_ne.2 fun c => ?_
          have := and_pow_zero.1 (show op &&& 2 ^ i = 0 by omega)
          rw [hmy] at this
          cases this
        have HY := Lib.hid (show mayB l m i = true from (HM.out.2.bit i).symm.trans hmy)
        obtain ⟨o, hok⟩ : ∃ o, l[i]? = some o := ⟨_, List.getElem?_eq_getElem hil⟩
        have HO := Lib.hid hok
        have HD := Lib.hid HI.out.drew
        clear hmy hok HI
        have g1 : wq.drew.cell? ⟨w.heap.size, 1, none⟩ = some (.int .i64 (n : Int)) := by rw [cell_of_row _ _ _ _ _ _ HD.out.box]; rfl
        go_wp2_with fail
        go_region
        go_wp2_with fail
        refine (behind_any HF.out HD.out.sr (HD.out.ext _ _ HM.out.1) HO.out hE (by omega)).mono ?_
        rintro _ w4 ⟨r, rfl, L2, h4, he4, hr4, hf4⟩
        have H4 := Lib.hid (HD.out.next h4 he4 hf4)
        clear h4 he4 hf4 g1 g2 e1
        rcases hr4 with ⟨rfl, hno⟩ | ⟨k, t, rfl, hk, hyes⟩
        · have HE := Lib.hid (H4.out.skip (c' := c + 2 * (i + 1)) (show nx1 l (m, s) i = none by unfold nx1; rw [if_pos HY.out, HO.out]; simp [hno]) (by omega))
          clear hno
          go_wp2_with fail
          go_roundw
          case measure => simp [intOf] <;> omega
          case rel => exact ⟨i + 1, aA, cA, L2, ns, by simp, by simp, by omega, HE⟩
        · have hne : ((k : Int) != -1) = true := bne_iff_ne.2 (by omega)
          have e3 : bits .or .u32 (m : Int) ((2 : Int) ^ i) = ((m ||| 2 ^ i : Nat) : Int) := by rw [pow_int]; exact or_u32 _ _ (by omega) (pow_lt16 (by omega))
          have HX := Lib.hid (show nx1 l (m, s) i = some (m ||| 2 ^ i, t) by unfold nx1; rw [if_pos HY.out, HO.out]; simp [hyes])
          have g0 : w4.drew.cell? ⟨w.heap.size, 0, none⟩ = some (.int .u32 (m : Int)) := by rw [cell_of_row _ _ _ _ _ _ H4.out.drew.box]; rfl
          have hnl : ns.length ≤ i := by have := congrArg List.length H4.out.is; rw [List.length_map] at this; rw [this]; exact nxK_len _ _ _
          obtain ⟨u5, w5, hr5, ⟨a5, c5, rfl⟩, h5⟩ := H4.out.drew.push HW.out.1 (heap_inO H4.out.box) (nx1_mk (by omega) (show (m, s).1 < 65536 from hm) HX.out) hk HX.out (by omega)
          have hl1 : (ns ++ [((m ||| 2 ^ i), k)]).length = ns.length + 1 := by simp
          have HE := Lib.hid (show StI w0 n₁ (.slice av l.length cv) l dn ah w w5 E (c + 2 * (i + 1)) L (m, s) #[.int .u32 (m : Int), .int .i64 (n : Int), .int .u32 (op : Int)] (i + 1) (.slice a5 (ns.length + 1) c5) L2 (ns ++ [((m ||| 2 ^ i), k)]) from ⟨h5.sr.more (by omega), h5.ext, h5.row, h5.is, h5.lt, h5.fr, h5.box⟩)
          rw [← hl1] at HE
          have hr6 : (appSp #[.slice aA ns.length cA, .slice (some ⟨w4.heap.size, 0, none⟩) 1 1]).run Try.prog (w4.alloc (.cells #[.int .u32 ((m ||| 2 ^ i : Nat) : Int), .int .i64 (k : Int)] 89)).drew = .ok (.slice a5 (ns.length + 1) c5) w5 := hr5
          have hr7 : (appSp #[.slice aA ns.length cA, .slice (some ⟨w4.heap.size, 0, none⟩) 1 1]).run Try.prog (w4.drew.alloc (.cells #[.int .u32 ((m ||| 2 ^ i : Nat) : Int), .int .i64 (k : Int)] 89)) = .ok (.slice a5 (ns.length + 1) c5) w5 := hr5
          clear hr5
          clear h5 hk hyes hnl
          go_wp2_with fail
          go_region
          go_wp2_with fail
          go_roundw
          case measure => simp [intOf] <;> omega
          case rel => exact ⟨i + 1, a5, c5, L2, ns ++ [((m ||| 2 ^ i), k)], by simp, by simp, by omega, HE⟩
    · obtain rfl : i = l.length := by omega
      have q1 : ¬ ((l.length : Int) < (l.length : Int)) := by omega
      go_wp2_with fail
      go_returns
      exact ⟨_, rfl, _, _, HI.out⟩
end Ln
end Go.Proofs.Ytpooekmogfkkjaa
