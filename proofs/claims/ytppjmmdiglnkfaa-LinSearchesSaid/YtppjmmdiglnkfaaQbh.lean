/- A row of states that grows, the states below a world's end; an answer stored into a block laid ahead. The reference's full and may: rows of bools beside operations. The reference's may. Plain: what a search reaches. -/
import Derived.Test.YtppjmmdiglnkfaaQbg
import Derived.Test.YtppjmmdiglnkfaaQbe
namespace Go.Proofs.Ytppjmmdiglnkfaa
set_option maxRecDepth 100000
open Go.ChangeShapes Go.WideShapes Go.ChangeAt Go.RowKit Go.PlainAid Go.Deep
namespace Ln
/-- A row of the call's own of states that lie in a world's heap. -/
def RowS (U w : World) (v : Value) (l : List (List Int)) : Prop := Below U.heap.size U w ∧ ∃ xs, w.ownsRow U.heap.size 27 1 v l.length xs ∧ ∀ (i : Nat) (u : Value) (s : List Int), xs[i]? = some u → l[i]? = some s → IntsOf U u s
theorem RowS.on {U w w' : World} {v : Value} {l : List (List Int)} (h : RowS U w v l) (hb : Below w.heap.size w w') : RowS U w' v l := by
  obtain ⟨h0, xs, h1, h2⟩ := h
  exact ⟨h0.on hb, xs, ownsRow_onI h1 hb, h2⟩
theorem RowS.grow {U w : World} {v : Value} {l : List (List Int)} (h : RowS U w v l) (o : Obj) : RowS U (w.alloc o) v l := h.on (by go_grown)
theorem RowS.sts {U w : World} {v : Value} {l : List (List Int)} (h : RowS U w v l) : Sts w v l := by
  obtain ⟨h0, xs, h1, h2⟩ := h
  exact ⟨xs, own_rd h1, fun i u s hu hs => (h2 i u s hu hs).on h0⟩
theorem RowS.made {U w : World} (h : Below U.heap.size U w) : RowS U (w.alloc (.cells #[] 27)) (.slice (some ⟨w.heap.size, 0, none⟩) 0 0) [] :=
  ⟨h.alloc h.size _, [], ownsRow_baseI (World.ownsRow_made w #[] 0 (Nat.le_refl _) (Nat.zero_le _) rfl) h.size, fun i u s hu => by simp at hu⟩
theorem RowS.app {U w : World} {v : Value} {l l2 : List (List Int)} {a2 : Option Addr} {c2 : Nat} (h : RowS U w v l) (h2 : Sts U (.slice a2 l2.length c2) l2) (n : Nat) (hn : n = l.length + l2.length) (hl : n ≤ 1000000) :
    ∃ a' c' w', (appSt #[v, .slice a2 l2.length c2]).run Try.prog w = .ok (.slice a' n c') w' ∧ RowS U w' (.slice a' n c') (l ++ l2) ∧ ∀ (b : Nat) (c : Array Value), w.heap[b]? = some (.cells c 33 (0, 0)) → w'.heap[b]? = some (.cells c 33 (0, 0)) := by
  subst hn
  obtain ⟨h0, xs, r, e⟩ := h
  obtain ⟨x2, r2, e2⟩ := h2
  obtain ⟨v', W', hr, ho, hg⟩ := row_app rtSt_good r (r2.on h0) (Sts.one r2 e2) h0.size (by omega)
  obtain ⟨a', c', rfl, _⟩ := own_len ho
  have hb' := h0.grown hg h0.size (fun k e => (row_block r e).1)
  refine ⟨a', c', W', hr, ⟨hb', xs ++ x2, by rw [List.length_append]; exact ho, fun i u s hu hs => ?_⟩, fun b c hc => (hg.block b (heap_inO hc) (fun e => by
    obtain ⟨_, cur, hcur⟩ := row_block r e.symm
    rw [hc] at hcur
    exact absurd (Obj.cells.inj (Option.some.inj hcur)).2.1 (by decide))).trans hc⟩
  have hx1 : xs.length = l.length := by rw [r.1, Nat.mul_one]
  by_cases c : i < l.length
  · rw [List.getElem?_append_left (by omega)] at hu
    rw [List.getElem?_append_left c] at hs
    exact e i u s hu hs
  · rw [List.getElem?_append_right (by omega)] at hu hs
    rw [hx1] at hu
    exact e2 _ u s hu hs
/-- An answer stored into a block laid ahead. -/
theorem sum_at {w : World} {b : Nat} {c0 c1 c2 : Value} (x y z : Value) (h : w.heap[b]? = some (.cells #[c0, c1, c2] 33 (0, 0))) (hx : x.oneCell' = true := by rfl) (hy : y.oneCell' = true := by rfl) (hz : z.oneCell' = true := by rfl) :
    (storeS 33 (.pointer (some ⟨b, 0, none⟩)) (.agg #[x, y, z])).run Try.prog w = .ok () (w.setRow b #[x, y, z]) ∧ (w.setRow b #[x, y, z]).heap[b]? = some (.cells #[x, y, z] 33 (0, 0)) ∧ Keeps (fun k => k = b) w (w.setRow b #[x, y, z]) := by
  have hsz : (Try.prog.info? 33).map (·.size) = some 3 := by kernel_rfl
  refine ⟨?_, setRow_heap w b _ _ _ _ h, (Keeps.refl (fun k => k = b) w).setRow (.inl rfl) _⟩
  have h := run_storeVar_row (P := Try.prog) w b 33 33 _ #[x, y, z] h (by rw [hsz]; rfl) rfl (by simp [hx, hy, hz])
  unfold storeS
  simp only [Instr.storeAt, Instr.sureAddr, Sem.run_bind, Sem.run_pure, Result.andThen_ok]
  exact h
/-- Rows of states are kept where an answer's block changes. -/
theorem sum_kept {w w' : World} {b : Nat} {c : Array Value} {v : Value} {l : List (List Int)} (h : w.heap[b]? = some (.cells c 33 (0, 0))) (hk : Keeps (fun k => k = b) w w') (hs : StsOwn 0 w v l) : StsOwn 0 w' v l :=
  sts_keep hs hk (fun g cur e hg => by
    rw [e, h] at hg
    exact absurd (Obj.cells.inj (Option.some.inj hg)).2.1 (by decide)) (fun g cur e hg => by
    rw [e, h] at hg
    exact absurd (Obj.cells.inj (Option.some.inj hg)).2.1 (by decide))
theorem put_in {U w : World} {b : Nat} {c0 c1 c2 : Value} {ae ax : Option Addr} {ce cx : Nat} {P Q : List (List Int)} (n : Int) (hu : Below U.heap.size U w) (hB : U.heap.size ≤ b) (h : w.heap[b]? = some (.cells #[c0, c1, c2] 33 (0, 0))) (hQ : StsOwn 0 w (.slice ax Q.length cx) Q) :
    ∃ W, (storeS 33 (.pointer (some ⟨b, 0, none⟩)) (.agg #[.slice ae P.length ce, .slice ax Q.length cx, .int .i64 n])).run Try.prog w = .ok () W ∧ W.heap[b]? = some (.cells #[.slice ae P.length ce, .slice ax Q.length cx, .int .i64 n] 33 (0, 0)) ∧ Sts W (.slice ax Q.length cx) Q ∧ Below U.heap.size U W := by
  obtain ⟨h1, h2, h3⟩ := sum_at (.slice ae P.length ce) (.slice ax Q.length cx) (.int .i64 n) h
  exact ⟨_, h1, h2, (sum_kept h h3 hQ).reads, hu.trans (h3.below (fun k e => by omega) hu.size)⟩
theorem put_new {U w : World} {ae ax : Option Addr} {ce cx : Nat} {P Q : List (List Int)} (n : Int) (hu : Below U.heap.size U w) (hQ : StsOwn 0 w (.slice ax Q.length cx) Q) :
    ∃ W, (storeS 33 (.pointer (some ⟨w.heap.size, 0, none⟩)) (.agg #[.slice ae P.length ce, .slice ax Q.length cx, .int .i64 n])).run Try.prog (w.alloc (.cells #[.slice none 0 0, .slice none 0 0, .int .i64 0] 33)) = .ok () W ∧ W.heap[w.heap.size]? = some (.cells #[.slice ae P.length ce, .slice ax Q.length cx, .int .i64 n] 33 (0, 0)) ∧ Sts W (.slice ax Q.length cx) Q ∧ Below U.heap.size U W :=
  ⟨_, sum_new w (.slice ae P.length ce) (.slice ax Q.length cx) (.int .i64 n), heap_alloc_new w _, (hQ.on (by go_grown)).reads, hu.alloc hu.size _⟩
end Ln
end Go.Proofs.Ytppjmmdiglnkfaa
namespace Go.Proofs.Ytppjmmdiglnkfaa
set_option maxRecDepth 100000
open Go.ChangeShapes Go.WideShapes Go.ChangeAt Go.RowKit Go.PlainAid Go.Deep
namespace Ln
/-- Is the k-th operation done here, if it has an answer? -/
def fulB (l : List OpV) (d : List Bool) (k : Nat) : Bool := !(((l[k]?).map (·.done)).getD false) || (d[k]?).getD false
def fullB (l : List OpV) (d : List Bool) : Bool := (List.range l.length).all (fulB l d)
theorem full_yes {l : List OpV} {d : List Bool} (h : ∀ j, j < l.length → fulB l d j = true) : fullB l d = true := by
  unfold fullB
  rw [List.all_eq_true]
  exact fun j hj => h j (List.mem_range.1 hj)
theorem full_no {l : List OpV} {d : List Bool} {k : Nat} (hk : k < l.length) (h : fulB l d k = false) : fullB l d = false := by
  unfold fullB
  rw [List.all_eq_false]
  exact ⟨k, List.mem_range.2 hk, by rw [h]; decide⟩
/-- A bool of a row. -/
theorem bool_at {w : World} {v : Value} {d : List Bool} (h : Rd w v 1 d.length (d.map Value.bool)) {k : Nat} {c : Bool} (hc : d[k]? = some c) : ∃ b p cap, v = .slice (some ⟨b, p, none⟩) d.length cap ∧ b < w.heap.size ∧ w.cell? ⟨b, p + k, none⟩ = some (.bool c) := by
  have hlt := (List.getElem?_eq_some_iff.1 hc).1
  obtain ⟨b, p, cap, hv, hb, hr⟩ := h.at (by omega)
  exact ⟨b, p, cap, hv, hb, hr k _ (by rw [List.getElem?_map, hc]; rfl)⟩
set_option maxHeartbeats 1000000 in
theorem rfull_any {vo vd : Value} {l : List OpV} {d : List Bool} {w : World} (hO : OpsOf w vo l) (hD : Rd w vd 1 d.length (d.map Value.bool)) (hl : d.length = l.length) (hs : l.length ≤ 100000) :
    Calls Try.prog 30 #[vo, vd] w fun e w' => e = .returned (.bool (fullB l d)) ∧ Below w.heap.size w w' := by
  obtain ⟨ao, co, rfl⟩ := hO.len
  obtain ⟨ad, cd, rfl⟩ := hD.len
  have HO := Lib.hid hO
  have HD := Lib.hid hD
  have HL := Lib.hid hl
  clear hO hD hl
  go_enter Try.func30, Try.ntmps30
  go_wp2_with fail
  go_loopw [5] (fun s5 wr => ∃ k : Nat, s5 = .int .i64 k ∧ k ≤ l.length ∧ Hid ((∀ j, j < k → fulB l d j = true) ∧ Below w.heap.size w wr)) (fun s5 _ => l.length - (intOf s5).toNat)
  case atStart => exact ⟨0, rfl, Nat.zero_le _, Lib.hid ⟨fun j hj => absurd hj (by omega), Below.refl _ _⟩⟩
  case round =>
    obtain ⟨k, rfl, hk, HI⟩ := hrel
    by_cases hkl : k < l.length
    · obtain ⟨x, hx⟩ : ∃ x, l[k]? = some x := ⟨_, List.getElem?_eq_getElem hkl⟩
      obtain ⟨c, hc⟩ : ∃ c, d[k]? = some c := ⟨_, List.getElem?_eq_getElem (by have := HL.out; omega)⟩
      obtain ⟨b, p, cap, hv, _, _, hcc⟩ := OpsOf.at (HO.out.on HI.out.2) hx
      obtain ⟨b2, p2, cap2, hv2, _, y0⟩ := bool_at (HD.out.on HI.out.2) hc
      obtain rfl : ao = some ⟨b, p, none⟩ := by cases hv; rfl
      obtain rfl : ad = some ⟨b2, p2, none⟩ := by cases hv2; rfl
      have x0 : wr.cell? ⟨b, p + k * 11 + 7, none⟩ = some (.bool x.done) := hcc 7 _ rfl
      have q2 : (k : Int) < (l.length : Int) := by omega
      have q2b : (k : Int) < (d.length : Int) := by have := HL.out; omega
      have q3 : IntKind.i64.wrap ((k : Int) + 1) = (k : Int) + 1 := IntWalk.i64_in _ (by omega)
      have q4 : (0 : Int) ≤ (k : Int) := by omega
      have HF := Lib.hid (show fulB l d k = (!x.done || c) by unfold fulB; rw [hx, hc]; rfl)
      have HK := Lib.hid hkl
      clear hv hv2 hcc hx hc hk hkl
      cases hxd : x.done with
      | false =>
        rw [hxd] at x0
        have HN := Lib.hid (show (∀ j, j < k + 1 → fulB l d j = true) ∧ Below w.heap.size w wr from ⟨fun j hj => by
          by_cases e : j = k
          · subst e; rw [HF.out, hxd]; rfl
          · exact HI.out.1 j (by omega), HI.out.2⟩)
        have HK2 := Lib.hid hxd
        clear hxd
        go_wp2_with fail
        go_roundw
        case measure => have := HK.out; simp [intOf] <;> omega
        case rel => exact ⟨k + 1, by simp, by have := HK.out; omega, HN⟩
      | true =>
        rw [hxd] at x0
        cases c with
        | true =>
          have HN := Lib.hid (show (∀ j, j < k + 1 → fulB l d j = true) ∧ Below w.heap.size w wr from ⟨fun j hj => by
            by_cases e : j = k
            · subst e; rw [HF.out]; simp
            · exact HI.out.1 j (by omega), HI.out.2⟩)
          clear hxd
          go_wp2_with fail
          go_roundw
          case measure => have := HK.out; simp [intOf] <;> omega
          case rel => exact ⟨k + 1, by simp, by have := HK.out; omega, HN⟩
        | false =>
          have HE := Lib.hid (full_no HK.out (by rw [HF.out, hxd]; rfl))
          clear hxd
          go_wp2_with fail
          go_returns
          exact ⟨by rw [HE.out]; rfl, HI.out.2⟩
    · obtain rfl : k = l.length := by omega
      have q1 : ¬ ((l.length : Int) < (l.length : Int)) := by omega
      have HE := Lib.hid (full_yes HI.out.1)
      go_wp2_with fail
      go_returns
      exact ⟨by rw [HE.out]; rfl, HI.out.2⟩
end Ln
end Go.Proofs.Ytppjmmdiglnkfaa
namespace Go.Proofs.Ytppjmmdiglnkfaa
set_option maxRecDepth 100000
open Go.ChangeShapes Go.WideShapes Go.ChangeAt Go.RowKit Go.PlainAid Go.Deep
namespace Ln
/-- Doesn't the k-th operation stand in the way of o? -/
noncomputable def wayB (l : List OpV) (d : List Bool) (o : OpV) (k : Nat) : Bool := (d[k]?).getD false || !(((l[k]?).map fun a => befB a o).getD false)
/-- May o be the next one, as far as the others go? -/
noncomputable def freeB (l : List OpV) (d : List Bool) (o : OpV) : Bool := (List.range l.length).all (wayB l d o)
theorem free_yes {l : List OpV} {d : List Bool} {o : OpV} (h : ∀ j, j < l.length → wayB l d o j = true) : freeB l d o = true := by
  unfold freeB
  rw [List.all_eq_true]
  exact fun j hj => h j (List.mem_range.1 hj)
theorem free_no {l : List OpV} {d : List Bool} {o : OpV} {k : Nat} (hk : k < l.length) (h : wayB l d o k = false) : freeB l d o = false := by
  unfold freeB
  rw [List.all_eq_false]
  exact ⟨k, List.mem_range.2 hk, by rw [h]; decide⟩
attribute [local go_sem ↓ high] load_op store_o
set_option maxHeartbeats 4000000 in
theorem rmay_any {vo vd : Value} {l : List OpV} {d : List Bool} {i : Nat} {o : OpV} {w : World} (hO : OpsOf w vo l) (hD : Rd w vd 1 d.length (d.map Value.bool)) (hl : d.length = l.length) (hs : l.length ≤ 100000) (hi : l[i]? = some o) :
    Calls Try.prog 52 #[vo, vd, .int .i64 (i : Int)] w fun e w' => e = .returned (.bool (!(d[i]?).getD false && freeB l d o)) ∧ Below w.heap.size w w' := by
  have hil := (List.getElem?_eq_some_iff.1 hi).1
  obtain ⟨ao, co, rfl⟩ := hO.len
  obtain ⟨ad, cd, rfl⟩ := hD.len
  obtain ⟨ci, hci⟩ : ∃ c, d[i]? = some c := ⟨_, List.getElem?_eq_getElem (by omega)⟩
  obtain ⟨b, p, cap, hv, _, _, hcc⟩ := OpsOf.at hO hi
  obtain ⟨b2, p2, cap2, hv2, _, y0⟩ := bool_at hD hci
  obtain rfl : ao = some ⟨b, p, none⟩ := by cases hv; rfl
  obtain rfl : ad = some ⟨b2, p2, none⟩ := by cases hv2; rfl
  have q4i : (0 : Int) ≤ (i : Int) := by omega
  have q2i : (i : Int) < (l.length : Int) := by omega
  have q2ib : (i : Int) < (d.length : Int) := by omega
  have HO := Lib.hid hO
  have HD := Lib.hid hD
  have HL := Lib.hid hl
  have HI := Lib.hid hi
  clear hO hD hl hi hv hv2 hcc
  cases ci with
  | true =>
    have HE := Lib.hid (show (!(d[i]?).getD false && freeB l d o) = false by rw [hci]; rfl)
    clear hci
    go_enter Try.func52, Try.ntmps52
    go_wp2_with fail
    go_returns
    exact ⟨by rw [HE.out]; rfl, Below.refl _ _⟩
  | false =>
    have HE := Lib.hid (show (!(d[i]?).getD false && freeB l d o) = freeB l d o by rw [hci]; rfl)
    clear hci
    go_enter Try.func52, Try.ntmps52
    go_wp2_with fail
    clear y0
    go_loopw [7] (fun s7 wr => ∃ k : Nat, s7 = .int .i64 k ∧ k ≤ l.length ∧ Hid ((∀ j, j < k → wayB l d o j = true) ∧ Below w.heap.size w wr)) (fun s7 _ => l.length - (intOf s7).toNat)
    case atStart => exact ⟨0, rfl, Nat.zero_le _, Lib.hid ⟨fun j hj => absurd hj (by omega), Below.refl _ _⟩⟩
    case round =>
      obtain ⟨k, rfl, hk, HR⟩ := hrel
      by_cases hkl : k < l.length
      · obtain ⟨x, hx⟩ : ∃ x, l[k]? = some x := ⟨_, List.getElem?_eq_getElem hkl⟩
        obtain ⟨c, hc⟩ : ∃ c, d[k]? = some c := ⟨_, List.getElem?_eq_getElem (by have := HL.out; omega)⟩
        have q2 : (k : Int) < (l.length : Int) := by omega
        have q2b : (k : Int) < (d.length : Int) := by have := HL.out; omega
        have q3 : IntKind.i64.wrap ((k : Int) + 1) = (k : Int) + 1 := IntWalk.i64_in _ (by omega)
        have q4 : (0 : Int) ≤ (k : Int) := by omega
        have HF := Lib.hid (show wayB l d o k = (c || !befB x o) by unfold wayB; rw [hx, hc]; rfl)
        have HK := Lib.hid hkl
        have hS : ∀ W, Below w.heap.size w W → W.cell? ⟨b2, p2 + k, none⟩ = some (.bool c) ∧ (loadS 43 (.pointer (some ⟨b, p + k * 11, none⟩))).run Try.prog W = .ok (Value.agg #[Value.int .i64 x.id, Value.int .i64 x.proc, Value.int .i64 x.obj, Value.int .i64 x.kind, Value.int .i64 x.meth, Value.int .i64 x.arg, Value.int .i64 x.sec, Value.bool x.done, Value.int .i64 x.res, Value.int .i64 x.inv, Value.int .i64 x.ret]) W ∧ (loadS 43 (.pointer (some ⟨b, p + i * 11, none⟩))).run Try.prog W = .ok (Value.agg #[Value.int .i64 o.id, Value.int .i64 o.proc, Value.int .i64 o.obj, Value.int .i64 o.kind, Value.int .i64 o.meth, Value.int .i64 o.arg, Value.int .i64 o.sec, Value.bool o.done, Value.int .i64 o.res, Value.int .i64 o.inv, Value.int .i64 o.ret]) W := fun W hb => by
          obtain ⟨b', p', cap', hv', _, _, hcc'⟩ := OpsOf.at (HO.out.on hb) hx
          obtain ⟨b3, p3, cap3, hv3, _, _, hcc3⟩ := OpsOf.at (HO.out.on hb) HI.out
          obtain ⟨b4, p4, cap4, hv4, _, y4⟩ := bool_at (HD.out.on hb) hc
          cases hv'
          cases hv3
          cases hv4
          exact ⟨y4, load_cellsO (p := p + k * 11) hcc', load_cellsO (p := p + i * 11) hcc3⟩
        have HS := Lib.hid hS
        have hb0 : Below w.heap.size w wr.drew := HR.out.2.drew
        obtain ⟨k0, k1, k2⟩ := HS.out _ hb0
        clear hS hx hc hk hkl
        cases c with
        | true =>
          have HN := Lib.hid (show (∀ j, j < k + 1 → wayB l d o j = true) ∧ Below w.heap.size w wr.drew from ⟨fun j hj => by
            by_cases e : j = k
            · subst e; rw [HF.out]; rfl
            · exact HR.out.1 j (by omega), HR.out.2.drew⟩)
          go_wp2_with fail
          go_region
          go_wp2_with fail
          go_roundw
          case measure => have := HK.out; simp [intOf] <;> omega
          case rel => exact ⟨k + 1, by simp, by have := HK.out; omega, HN⟩
        | false =>
          cases hbf : befB x o with
          | false =>
            have HF2 := Lib.hid (show wayB l d o k = true by rw [HF.out, hbf]; rfl)
            have HBF := Lib.hid hbf
            clear hbf
            go_wp2_with fail
            go_region_held3 (fun w' => w'.cell? ⟨b2, p2 + k, none⟩ = some (.bool false) ∧ (loadS 43 (.pointer (some ⟨b, p + k * 11, none⟩))).run Try.prog w' = .ok (Value.agg #[Value.int .i64 x.id, Value.int .i64 x.proc, Value.int .i64 x.obj, Value.int .i64 x.kind, Value.int .i64 x.meth, Value.int .i64 x.arg, Value.int .i64 x.sec, Value.bool x.done, Value.int .i64 x.res, Value.int .i64 x.inv, Value.int .i64 x.ret]) w' ∧ (loadS 43 (.pointer (some ⟨b, p + i * 11, none⟩))).run Try.prog w' = .ok (Value.agg #[Value.int .i64 o.id, Value.int .i64 o.proc, Value.int .i64 o.obj, Value.int .i64 o.kind, Value.int .i64 o.meth, Value.int .i64 o.arg, Value.int .i64 o.sec, Value.bool o.done, Value.int .i64 o.res, Value.int .i64 o.inv, Value.int .i64 o.ret]) w') (first | (exact HS.out _ (by assumption)) | go_keep) (first | (go_at_call 25; (with_reducible refine (rbefore_any _ _ _).mono ?_); rintro _ w3 ⟨rfl, hb3⟩; rw [HBF.out]; have hb33 := hb0.on hb3) | fail)
            have HN := Lib.hid (show (∀ j, j < k + 1 → wayB l d o j = true) ∧ Below w.heap.size w w3 from ⟨fun j hj => by
              by_cases e : j = k
              · subst e; exact HF2.out
              · exact HR.out.1 j (by omega), hb33⟩)
            go_wp2_with fail
            go_roundw
            case measure => have := HK.out; simp [intOf] <;> omega
            case rel => exact ⟨k + 1, by simp, by have := HK.out; omega, HN⟩
          | true =>
            have HNO := Lib.hid (free_no HK.out (by rw [HF.out, hbf]; rfl))
            have HBF := Lib.hid hbf
            clear hbf
            go_wp2_with fail
            go_region_held3 (fun w' => w'.cell? ⟨b2, p2 + k, none⟩ = some (.bool false) ∧ (loadS 43 (.pointer (some ⟨b, p + k * 11, none⟩))).run Try.prog w' = .ok (Value.agg #[Value.int .i64 x.id, Value.int .i64 x.proc, Value.int .i64 x.obj, Value.int .i64 x.kind, Value.int .i64 x.meth, Value.int .i64 x.arg, Value.int .i64 x.sec, Value.bool x.done, Value.int .i64 x.res, Value.int .i64 x.inv, Value.int .i64 x.ret]) w' ∧ (loadS 43 (.pointer (some ⟨b, p + i * 11, none⟩))).run Try.prog w' = .ok (Value.agg #[Value.int .i64 o.id, Value.int .i64 o.proc, Value.int .i64 o.obj, Value.int .i64 o.kind, Value.int .i64 o.meth, Value.int .i64 o.arg, Value.int .i64 o.sec, Value.bool o.done, Value.int .i64 o.res, Value.int .i64 o.inv, Value.int .i64 o.ret]) w') (first | (exact HS.out _ (by assumption)) | go_keep) (first | (go_at_call 25; (with_reducible refine (rbefore_any _ _ _).mono ?_); rintro _ w3 ⟨rfl, hb3⟩; rw [HBF.out]; have hb33 := hb0.on hb3) | fail)
            go_wp2_with fail
            go_returns
            exact ⟨by rw [HE.out, HNO.out]; rfl, hb33⟩
      · obtain rfl : k = l.length := by omega
        have q1 : ¬ ((l.length : Int) < (l.length : Int)) := by omega
        have HY := Lib.hid (free_yes HR.out.1)
        go_wp2_with fail
        go_returns
        exact ⟨by rw [HE.out, HY.out]; rfl, HR.out.2⟩
end Ln
end Go.Proofs.Ytppjmmdiglnkfaa
namespace Go.Proofs.Ytppjmmdiglnkfaa
set_option maxRecDepth 100000
open Go.ChangeShapes Go.WideShapes Go.ChangeAt Go.RowKit Go.PlainAid
namespace Ln
theorem bfs_sound (l : List OpV) (lim : Int) {S : Spt → Prop} (hS : ∀ p, S p → ∀ q ∈ nx l p, S q) : ∀ (f i : Nat) (out : List Spt), (∀ p ∈ out, S p) → ∀ p ∈ bfs l lim f i out, S p
  | 0, _, _, h => h
  | f + 1, i, out, h => by
    rw [bfs]
    split
    · rename_i p hp
      split
      · refine bfs_sound l lim hS f (i + 1) _ fun q hq => ?_
        rcases adds_mem.1 hq with hq | hq
        · exact h q hq
        · exact hS p (h p (List.mem_of_getElem? hp)) q hq
      · exact h
    · exact h
theorem bfs_sub (l : List OpV) (lim : Int) : ∀ (f i : Nat) (out : List Spt), ∀ p ∈ out, p ∈ bfs l lim f i out
  | 0, _, _, _, h => h
  | f + 1, i, out, p, h => by
    rw [bfs]
    split
    · split
      · exact bfs_sub l lim f (i + 1) _ p (adds_mem.2 (.inl h))
      · exact h
    · exact h
theorem bfs_closed (l : List OpV) (lim : Int) : ∀ (f i : Nat) (out : List Spt), ((bfs l lim f i out).length : Int) ≤ lim → (bfs l lim f i out).length ≤ i + f → (∀ j p, j < i → out[j]? = some p → ∀ q ∈ nx l p, q ∈ out) → ∀ p ∈ bfs l lim f i out, ∀ q ∈ nx l p, q ∈ bfs l lim f i out
  | 0, i, out, _, hf, hc => fun p hp q hq => by
    obtain ⟨j, hj⟩ := List.getElem?_of_mem (show p ∈ out from hp)
    have := (List.getElem?_eq_some_iff.1 hj).1
    exact hc j p (by have : out.length ≤ i + 0 := hf; omega) hj q hq
  | f + 1, i, out, hl, hf, hc => by
    cases hp : out[i]? with
    | none =>
      have e : bfs l lim (f + 1) i out = out := bfs_end (List.getElem?_eq_none_iff.1 hp)
      rw [e]
      intro p hpo q hq
      obtain ⟨j, hj⟩ := List.getElem?_of_mem hpo
      have := (List.getElem?_eq_some_iff.1 hj).1
      have := List.getElem?_eq_none_iff.1 hp
      exact hc j p (by omega) hj q hq
    | some x =>
      have h0 := bfs_len l lim (f + 1) i out
      have e := bfs_go (l := l) (f := f) hp (show (out.length : Int) ≤ lim by omega)
      rw [e] at hl hf ⊢
      refine bfs_closed l lim f (i + 1) _ hl (by omega) fun j p hj hjp q hq => ?_
      by_cases c : j < i
      · have hjo : j < out.length := by have := (List.getElem?_eq_some_iff.1 hp).1; omega
        have := adds_get (l := nx l x) (List.getElem?_eq_getElem hjo)
        rw [this] at hjp
        exact adds_mem.2 (.inl (hc j p c (by rw [← hjp]; exact List.getElem?_eq_getElem hjo) q hq))
      · obtain rfl : j = i := by omega
        rw [adds_get hp] at hjp
        obtain rfl := Option.some.inj hjp
        exact adds_mem.2 (.inr hq)
/-- All that is reached from entries, where the limit was enough. -/
structure Full (l : List OpV) (ents : List (List Int)) (F : List Spt) : Prop where
  start : ∀ s ∈ ents, (0, s) ∈ F
  step : ∀ p ∈ F, ∀ q ∈ nx l p, q ∈ F
  least : ∀ S : Spt → Prop, (∀ s ∈ ents, S (0, s)) → (∀ p, S p → ∀ q ∈ nx l p, S q) → ∀ p ∈ F, S p
  nodup : F.Nodup
theorem full_of {l : List OpV} {ents first : List (List Int)} {lim : Int} (hf : US ents first) (hl : ((bfs l lim most 0 (starts first)).length : Int) ≤ lim) (hlim : lim ≤ 32768) : Full l ents (bfs l lim most 0 (starts first)) := by
  refine ⟨fun s hs => bfs_sub l lim _ _ _ _ (List.mem_map.2 ⟨s, (hf.mem s).2 hs, rfl⟩), bfs_closed l lim most 0 _ hl (by unfold most at *; omega) (fun j p hj => by omega), fun S h0 h1 => bfs_sound l lim h1 _ _ _ fun p hp => ?_, bfs_nodup l lim _ _ _ ?_⟩
  · obtain ⟨s, hs, rfl⟩ := List.mem_map.1 hp
    exact h0 s ((hf.mem s).1 hs)
  · unfold starts
    rw [List.Nodup, List.pairwise_map]
    exact hf.nodup.imp fun {a b} h e => h (Prod.mk.inj e).2
theorem Full.sub {l : List OpV} {a b : List (List Int)} {F G : List Spt} (h : Full l a F) (k : Full l b G) (hs : ∀ s ∈ a, s ∈ b) : ∀ p ∈ F, p ∈ G := h.least (fun p => p ∈ G) (fun s hs' => k.start s (hs s hs')) k.step
theorem exits_mem {l : List OpV} {F : List Spt} {s : List Int} : s ∈ exitsL l F ↔ ∃ m, (m, s) ∈ F ∧ exitB l m = true := by
  unfold exitsL
  rw [List.mem_map]
  constructor
  · rintro ⟨⟨m, t⟩, hp, rfl⟩
    obtain ⟨h1, h2⟩ := List.mem_filter.1 hp
    exact ⟨m, h1, h2⟩
  · rintro ⟨m, h1, h2⟩
    exact ⟨(m, s), List.mem_filter.2 ⟨h1, h2⟩, rfl⟩
/-- Two lists of entries together. -/
theorem full_join {l : List OpV} {a b : List (List Int)} {F G H : List Spt} (hF : Full l a F) (hG : Full l b G) (hH : Full l (a ++ b) H) : (∀ p, p ∈ H ↔ p ∈ F ∨ p ∈ G) ∧ H.length ≤ F.length + G.length ∧ F.length ≤ H.length ∧ G.length ≤ H.length := by
  have h1 : ∀ p ∈ F, p ∈ H := hF.sub hH fun s hs => List.mem_append_left _ hs
  have h2 : ∀ p ∈ G, p ∈ H := hG.sub hH fun s hs => List.mem_append_right _ hs
  have h3 : ∀ p ∈ H, p ∈ F ∨ p ∈ G := hH.least _ (fun s hs => (List.mem_append.1 hs).imp (hF.start s) (hG.start s)) fun p hp q hq => hp.imp (fun h => hF.step p h q hq) (fun h => hG.step p h q hq)
  refine ⟨fun p => ⟨h3 p, fun h => h.elim (h1 p) (h2 p)⟩, ?_, List.Nodup.length_le_of_subset hF.nodup h1, List.Nodup.length_le_of_subset hG.nodup h2⟩
  have := List.Nodup.length_le_of_subset hH.nodup (l₂ := F ++ G) fun p hp => List.mem_append.2 (h3 p hp)
  rwa [List.length_append] at this
/-- What two searches and the one of both say. -/
theorem ans_join {l : List OpV} {a b : List (List Int)} {lim : Int} {P Q n z P2 Q2 n2 z2 P3 Q3 n3 z3} (h : Ans l a lim P Q n z) (h2 : Ans l b lim P2 Q2 n2 z2) (h3 : Ans l (a ++ b) lim P3 Q3 n3 z3) (hl : l.length ≤ 16) (hlim : lim ≤ 32768) (ha : ∃ r, US a r) (hb : ∃ r, US b r) (hc : ∃ r, US (a ++ b) r) (e : z = 0) (e2 : z2 = 0) (e3 : z3 = 0) :
    (∀ B, US (Q ++ Q2) B → Q3 = B) ∧ n3 ≤ n + n2 ∧ n ≤ n3 ∧ n2 ≤ n3 := by
  obtain ⟨fa, ha⟩ := ha
  obtain ⟨fb, hb⟩ := hb
  obtain ⟨fc, hc⟩ := hc
  obtain ⟨a1, _, a3, a4⟩ := h.ok hl ha e
  obtain ⟨b1, _, b3, b4⟩ := h2.ok hl hb e2
  obtain ⟨c1, _, c3, c4⟩ := h3.ok hl hc e3
  obtain ⟨hm, k1, k2, k3⟩ := full_join (full_of ha a1 hlim) (full_of hb b1 hlim) (full_of hc c1 hlim)
  refine ⟨fun B hB => c3.eq hB fun s => ?_, by omega, by omega, by omega⟩
  rw [List.mem_append, a3.mem s, b3.mem s, exits_mem, exits_mem, exits_mem]
  constructor
  · rintro ⟨m, hp, he⟩
    exact ((hm _).1 hp).imp (fun h => ⟨m, h, he⟩) (fun h => ⟨m, h, he⟩)
  · rintro (⟨m, hp, he⟩ | ⟨m, hp, he⟩)
    · exact ⟨m, (hm _).2 (.inl hp), he⟩
    · exact ⟨m, (hm _).2 (.inr hp), he⟩
end Ln
end Go.Proofs.Ytppjmmdiglnkfaa
