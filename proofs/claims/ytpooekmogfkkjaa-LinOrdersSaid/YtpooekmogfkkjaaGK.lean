/- The reference's full and may: rows of bools beside operations. The reference's may. -/
import Derived.Test.YtpooekmogfkkjaaGP
namespace Go.Proofs.Ytpooekmogfkkjaa
set_option maxRecDepth 100000
open Go.ChangeShapes Go.WideShapes Go.ChangeAt Go.RowKit Go.PlainAid Go.Deep
namespace Ln
/-- Is the k-th operation done here, if it has an answer? -/
def fulB (l : List OpV) (d : List Bool) (k : Nat) : Bool := !(((l[k]?).map (·.done)).getD false) || (d[k]?).getD false
def fullB (l : List OpV) (d : List Bool) : Bool := (List.range l.length).all (fulB l d)
theorem full_yes {l : List OpV} {d : List Bool} (h : ∀ j, j < l.length → fulB l d j = true) : fullB l d = true := by
  unfold fullB
  rw [List.all_eq_true]
  exact fun j hj => h j (List.mem_range.1 hj)
theorem full_no {l : List OpV} {d : List Bool} {k : Nat} (hk : k < l.length) (h : fulB l d k = false) : fullB l d = false := by
  unfold fullB
  rw [List.all_eq_false]
  exact ⟨k, List.mem_range.2 hk, by rw [h]; decide⟩
/-- A bool of a row. -/
theorem bool_at {w : World} {v : Value} {d : List Bool} (h : Rd w v 1 d.length (d.map Value.bool)) {k : Nat} {c : Bool} (hc : d[k]? = some c) : ∃ b p cap, v = .slice (some ⟨b, p, none⟩) d.length cap ∧ b < w.heap.size ∧ w.cell? ⟨b, p + k, none⟩ = some (.bool c) := by
  have hlt := (List.getElem?_eq_some_iff.1 hc).1
  obtain ⟨b, p, cap, hv, hb, hr⟩ := h.at (by omega)
  exact ⟨b, p, cap, hv, hb, hr k _ (by rw [List.getElem?_map, hc]; rfl)⟩
set_option maxHeartbeats 1000000 in
theorem rfull_any {vo vd : Value} {l : List OpV} {d : List Bool} {w : World} (hO : OpsOf w vo l) (hD : Rd w vd 1 d.length (d.map Value.bool)) (hl : d.length = l.length) (hs : l.length ≤ 100000) :
    Calls Try.prog 29 #[vo, vd] w fun e w' => e = .returned (.bool (fullB l d)) ∧ Below w.heap.size w w' := by
  obtain ⟨ao, co, rfl⟩ := hO.len
  obtain ⟨ad, cd, rfl⟩ := hD.len
  have HO := Lib.hid hO
  have HD := Lib.hid hD
  have HL := Lib.hid hl
  clear hO hD hl
  go_enter Try.func29, Try.ntmps29
  go_wp2_with fail
  go_loopw [5] (fun s5 wr => ∃ k : Nat, s5 = .int .i64 k ∧ k ≤ l.length ∧ Hid ((∀ j, j < k → fulB l d j = true) ∧ Below w.heap.size w wr)) (fun s5 _ => l.length - (intOf s5).toNat)
  case atStart => exact ⟨0, rfl, Nat.zero_le _, Lib.hid ⟨fun j hj => absurd hj (by omega), Below.refl _ _⟩⟩
  case round =>
    obtain ⟨k, rfl, hk, HI⟩ := hrel
    by_cases hkl : k < l.length
    · obtain ⟨x, hx⟩ : ∃ x, l[k]? = some x := ⟨_, List.getElem?_eq_getElem hkl⟩
      obtain ⟨c, hc⟩ : ∃ c, d[k]? = some c := ⟨_, List.getElem?_eq_getElem (by have := HL.out; omega)⟩
      obtain ⟨b, p, cap, hv, _, _, hcc⟩ := OpsOf.at (HO.out.on HI.out.2) hx
      obtain ⟨b2, p2, cap2, hv2, _, y0⟩ := bool_at (HD.out.on HI.out.2) hc
      obtain rfl : ao = some ⟨b, p, none⟩ := by cases hv; rfl
      obtain rfl : ad = some ⟨b2, p2, none⟩ := by cases hv2; rfl
      have x0 : wr.cell? ⟨b, p + k * 11 + 7, none⟩ = some (.bool x.done) := hcc 7 _ rfl
      have q2 : (k : Int) < (l.length : Int) := by omega
      have q2b : (k : Int) < (d.length : Int) := by have := HL.out; omega
      have q3 : IntKind.i64.wrap ((k : Int) + 1) = (k : Int) + 1 := IntWalk.i64_in _ (by omega)
      have q4 : (0 : Int) ≤ (k : Int) := by omega
      have HF := Lib.hid (show fulB l d k = (!x.done || c) by unfold fulB; rw [hx, hc]; rfl)
      have HK := Lib.hid hkl
      clear hv hv2 hcc hx hc hk hkl
      cases hxd : x.done with
      | false =>
        rw [hxd] at x0
        have HN := Lib.hid (show (∀ j, j < k + 1 → fulB l d j = true) ∧ Below w.heap.size w wr from ⟨fun j hj => by
          by_cases e : j = k
          · subst e; rw [HF.out, hxd]; rfl
          · exact HI.out.1 j (by omega), HI.out.2⟩)
        have HK2 := Lib.hid hxd
        clear hxd
        go_wp2_with fail
        go_roundw
        case measure => have := HK.out; simp [intOf] <;> omega
        case rel => exact ⟨k + 1, by simp, by have := HK.out; omega, HN⟩
      | true =>
        rw [hxd] at x0
        cases c with
        | true =>
          have HN := Lib.hid (show (∀ j, j < k + 1 → fulB l d j = true) ∧ Below w.heap.size w wr from ⟨fun j hj => by
            by_cases e : j = k
            · subst e; rw [HF.out]; simp
            · exact HI.out.1 j (by omega), HI.out.2⟩)
          clear hxd
          go_wp2_with fail
          go_roundw
          case measure => have := HK.out; simp [intOf] <;> omega
          case rel => exact ⟨k + 1, by simp, by have := HK.out; omega, HN⟩
        | false =>
          have HE := Lib.hid (full_no HK.out (by rw [HF.out, hxd]; rfl))
          clear hxd
          go_wp2_with fail
          go_returns
          exact ⟨by rw [HE.out]; rfl, HI.out.2⟩
    · obtain rfl : k = l.length := by omega
      have q1 : ¬ ((l.length : Int) < (l.length : Int)) := by omega
      have HE := Lib.hid (full_yes HI.out.1)
      go_wp2_with fail
      go_returns
      exact ⟨by rw [HE.out]; rfl, HI.out.2⟩
end Ln
end Go.Proofs.Ytpooekmogfkkjaa
namespace Go.Proofs.Ytpooekmogfkkjaa
set_option maxRecDepth 100000
open Go.ChangeShapes Go.WideShapes Go.ChangeAt Go.RowKit Go.PlainAid Go.Deep
namespace Ln
/-- Doesn't the k-th operation stand in the way of o? -/
noncomputable def wayB (l : List OpV) (d : List Bool) (o : OpV) (k : Nat) : Bool := (d[k]?).getD false || !(((l[k]?).map fun a => befB a o).getD false)
/-- May o be the next one, as far as the others go? -/
noncomputable def freeB (l : List OpV) (d : List Bool) (o : OpV) : Bool := (List.range l.length).all (wayB l d o)
theorem free_yes {l : List OpV} {d : List Bool} {o : OpV} (h : ∀ j, j < l.length → wayB l d o j = true) : freeB l d o = true := by
  unfold freeB
  rw [List.all_eq_true]
  exact fun j hj => h j (List.mem_range.1 hj)
theorem free_no {l : List OpV} {d : List Bool} {o : OpV} {k : Nat} (hk : k < l.length) (h : wayB l d o k = false) : freeB l d o = false := by
  unfold freeB
  rw [List.all_eq_false]
  exact ⟨k, List.mem_range.2 hk, by rw [h]; decide⟩
attribute [local go_sem ↓ high] load_op store_o
set_option maxHeartbeats 4000000 in
theorem rmay_any {vo vd : Value} {l : List OpV} {d : List Bool} {i : Nat} {o : OpV} {w : World} (hO : OpsOf w vo l) (hD : Rd w vd 1 d.length (d.map Value.bool)) (hl : d.length = l.length) (hs : l.length ≤ 100000) (hi : l[i]? = some o) :
    Calls Try.prog 36 #[vo, vd, .int .i64 (i : Int)] w fun e w' => e = .returned (.bool (!(d[i]?).getD false && freeB l d o)) ∧ Below w.heap.size w w' := by
  have hil := (List.getElem?_eq_some_iff.1 hi).1
  obtain ⟨ao, co, rfl⟩ := hO.len
  obtain ⟨ad, cd, rfl⟩ := hD.len
  obtain ⟨ci, hci⟩ : ∃ c, d[i]? = some c := ⟨_, List.getElem?_eq_getElem (by omega)⟩
  obtain ⟨b, p, cap, hv, _, _, hcc⟩ := OpsOf.at hO hi
  obtain ⟨b2, p2, cap2, hv2, _, y0⟩ := bool_at hD hci
  obtain rfl : ao = some ⟨b, p, none⟩ := by cases hv; rfl
  obtain rfl : ad = some ⟨b2, p2, none⟩ := by cases hv2; rfl
  have q4i : (0 : Int) ≤ (i : Int) := by omega
  have q2i : (i : Int) < (l.length : Int) := by omega
  have q2ib : (i : Int) < (d.length : Int) := by omega
  have HO := Lib.hid hO
  have HD := Lib.hid hD
  have HL := Lib.hid hl
  have HI := Lib.hid hi
  clear hO hD hl hi hv hv2 hcc
  cases ci with
  | true =>
    have HE := Lib.hid (show (!(d[i]?).getD false && freeB l d o) = false by rw [hci]; rfl)
    clear hci
    go_enter Try.func36, Try.ntmps36
    go_wp2_with fail
    go_returns
    exact ⟨by rw [HE.out]; rfl, Below.refl _ _⟩
  | false =>
    have HE := Lib.hid (show (!(d[i]?).getD false && freeB l d o) = freeB l d o by rw [hci]; rfl)
    clear hci
    go_enter Try.func36, Try.ntmps36
    go_wp2_with fail
    clear y0
    go_loopw [7] (fun s7 wr => ∃ k : Nat, s7 = .int .i64 k ∧ k ≤ l.length ∧ Hid ((∀ j, j < k → wayB l d o j = true) ∧ Below w.heap.size w wr)) (fun s7 _ => l.length - (intOf s7).toNat)
    case atStart => exact ⟨0, rfl, Nat.zero_le _, Lib.hid ⟨fun j hj => absurd hj (by omega), Below.refl _ _⟩⟩
    case round =>
      obtain ⟨k, rfl, hk, HR⟩ := hrel
      by_cases hkl : k < l.length
      · obtain ⟨x, hx⟩ : ∃ x, l[k]? = some x := ⟨_, List.getElem?_eq_getElem hkl⟩
        obtain ⟨c, hc⟩ : ∃ c, d[k]? = some c := ⟨_, List.getElem?_eq_getElem (by have := HL.out; omega)⟩
        have q2 : (k : Int) < (l.length : Int) := by omega
        have q2b : (k : Int) < (d.length : Int) := by have := HL.out; omega
        have q3 : IntKind.i64.wrap ((k : Int) + 1) = (k : Int) + 1 := IntWalk.i64_in _ (by omega)
        have q4 : (0 : Int) ≤ (k : Int) := by omega
        have HF := Lib.hid (show wayB l d o k = (c || !befB x o) by unfold wayB; rw [hx, hc]; rfl)
        have HK := Lib.hid hkl
        have hS : ∀ W, Below w.heap.size w W → W.cell? ⟨b2, p2 + k, none⟩ = some (.bool c) ∧ (loadS 77 (.pointer (some ⟨b, p + k * 11, none⟩))).run Try.prog W = .ok (Value.agg #[Value.int .i64 x.id, Value.int .i64 x.proc, Value.int .i64 x.obj, Value.int .i64 x.kind, Value.int .i64 x.meth, Value.int .i64 x.arg, Value.int .i64 x.sec, Value.bool x.done, Value.int .i64 x.res, Value.int .i64 x.inv, Value.int .i64 x.ret]) W ∧ (loadS 77 (.pointer (some ⟨b, p + i * 11, none⟩))).run Try.prog W = .ok (Value.agg #[Value.int .i64 o.id, Value.int .i64 o.proc, Value.int .i64 o.obj, Value.int .i64 o.kind, Value.int .i64 o.meth, Value.int .i64 o.arg, Value.int .i64 o.sec, Value.bool o.done, Value.int .i64 o.res, Value.int .i64 o.inv, Value.int .i64 o.ret]) W := fun W hb => by
          obtain ⟨b', p', cap', hv', _, _, hcc'⟩ := OpsOf.at (HO.out.on hb) hx
          obtain ⟨b3, p3, cap3, hv3, _, _, hcc3⟩ := OpsOf.at (HO.out.on hb) HI.out
          obtain ⟨b4, p4, cap4, hv4, _, y4⟩ := bool_at (HD.out.on hb) hc
          cases hv'
          cases hv3
          cases hv4
          exact ⟨y4, load_cellsO (p := p + k * 11) hcc', load_cellsO (p := p + i * 11) hcc3⟩
        have HS := Lib.hid hS
        have hb0 : Below w.heap.size w wr.drew := HR.out.2.drew
        obtain ⟨k0, k1, k2⟩ := HS.out _ hb0
        clear hS hx hc hk hkl
        cases c with
        | true =>
          have HN := Lib.hid (show (∀ j, j < k + 1 → wayB l d o j = true) ∧ Below w.heap.size w wr.drew from ⟨fun j hj => by
            by_cases e : j = k
            · subst e; rw [HF.out]; rfl
            · exact HR.out.1 j (by omega), HR.out.2.drew⟩)
          go_wp2_with fail
          go_region
          go_wp2_with fail
          go_roundw
          case measure => have := HK.out; simp [intOf] <;> omega
          case rel => exact ⟨k + 1, by simp, by have := HK.out; omega, HN⟩
        | false =>
          cases hbf : befB x o with
          | false =>
            have HF2 := Lib.hid (show wayB l d o k = true by rw [HF.out, hbf]; rfl)
            have HBF := Lib.hid hbf
            clear hbf
            go_wp2_with fail
            go_region_held3 (fun w' => w'.cell? ⟨b2, p2 + k, none⟩ = some (.bool false) ∧ (loadS 77 (.pointer (some ⟨b, p + k * 11, none⟩))).run Try.prog w' = .ok (Value.agg #[Value.int .i64 x.id, Value.int .i64 x.proc, Value.int .i64 x.obj, Value.int .i64 x.kind, Value.int .i64 x.meth, Value.int .i64 x.arg, Value.int .i64 x.sec, Value.bool x.done, Value.int .i64 x.res, Value.int .i64 x.inv, Value.int .i64 x.ret]) w' ∧ (loadS 77 (.pointer (some ⟨b, p + i * 11, none⟩))).run Try.prog w' = .ok (Value.agg #[Value.int .i64 o.id, Value.int .i64 o.proc, Value.int .i64 o.obj, Value.int .i64 o.kind, Value.int .i64 o.meth, Value.int .i64 o.arg, Value.int .i64 o.sec, Value.bool o.done, Value.int .i64 o.res, Value.int .i64 o.inv, Value.int .i64 o.ret]) w') (first | (exact HS.out _ (by assumption)) | go_keep) (first | (go_at_call 41; (with_reducible refine (rbefore_any _ _ _).mono ?_); rintro _ w3 ⟨rfl, hb3⟩; rw [HBF.out]; have hb33 := hb0.on hb3) | fail)
            have HN := Lib.hid (show (∀ j, j < k + 1 → wayB l d o j = true) ∧ Below w.heap.size w w3 from ⟨fun j hj => by
              by_cases e : j = k
              · subst e; exact HF2.out
              · exact HR.out.1 j (by omega), hb33⟩)
            go_wp2_with fail
            go_roundw
            case measure => have := HK.out; simp [intOf] <;> omega
            case rel => exact ⟨k + 1, by simp, by have := HK.out; omega, HN⟩
          | true =>
            have HNO := Lib.hid (free_no HK.out (by rw [HF.out, hbf]; rfl))
            have HBF := Lib.hid hbf
            clear hbf
            go_wp2_with fail
            go_region_held3 (fun w' => w'.cell? ⟨b2, p2 + k, none⟩ = some (.bool false) ∧ (loadS 77 (.pointer (some ⟨b, p + k * 11, none⟩))).run Try.prog w' = .ok (Value.agg #[Value.int .i64 x.id, Value.int .i64 x.proc, Value.int .i64 x.obj, Value.int .i64 x.kind, Value.int .i64 x.meth, Value.int .i64 x.arg, Value.int .i64 x.sec, Value.bool x.done, Value.int .i64 x.res, Value.int .i64 x.inv, Value.int .i64 x.ret]) w' ∧ (loadS 77 (.pointer (some ⟨b, p + i * 11, none⟩))).run Try.prog w' = .ok (Value.agg #[Value.int .i64 o.id, Value.int .i64 o.proc, Value.int .i64 o.obj, Value.int .i64 o.kind, Value.int .i64 o.meth, Value.int .i64 o.arg, Value.int .i64 o.sec, Value.bool o.done, Value.int .i64 o.res, Value.int .i64 o.inv, Value.int .i64 o.ret]) w') (first | (exact HS.out _ (by assumption)) | go_keep) (first | (go_at_call 41; (with_reducible refine (rbefore_any _ _ _).mono ?_); rintro _ w3 ⟨rfl, hb3⟩; rw [HBF.out]; have hb33 := hb0.on hb3) | fail)
            go_wp2_with fail
            go_returns
            exact ⟨by rw [HE.out, HNO.out]; rfl, hb33⟩
      · obtain rfl : k = l.length := by omega
        have q1 : ¬ ((l.length : Int) < (l.length : Int)) := by omega
        have HY := Lib.hid (free_yes HR.out.1)
        go_wp2_with fail
        go_returns
        exact ⟨by rw [HE.out, HY.out]; rfl, HR.out.2⟩
end Ln
end Go.Proofs.Ytpooekmogfkkjaa
