/- Package order: operations by their numbers, in a map; firsts. Package model: Runs. -/
import Derived.Test.YtppjmmdiglnkfaaQbl
import Derived.Maps.Range
import Derived.Maps.RangeWalk
import Derived.Test.YtppjmmdiglnkfaaQar
namespace Go.Proofs.Ytppjmmdiglnkfaa
set_option maxRecDepth 100000
open Go.ChangeShapes Go.WideShapes Go.ChangeAt Go.RowKit Go.PlainAid Go.Deep Go.ChangeMaps Go.MapKept
open Go.WideElems (rd rg pl)
namespace Lm
variable {α β : Type}
open Classical in
noncomputable def del (G : α → Option β) (a : α) : α → Option β := fun i => if i = a then none else G i
theorem del_same (G : α → Option β) (a : α) : del G a a = none := by simp [del]
theorem del_other (G : α → Option β) (a : α) {i : α} (h : i ≠ a) : del G a i = G i := by simp [del, h]
theorem At.drop {T : Ty α β} (hg : Good T) {w : World} {m n : Nat} {G : α → Option β} (h : At T w m n G) (a : α) (ha : T.ok a) (ty : TypeId) :
    ∃ w', (Builtin.delete_ #[T.mt, T.kt] ty #[.map (some m), T.kv a]).run Try.prog w = .ok (.tuple #[]) w' ∧ At T w' m n (Lm.del G a) ∧ Keeps (fun k => k = m) w w' := by
  obtain ⟨es, c, hb, hi⟩ := h
  obtain ⟨l, hl⟩ := hg.key a ha
  obtain ⟨es', hrun, F', hsz, hput, _⟩ := Maps.fit_drop (R := R T) hg.keyed hg.mtOf hb hi.fit hl (ty := ty)
  have hD : Dm T es' = (Dm T es).del l := by unfold Dm; rw [hput]; rfl
  have hne : ∀ i k, keyOf Try.prog T.kt (T.kv i) = some k → i ≠ a → k ≠ l := fun i k hk hi e => hi (hg.kinj _ _ (hg.keyed.inj hk (e ▸ hl)))
  refine ⟨_, hrun, ⟨es', c, heap_setBlock_same hb _, F', Nat.le_trans hsz hi.size, fun i k hk => ?_, fun i b k hk hib => ?_⟩, keeps_set _ hb⟩
  · rw [hD]
    by_cases e : i = a
    · subst e
      obtain rfl : k = l := Option.some.inj (hk.symm.trans hl)
      rw [Maps.has_del_same, del_same]; rfl
    · rw [Maps.has_del_other (hne i k hk e), hi.has i k hk, del_other _ _ e]
  · rw [hD]
    by_cases e : i = a
    · subst e
      rw [del_same] at hib; cases hib
    · rw [del_other _ _ e] at hib
      exact fun zd => by rw [Maps.atKey_del_other (hne i k hk e), hi.get i b k hk hib]
end Lm
namespace Od
open Ln Cu
attribute [local go_sem ↓ high] load_op
def opD (o : OpV) : DataW Unit := .agg [.lit (.int .i64 o.id), .lit (.int .i64 o.proc), .lit (.int .i64 o.obj), .lit (.int .i64 o.kind), .lit (.int .i64 o.meth), .lit (.int .i64 o.arg), .lit (.int .i64 o.sec), .lit (.bool o.done), .lit (.int .i64 o.res), .lit (.int .i64 o.inv), .lit (.int .i64 o.ret)]
theorem opD_inj {a b : OpV} (h : opD a = opD b) : a = b := by
  cases a; cases b
  simpa [opD] using h
theorem opE_inj {a b : OpV} (h : (Value.agg #[Value.int .i64 a.id, Value.int .i64 a.proc, Value.int .i64 a.obj, Value.int .i64 a.kind, Value.int .i64 a.meth, Value.int .i64 a.arg, Value.int .i64 a.sec, Value.bool a.done, Value.int .i64 a.res, Value.int .i64 a.inv, Value.int .i64 a.ret]) = (Value.agg #[Value.int .i64 b.id, Value.int .i64 b.proc, Value.int .i64 b.obj, Value.int .i64 b.kind, Value.int .i64 b.meth, Value.int .i64 b.arg, Value.int .i64 b.sec, Value.bool b.done, Value.int .i64 b.res, Value.int .i64 b.inv, Value.int .i64 b.ret])) : a = b := by
  cases a; cases b
  simpa using h
def tOp : Lm.Ty Int OpV := ⟨3, 43, 90, Value.agg #[Value.int .i64 0, Value.int .i64 0, Value.int .i64 0, Value.int .i64 0, Value.int .i64 0, Value.int .i64 0, Value.int .i64 0, Value.bool false, Value.int .i64 0, Value.int .i64 0, Value.int .i64 0], fun k => .int .i64 k, fun o => Value.agg #[Value.int .i64 o.id, Value.int .i64 o.proc, Value.int .i64 o.obj, Value.int .i64 o.kind, Value.int .i64 o.meth, Value.int .i64 o.arg, Value.int .i64 o.sec, Value.bool o.done, Value.int .i64 o.res, Value.int .i64 o.inv, Value.int .i64 o.ret], opD, fun k => -9223372036854775808 ≤ k ∧ k ≤ 9223372036854775807⟩
theorem tOp_good : Lm.Good tOp where
  keyed := Maps.int_keyed Try.underlying3
  mtOf := Try.underlying90
  z := fun w => (by kernel_rfl : (zeroValue 43).run Try.prog w = .ok (Value.agg #[Value.int .i64 0, Value.int .i64 0, Value.int .i64 0, Value.int .i64 0, Value.int .i64 0, Value.int .i64 0, Value.int .i64 0, Value.bool false, Value.int .i64 0, Value.int .i64 0, Value.int .i64 0]) w)
  key := fun a ha => ⟨_, Maps.keyOf_int_mk Try.underlying3 (WalkArith.wf_i64 ha)⟩
  kinj := fun a b h => (Value.int.inj h).2
  einj := fun a b h => opE_inj h
  cinj := fun a b h => opD_inj h
theorem tOp_none {es : Array MapEntry} {clock n : Nat} {G : Int → Option OpV} (h : Lm.Is tOp es clock n G) (hn : ∀ k, G k = none) : es = #[] := by
  refine Classical.byContradiction fun hne => ?_
  obtain ⟨x, hx⟩ : ∃ x, x ∈ es.toList := by
    cases he : es.toList with
    | nil => exact absurd (Array.toList_eq_nil_iff.1 he) hne
    | cons x r => exact ⟨x, List.mem_cons_self⟩
  obtain ⟨y, hy⟩ := h.fit.reads x hx
  have hk := WideElems.rd_key hy
  obtain ⟨a, he, hl, _⟩ := Maps.keyOf_int_inv Try.underlying3 hk
  have h1 := h.has a y.1 (by rw [he] at hk; exact hk)
  rw [hn a] at h1
  have h2 : Maps.has (Lm.Dm tOp es) (rg Try.prog tOp.kt (Lm.R tOp) x).1 = true :=
    List.any_eq_true.2 ⟨rg Try.prog tOp.kt (Lm.R tOp) x, mem_sorted.2 (List.mem_map.2 ⟨x, hx, rfl⟩), WideAt.sameKey_self (by rw [WideElems.rg_of hy]; exact tOp_good.keyed.key hk)⟩
  rw [WideElems.rg_of hy] at h2
  rw [h2] at h1
  cases h1
/-- The first operation of a number. -/
def firstO (L : List OpV) (k : Int) : Option OpV := L.find? fun o => decide (o.id = k)
theorem first_snoc (L : List OpV) (o : OpV) (k : Int) : firstO (L ++ [o]) k = if (firstO L o.id).isSome = true then firstO L k else (if k = o.id then some o else firstO L k) := by
  unfold firstO
  rw [List.find?_append]
  by_cases hk : o.id = k
  · subst hk
    cases h : L.find? (fun x => decide (x.id = o.id)) <;> simp
  · have hk2 : ¬ k = o.id := fun e => hk e.symm
    simp only [List.find?_cons, List.find?_nil, hk, decide_false, hk2, if_false, ite_self]
    cases L.find? (fun x => decide (x.id = k)) <;> rfl
theorem make_mapI (w : World) : (Instr.makeMap 90 none).run Try.prog w = .ok (.map (some w.heap.size)) (w.alloc (.map #[] 0)) := by
  simp [Instr.makeMap, Result.andThen]
attribute [local go_sem ↓ high] store_o
/-- What firsts has in memory. -/
structure FsI (w : World) (L : List OpV) (i : Nat) (wr : World) : Prop where
  bel : Below w.heap.size w wr
  mp : ∃ G, Lm.At tOp wr w.heap.size i G ∧ ∀ k, G k = firstO (L.take i) k
set_option maxHeartbeats 4000000 in
theorem firsts_any {v : Value} {L : List OpV} {w : World} (h : OpsOf w v L) (hl : L.length ≤ 1000) : Calls Try.prog 48 #[v] w fun e w' => e = .returned (.map (some w.heap.size)) ∧ FsI w L L.length w' := by
  obtain ⟨al, cl, rfl⟩ := h.len
  have hb0 : Below w.heap.size w (w.alloc (.map #[] 0)) := by go_grown
  have HI0 := Lib.hid (show FsI w L 0 (w.alloc (.map #[] 0)) from ⟨hb0, fun _ => none, ⟨#[], 0, heap_alloc_new w _, Lm.empty tOp 0 0⟩, fun k => by simp [firstO]⟩)
  have H := Lib.hid h
  have mk := fun W => make_mapI W
  clear h hb0
  go_enter Try.func48, Try.ntmps48
  go_wp2_with fail
  go_loopw [11] (fun s11 wr => ∃ i : Nat, s11 = .int .i64 i ∧ i ≤ L.length ∧ Hid (FsI w L i wr)) (fun s11 _ => L.length - (intOf s11).toNat)
  case atStart => exact ⟨0, rfl, Nat.zero_le _, HI0⟩
  case round =>
    clear HI0 mk
    obtain ⟨i, rfl, hi, HI⟩ := hrel
    rename World => wq
    by_cases hil : i < L.length
    · have q1 : (i : Int) < (L.length : Int) := by omega
      have q2 : IntKind.i64.wrap ((i : Int) + 1) = (i : Int) + 1 := IntWalk.i64_in _ (by omega)
      have q3 : (0 : Int) ≤ i := by omega
      obtain ⟨o, hok⟩ : ∃ o, L[i]? = some o := ⟨_, List.getElem?_eq_getElem hil⟩
      obtain ⟨b, p, cap, hv, hblt, hwf, hc⟩ := OpsOf.at (H.out.on HI.out.bel) hok
      obtain rfl : al = some ⟨b, p, none⟩ := by cases hv; rfl
      have l1 := load_cellsO (p := p + i * 11) hc
      have st := store_op_new wq (#[Value.int .i64 0, Value.int .i64 0, Value.int .i64 0, Value.int .i64 0, Value.int .i64 0, Value.int .i64 0, Value.int .i64 0, Value.bool false, Value.int .i64 0, Value.int .i64 0, Value.int .i64 0]) rfl o
      have hbw : Below wq.heap.size wq (wq.alloc (.cells #[Value.int .i64 o.id, Value.int .i64 o.proc, Value.int .i64 o.obj, Value.int .i64 o.kind, Value.int .i64 o.meth, Value.int .i64 o.arg, Value.int .i64 o.sec, Value.bool o.done, Value.int .i64 o.res, Value.int .i64 o.inv, Value.int .i64 o.ret] 43)) := by go_grown
      have hop := OpAt.box wq o
      obtain ⟨W1, hW1⟩ : ∃ W, wq.alloc (.cells #[Value.int .i64 o.id, Value.int .i64 o.proc, Value.int .i64 o.obj, Value.int .i64 o.kind, Value.int .i64 o.meth, Value.int .i64 o.arg, Value.int .i64 o.sec, Value.bool o.done, Value.int .i64 o.res, Value.int .i64 o.inv, Value.int .i64 o.ret] 43) = W := ⟨_, rfl⟩
      rw [hW1] at hop st hbw
      obtain ⟨G, hG, hGo⟩ := HI.out.mp
      have hG1 := hG.on hbw
      have hid := hwf.id
      have lk := hG1.look tOp_good o.id hid true
      have k0 := hop.cell.1
      have HT := Lib.hid (show L.take (i + 1) = L.take i ++ [o] from by rw [List.take_add_one, hok]; rfl)
      have HBE := Lib.hid (HI.out.bel.on hbw)
      have HGO := Lib.hid hGo
      have HI1 := Lib.hid hG1
      have HOP := Lib.hid hop
      clear hv hblt hc hbw hG hG1 hGo hop
      cases hgo : G o.id with
      | some x =>
        rw [hgo] at lk
        simp only [if_true] at lk
        have st2 := store_op_new W1 (#[Value.int .i64 0, Value.int .i64 0, Value.int .i64 0, Value.int .i64 0, Value.int .i64 0, Value.int .i64 0, Value.int .i64 0, Value.bool false, Value.int .i64 0, Value.int .i64 0, Value.int .i64 0]) rfl x
        have hb2 : Below W1.heap.size W1 (W1.alloc (.cells #[Value.int .i64 x.id, Value.int .i64 x.proc, Value.int .i64 x.obj, Value.int .i64 x.kind, Value.int .i64 x.meth, Value.int .i64 x.arg, Value.int .i64 x.sec, Value.bool x.done, Value.int .i64 x.res, Value.int .i64 x.inv, Value.int .i64 x.ret] 43)) := by go_grown
        have HN := Lib.hid (show FsI w L (i + 1) (W1.alloc (.cells #[Value.int .i64 x.id, Value.int .i64 x.proc, Value.int .i64 x.obj, Value.int .i64 x.kind, Value.int .i64 x.meth, Value.int .i64 x.arg, Value.int .i64 x.sec, Value.bool x.done, Value.int .i64 x.res, Value.int .i64 x.inv, Value.int .i64 x.ret] 43)) from ⟨HBE.out.on hb2, G, (HI1.out.on hb2).more (Nat.le_succ i), fun k => by
          rw [HT.out, first_snoc, ← HGO.out o.id, hgo]
          exact HGO.out k⟩)
        have lk2 : (Instr.lookup 90 (.map (some w.heap.size)) (.int .i64 o.id) true).run Try.prog W1 = .ok (.tuple #[Value.agg #[Value.int .i64 x.id, Value.int .i64 x.proc, Value.int .i64 x.obj, Value.int .i64 x.kind, Value.int .i64 x.meth, Value.int .i64 x.arg, Value.int .i64 x.sec, Value.bool x.done, Value.int .i64 x.res, Value.int .i64 x.inv, Value.int .i64 x.ret], .bool true]) W1 := lk
        clear lk hb2 hgo
        go_wp2_with fail
        go_roundw
        case measure => simp [intOf] <;> omega
        case rel => exact ⟨i + 1, by simp, by omega, HN⟩
      | none =>
        rw [hgo] at lk
        simp only [if_true] at lk
        have st2 := store_op_new W1 (#[Value.int .i64 0, Value.int .i64 0, Value.int .i64 0, Value.int .i64 0, Value.int .i64 0, Value.int .i64 0, Value.int .i64 0, Value.bool false, Value.int .i64 0, Value.int .i64 0, Value.int .i64 0]) rfl zeroV
        have hb2 : Below W1.heap.size W1 (W1.alloc (.cells #[Value.int .i64 zeroV.id, Value.int .i64 zeroV.proc, Value.int .i64 zeroV.obj, Value.int .i64 zeroV.kind, Value.int .i64 zeroV.meth, Value.int .i64 zeroV.arg, Value.int .i64 zeroV.sec, Value.bool zeroV.done, Value.int .i64 zeroV.res, Value.int .i64 zeroV.inv, Value.int .i64 zeroV.ret] 43)) := by go_grown
        have lk2 : (Instr.lookup 90 (.map (some w.heap.size)) (.int .i64 o.id) true).run Try.prog W1 = .ok (.tuple #[Value.agg #[Value.int .i64 zeroV.id, Value.int .i64 zeroV.proc, Value.int .i64 zeroV.obj, Value.int .i64 zeroV.kind, Value.int .i64 zeroV.meth, Value.int .i64 zeroV.arg, Value.int .i64 zeroV.sec, Value.bool zeroV.done, Value.int .i64 zeroV.res, Value.int .i64 zeroV.inv, Value.int .i64 zeroV.ret], .bool false]) W1 := lk
        have hop2 := HOP.out.on hb2
        have hG2 := HI1.out.on hb2
        have hbe2 := HBE.out.on hb2
        obtain ⟨W2, hW2⟩ : ∃ W, W1.alloc (.cells #[Value.int .i64 zeroV.id, Value.int .i64 zeroV.proc, Value.int .i64 zeroV.obj, Value.int .i64 zeroV.kind, Value.int .i64 zeroV.meth, Value.int .i64 zeroV.arg, Value.int .i64 zeroV.sec, Value.bool zeroV.done, Value.int .i64 zeroV.res, Value.int .i64 zeroV.inv, Value.int .i64 zeroV.ret] 43) = W := ⟨_, rfl⟩
        have hW3 : W1.alloc (.cells #[Value.int .i64 0, Value.int .i64 0, Value.int .i64 0, Value.int .i64 0, Value.int .i64 0, Value.int .i64 0, Value.int .i64 0, Value.bool false, Value.int .i64 0, Value.int .i64 0, Value.int .i64 0] 43) = W2 := hW2
        rw [hW2] at hop2 hG2 hbe2 st2
        rw [hW3] at st2
        have l2 := hop2.load
        have k2 := hop2.cell.1
        obtain ⟨w', hr, hG3, hk3⟩ := hG2.put tOp_good (by omega) o.id hid o
        have hr2 : (Instr.mapUpdate 90 (.map (some w.heap.size)) (.int .i64 o.id) (Value.agg #[Value.int .i64 o.id, Value.int .i64 o.proc, Value.int .i64 o.obj, Value.int .i64 o.kind, Value.int .i64 o.meth, Value.int .i64 o.arg, Value.int .i64 o.sec, Value.bool o.done, Value.int .i64 o.res, Value.int .i64 o.inv, Value.int .i64 o.ret])).run Try.prog W2 = .ok () w' := hr
        have HN := Lib.hid (show FsI w L (i + 1) w' from ⟨hbe2.trans (hk3.below (fun g e => by omega) hbe2.size), _, hG3, fun k => by
          rw [HT.out, first_snoc, ← HGO.out o.id, hgo]
          by_cases e : k = o.id
          · subst e
            rw [Lm.put_same]
            simp
          · rw [Lm.put_other _ _ _ e]
            simp only [Option.isSome_none, Bool.false_eq_true, if_false, e]
            exact HGO.out k⟩)
        clear lk hb2 hgo hr hG2 hG3 hk3 hop2 hbe2
        go_wp2_with fail
        go_roundw
        case measure => simp [intOf] <;> omega
        case rel => exact ⟨i + 1, by simp, by omega, HN⟩
    · obtain rfl : i = L.length := by omega
      have q1 : ¬ ((L.length : Int) < (L.length : Int)) := by omega
      go_wp2_with fail
      go_returns
      exact ⟨rfl, HI.out⟩
end Od
end Go.Proofs.Ytppjmmdiglnkfaa
namespace Go.Proofs.Ytppjmmdiglnkfaa
set_option maxRecDepth 100000
open Go.ChangeShapes Go.WideShapes Go.ChangeAt Go.RowKit Go.PlainAid Go.Deep
attribute [local go_sem ↓ high] load_op
attribute [local go_sem ↓ high] store_o
set_option maxHeartbeats 4000000 in
theorem runs_any {v vl : Value} {L : List Int} {l : List OpV} {w : World} (h : IntsOf w v L) (hl : OpsOf w vl l) (hs : L.length + l.length ≤ 17592186044414) : Calls Try.prog 49 #[v, vl] w fun e w' => ∃ v', e = .returned (.tuple #[v', .bool (runsC l L).2]) ∧ OwnI w.heap.size w' v' (runsC l L).1 ∧ Below w.heap.size w w' := by
  obtain ⟨al, cl, rfl⟩ := hl.len
  have HL := Lib.hid hl
  have HS := Lib.hid hs
  have H := Lib.hid h
  clear hl hs h
  go_enter Try.func49, Try.ntmps49
  go_wp2_with fail
  refine (clonei_any v L _ H.out (by have := HS.out; omega)).mono ?_
  rintro _ w1 ⟨v1, rfl, ho1, hb1⟩
  have HO1 := Lib.hid ho1
  have HB1 := Lib.hid hb1
  clear ho1 hb1
  go_wp2_with fail
  go_loopw [6, 15] (fun s6 s15 wr => ∃ (k : Nat) (L' : List Int), s15 = .int .i64 k ∧ k ≤ l.length ∧ Hid (OwnI w.heap.size wr s6 L' ∧ runsC (l.drop k) L' = runsC l L ∧ L'.length ≤ L.length + k ∧ Below w.heap.size w wr)) (fun _ s15 _ => l.length - (intOf s15).toNat)
  case atStart => exact ⟨0, L, rfl, Nat.zero_le _, Lib.hid ⟨HO1.out, rfl, Nat.le_refl _, HB1.out⟩⟩
  case round =>
    obtain ⟨k, L', rfl, hk, HR⟩ := hrel
    by_cases hkl : k < l.length
    · have q1 : decide ((k : Int) < (l.length : Int)) = true := decide_eq_true (by omega)
      have q2 : (k : Int) < (l.length : Int) := by omega
      have q3 : IntKind.i64.wrap ((k : Int) + 1) = (k : Int) + 1 := IntWalk.i64_in _ (by have := HS.out; omega)
      have hg : l[k]? = some l[k] := List.getElem?_eq_getElem hkl
      obtain ⟨o, ho⟩ : ∃ o, l[k] = o := ⟨_, rfl⟩
      rw [ho] at hg
      have HG := Lib.hid hg
      obtain ⟨b, p, cap, hv, hlt, hwf, hc⟩ := OpsOf.at (HL.out.on HR.out.2.2.2) hg
      have e1 : al = some ⟨b, p, none⟩ := by cases hv; rfl
      subst e1
      have l1 := load_cells (p := p + k * 11) hc
      have s1 := store_op_new wr (#[Value.int .i64 0, Value.int .i64 0, Value.int .i64 0, Value.int .i64 0, Value.int .i64 0, Value.int .i64 0, Value.int .i64 0, Value.bool false, Value.int .i64 0, Value.int .i64 0, Value.int .i64 0]) rfl o
      have HK := Lib.hid hkl
      have HW := Lib.hid hwf
      obtain ⟨W2, hW2⟩ : ∃ W2, wr.alloc (.cells #[Value.int .i64 o.id, Value.int .i64 o.proc, Value.int .i64 o.obj, Value.int .i64 o.kind, Value.int .i64 o.meth, Value.int .i64 o.arg, Value.int .i64 o.sec, Value.bool o.done, Value.int .i64 o.res, Value.int .i64 o.inv, Value.int .i64 o.ret] 43) = W2 := ⟨_, rfl⟩
      have hb2 : Below wr.heap.size wr W2 := by rw [← hW2]; go_grown
      have l2 : (loadS 43 (.pointer (some ⟨wr.heap.size, 0, none⟩))).run Try.prog W2 = .ok (Value.agg #[Value.int .i64 o.id, Value.int .i64 o.proc, Value.int .i64 o.obj, Value.int .i64 o.kind, Value.int .i64 o.meth, Value.int .i64 o.arg, Value.int .i64 o.sec, Value.bool o.done, Value.int .i64 o.res, Value.int .i64 o.inv, Value.int .i64 o.ret]) W2 := by rw [← hW2]; exact (OpAt.box wr o).load
      have HB2 := Lib.hid hb2
      rw [hW2] at s1
      have HO2 := Lib.hid (HR.out.1.on hb2)
      rcases hA : stepC o L' with ⟨L2, bb⟩
      have HA := Lib.hid hA
      clear hA hb2 hv hc hwf hg hk hkl hlt ho hW2
      go_wp2_with fail
      refine (step_any o HW.out HO2.out (Nat.le_trans HR.out.2.2.2.size HB2.out.size) (by have := HR.out.2.2.1; have := HS.out; have := HK.out; omega)).mono ?_
      rintro _ w3 ⟨v3, rfl, ho3, hm3⟩
      rw [HA.out] at ho3 ⊢
      have HO3 := Lib.hid ho3
      have HB3 := Lib.hid ((HR.out.2.2.2.on HB2.out).trans (hm3.below HO2.out (Nat.le_trans HR.out.2.2.2.size HB2.out.size)))
      clear ho3 hm3
      cases bb
      · have HX := Lib.hid (show runsC l L = ([], false) by rw [← HR.out.2.1, drop_get HG.out]; exact runsC_no HA.out)
        go_wp2_with fail
        go_returns
        exact ⟨_, by rw [HX.out]; rfl, by rw [HX.out]; exact OwnI.nil _ _ none, HB3.out⟩
      · have HX := Lib.hid (show runsC (l.drop (k + 1)) L2 = runsC l L by rw [← HR.out.2.1, drop_get HG.out]; exact (runsC_yes HA.out).symm)
        go_wp2_with fail
        go_roundw
        case measure => have := HK.out; simp [intOf]; omega
        case rel => exact ⟨k + 1, L2, by simp, HK.out, Lib.hid ⟨HO3.out, HX.out, by have := stepC_len o L'; rw [HA.out] at this; have := HR.out.2.2.1; simp at *; omega, HB3.out⟩⟩
    · have q1 : decide ((k : Int) < (l.length : Int)) = false := decide_eq_false (by omega)
      have q2 : ((k : Int) < (l.length : Int)) = False := eq_false (by omega)
      have HX := Lib.hid (show runsC l L = (L', true) by rw [← HR.out.2.1, List.drop_eq_nil_of_le (by omega)]; rfl)
      clear hk hkl
      go_wp2_with fail
      go_returns
      exact ⟨_, by rw [HX.out]; rfl, by rw [HX.out]; exact HR.out.1, HR.out.2.2.2⟩
end Go.Proofs.Ytppjmmdiglnkfaa
