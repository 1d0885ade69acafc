/- Package hist: Get; the reference's Get; the same lists (the reference's Ops). -/
import Derived.Test.YtgedlfilhpbfaaaHtB
namespace Go.Proofs.Ytgedlfilhpbfaaa
set_option maxRecDepth 100000
open Go.ChangeShapes Go.WideShapes Go.ChangeAt Go.RowKit Go.PlainAid Go.Deep

attribute [local go_sem ↓ high] load_op store_o
/-- A box of the call's own, stored into. -/
theorem put_box {B : Nat} {w W : World} {b : Nat} {o : OpV} (h : OpAt W b o) (hb : B ≤ b) (hB : Below B w W) (hw : B ≤ w.heap.size) (x : OpV) :
    ∃ W5, (storeS 35 (.pointer (some ⟨b, 0, none⟩)) (Value.agg #[Value.int .i64 x.id, Value.int .i64 x.proc, Value.int .i64 x.obj, Value.int .i64 x.kind, Value.int .i64 x.meth, Value.int .i64 x.arg, Value.int .i64 x.sec, Value.bool x.done, Value.int .i64 x.res, Value.int .i64 x.inv, Value.int .i64 x.ret])).run Try.prog W = .ok () W5 ∧ OpAt W5 b x ∧ Below B w W5 ∧ (∀ k, k ≠ b → W5.heap[k]? = W.heap[k]?) ∧ W5.heap.size = W.heap.size :=
  ⟨_, store_op h rfl x, setRow_heap _ _ _ _ _ _ h, hB.trans (Keeps.below (Keeps.setRow (own := fun j => j = b) (Keeps.refl _ _) (.inl rfl) _) (fun i e => by rw [show i = b from e]; exact hb) (Nat.le_trans hw hB.size)), fun k hk => setRow_other _ _ _ _ hk, by simp⟩
theorem cells11 {w : World} {b : Nat} {o : OpV} (h : OpAt w b o) : ∀ i, w.cell? ⟨b, i, none⟩ = (#[Value.int .i64 o.id, Value.int .i64 o.proc, Value.int .i64 o.obj, Value.int .i64 o.kind, Value.int .i64 o.meth, Value.int .i64 o.arg, Value.int .i64 o.sec, Value.bool o.done, Value.int .i64 o.res, Value.int .i64 o.inv, Value.int .i64 o.ret])[i]? := fun _ => cell_of_row _ _ _ _ _ _ h
theorem get_snoc {l : List OpV} {k : Nat} {x : Int} {o : OpV} (h : ∀ (t : Nat) (a : OpV), t < k → l[t]? = some a → a.id ≠ x) (hk : l[k]? = some o) (e : o.id = x) : Hs.getL HL l x = some o := by
  obtain ⟨hk', rfl⟩ := List.getElem?_eq_some_iff.1 hk
  unfold Hs.getL
  rw [List.find?_eq_some_iff_getElem]
  exact ⟨decide_eq_true e, k, hk', rfl, fun j hj => by
    have := h j l[j] hj (List.getElem?_eq_getElem (by omega))
    rw [decide_eq_false (show ¬ HL.id l[j] = x from this)]
    rfl⟩
set_option maxHeartbeats 2000000 in
theorem rget_any {v : Value} {l : List OpV} (x : Int) {w : World} (h : OpsOf w v l) (hs : l.length ≤ 1048576) (g : OpV) (hg : optV (Hs.getL HL l x) = g) :
    Calls Try.prog 16 #[v, .int .i64 x] w fun e w' => e = .returned (.tuple #[Value.agg #[Value.int .i64 g.id, Value.int .i64 g.proc, Value.int .i64 g.obj, Value.int .i64 g.kind, Value.int .i64 g.meth, Value.int .i64 g.arg, Value.int .i64 g.sec, Value.bool g.done, Value.int .i64 g.res, Value.int .i64 g.inv, Value.int .i64 g.ret], .bool (Hs.getL HL l x).isSome]) ∧ Below w.heap.size w w' := by
  obtain ⟨ao, ac, rfl⟩ := h.len
  have q0 : OpAt (w.alloc (.cells #[Value.int .i64 0, Value.int .i64 0, Value.int .i64 0, Value.int .i64 0, Value.int .i64 0, Value.int .i64 0, Value.int .i64 0, Value.bool false, Value.int .i64 0, Value.int .i64 0, Value.int .i64 0] 35)) w.heap.size zeroV := heap_alloc_new w _
  have hb0 : Below w.heap.size w (w.alloc (.cells #[Value.int .i64 0, Value.int .i64 0, Value.int .i64 0, Value.int .i64 0, Value.int .i64 0, Value.int .i64 0, Value.int .i64 0, Value.bool false, Value.int .i64 0, Value.int .i64 0, Value.int .i64 0] 35)) := by go_grown
  obtain ⟨W0, hW0⟩ : ∃ W, w.alloc (.cells #[Value.int .i64 0, Value.int .i64 0, Value.int .i64 0, Value.int .i64 0, Value.int .i64 0, Value.int .i64 0, Value.int .i64 0, Value.bool false, Value.int .i64 0, Value.int .i64 0, Value.int .i64 0] 35) = W := ⟨_, rfl⟩
  rw [hW0] at q0 hb0
  have Q0 := Lib.hid q0
  have HB0 := Lib.hid hb0
  have H := Lib.hid (h.on hb0)
  have HG := Lib.hid hg
  clear q0 hb0 h hg
  go_enter Try.func16, Try.ntmps16
  go_wp2_with fail
  clear hW0
  go_loopw [6] (fun s6 wr => ∃ k : Nat, s6 = .int .i64 k ∧ k ≤ l.length ∧ wr = W0 ∧ Hid (∀ (t : Nat) (a : OpV), t < k → l[t]? = some a → a.id ≠ x)) (fun s6 _ => l.length - (intOf s6).toNat)
  case atStart => exact ⟨0, rfl, Nat.zero_le _, rfl, fun t a ht => absurd ht (Nat.not_lt_zero _)⟩
  case round =>
    obtain ⟨k, rfl, hk, rfl, HN⟩ := hrel
    by_cases hkl : k < l.length
    · obtain ⟨o, ho⟩ : ∃ o, l[k]? = some o := ⟨_, List.getElem?_eq_getElem hkl⟩
      obtain ⟨b, p, cap, hv, hblt, hwf, hcc⟩ := OpsOf.at H.out ho
      have e0 : ao = some ⟨b, p, none⟩ := by cases hv; rfl
      subst e0
      have l1 := load_cellsO (p := p + k * 11) hcc
      have c0 : wr.cell? ⟨b, p + k * 11, none⟩ = some (.int .i64 o.id) := hcc 0 _ rfl
      have q1 : decide ((k : Int) < (l.length : Int)) = true := decide_eq_true (by omega)
      have q2 : (k : Int) < (l.length : Int) := by omega
      have q3 : IntKind.i64.wrap ((k : Int) + 1) = (k : Int) + 1 := IntWalk.i64_in _ (by omega)
      have HO := Lib.hid ho
      have HK := Lib.hid hkl
      clear hv hblt hwf hcc ho hk hkl
      by_cases hx : o.id = x
      · have qq : (o.id == x) = true := beq_iff_eq.2 hx
        have HE := Lib.hid (get_snoc HN.out HO.out hx)
        have HE2 := Lib.hid (show o = g by rw [← HG.out, HE.out]; rfl)
        obtain ⟨W5, hs5, q5, hb5, _, _⟩ := put_box Q0.out (Nat.le_refl _) HB0.out (Nat.le_refl _) o
        have HB5 := Lib.hid hb5
        have Q5 := Lib.hid q5
        clear hb5 q5 hx
        go_wp2_with fail
        have q6 := cells11 Q5.out
        refine bodyPost_ret (v := .tuple #[Value.agg #[Value.int .i64 o.id, Value.int .i64 o.proc, Value.int .i64 o.obj, Value.int .i64 o.kind, Value.int .i64 o.meth, Value.int .i64 o.arg, Value.int .i64 o.sec, Value.bool o.done, Value.int .i64 o.res, Value.int .i64 o.inv, Value.int .i64 o.ret], .bool true]) (by simp [results, Try.results16, go_sem, q6]) rfl ?_
        exact ⟨by rw [← HE2.out, HE.out]; rfl, HB5.out⟩
      · have qq : (o.id == x) = false := beq_eq_false_iff_ne.2 hx
        have HX := Lib.hid hx
        clear hx
        go_wp2_with fail
        go_roundw
        case measure => have := HK.out; simp [intOf]; omega
        case rel => exact ⟨k + 1, by simp, HK.out, by first | rfl | trivial, fun t a ht hta => by
          by_cases c : t = k
          · subst c
            rw [HO.out] at hta
            rw [← Option.some.inj hta]
            exact HX.out
          · exact HN.out t a (by omega) hta⟩
    · have q1 : decide ((k : Int) < (l.length : Int)) = false := decide_eq_false (by omega)
      have q2 : ((k : Int) < (l.length : Int)) = False := eq_false (by omega)
      have HE := Lib.hid (show Hs.getL HL l x = none from Hs.get_no HL fun a ha => by
        obtain ⟨t, ht, rfl⟩ := List.mem_iff_getElem.1 ha
        exact HN.out t _ (by omega) (List.getElem?_eq_getElem ht))
      have HE2 := Lib.hid (show zeroV = g by rw [← HG.out, HE.out]; rfl)
      obtain ⟨W5, hs5, q5, hb5, _, _⟩ := put_box Q0.out (Nat.le_refl _) HB0.out (Nat.le_refl _) zeroV
      dsimp only [zeroV] at hs5
      have HB5 := Lib.hid hb5
      have Q5 := Lib.hid q5
      clear hb5 q5 hk hkl
      go_wp2_with fail
      have q6 := cells11 Q5.out
      refine bodyPost_ret (v := .tuple #[Value.agg #[Value.int .i64 zeroV.id, Value.int .i64 zeroV.proc, Value.int .i64 zeroV.obj, Value.int .i64 zeroV.kind, Value.int .i64 zeroV.meth, Value.int .i64 zeroV.arg, Value.int .i64 zeroV.sec, Value.bool zeroV.done, Value.int .i64 zeroV.res, Value.int .i64 zeroV.inv, Value.int .i64 zeroV.ret], .bool false]) (by simp [results, Try.results16, go_sem, q6]) rfl ?_
      exact ⟨by rw [← HE2.out, HE.out]; rfl, HB5.out⟩
end Go.Proofs.Ytgedlfilhpbfaaa
