/- Rows of operations that are put in order: slices.SortStableFunc. Package hist: Get; the reference's Get; the same lists (the reference's Ops). Package cut: its comparisons, sorted, endsLater. -/
import Derived.Test.YtppjmmdiglnkfaaQbd
import Derived.Test.YtppjmmdiglnkfaaQbe
import Derived.Lib.QuietBelow
import Derived.Shelf.RegionOpenPlain
import Derived.Deep.RegionLaw
import Derived.Test.YtppjmmdiglnkfaaQaf
namespace Go.Proofs.Ytppjmmdiglnkfaa
set_option maxRecDepth 100000
open Go.ChangeShapes Go.WideShapes Go.ChangeAt Go.RowKit Go.PlainAid Go.Deep Go.Shelf Go.Sort
namespace Cu
attribute [local go_sem ↓ high] load_op store_o
theorem sym_all {f : Nat} {cf : OpV → OpV → Int} (hf : Cmp f cf) (d : Nat) : SymOk f cf d := by
  induction d with
  | zero => intro g cap a m b n L w hd _ _ _ _ _ ham hmb _; omega
  | succ d ih =>
    intro g cap a m b n L w hd h hn hl hs1 hs2 ham hmb hb
    by_cases c1 : m = a + 1
    · exact sym_first hf h hn hl hs1 hs2 c1 hmb hb
    · by_cases c2 : b = m + 1
      · exact sym_last hf h hn hl hs1 hs2 (by omega) c2 hb
      · by_cases c3 : (a + b) / 2 < m
        · exact sym_right (Lib.hid ih) hf h hn hl hs1 hs2 hd (by omega) (by omega) hb (mid := (a + b) / 2) (by omega) rfl rfl c3
        · exact sym_left (Lib.hid ih) hf h hn hl hs1 hs2 hd (by omega) (by omega) hb (mid := (a + b) / 2) (by omega) rfl rfl (by omega)
theorem symMerge_any {f : Nat} {cf : OpV → OpV → Int} (hf : Cmp f cf) {g cap a m b n : Nat} {L : List OpV} {w : World} (h : InRow w g cap L) (hn : L.length = n) (hl : n ≤ 1048576) (hs1 : Sr (ltO cf) L a m) (hs2 : Sr (ltO cf) L m b) (ham : a < m) (hmb : m < b) (hb : b ≤ n) :
    Calls Try.prog 99 #[.slice (some ⟨g, 0, none⟩) n cap, .int .i64 a, .int .i64 m, .int .i64 b, .func (.func f) #[] #[]] w (RowPost g cap n w fun L' => Mv L L' a b ∧ Sr (ltO cf) L' a b) :=
  sym_all hf (b - a) g cap a m b n L w (Nat.le_refl _) h hn hl hs1 hs2 ham hmb hb
/-- What stands while merging: blocks of two z up to a, of z behind. -/
def Half (lt : OpV → OpV → Bool) (L0 L : List OpV) (z a n : Nat) : Prop := L.Perm L0 ∧ Blk lt L (2 * z) 0 a ∧ Blk lt L z a n
theorem Half.start {lt : OpV → OpV → Bool} {L0 L : List OpV} {z n : Nat} (hp : L.Perm L0) (h : Blk lt L z 0 n) : Half lt L0 L z 0 n := ⟨hp, Blk.nil _ _ _ _ (Nat.le_refl _), h⟩
theorem Half.one {lt : OpV → OpV → Bool} {L0 L : List OpV} {z a n q : Nat} (h0 : 0 < z) (h : Half lt L0 L z a n) (ha : a = q * (2 * z)) {e : Nat} (he : e ≤ n) (h2 : e ≤ a + z) : Sr lt L a e := by
  have e1 : a = 2 * q * z := by rw [ha, ← Nat.mul_assoc, Nat.mul_comm q 2]
  have := h.2.2.sr (q := 2 * q) (e := e) h0 (by omega) he (by rw [Nat.add_mul]; omega)
  rwa [← e1] at this
theorem Half.two {lt : OpV → OpV → Bool} {L0 L : List OpV} {z a n q : Nat} (h0 : 0 < z) (h : Half lt L0 L z a n) (ha : a = q * (2 * z)) {e : Nat} (he : e ≤ n) (h2 : e ≤ a + 2 * z) : Sr lt L (a + z) e := by
  have e1 : a + z = (2 * q + 1) * z := by rw [ha, Nat.add_mul, ← Nat.mul_assoc, Nat.mul_comm q 2]; omega
  have := h.2.2.sr (q := 2 * q + 1) (e := e) h0 (by omega) he (by rw [Nat.add_mul, ← e1]; omega)
  rwa [← e1] at this
theorem Half.put {lt : OpV → OpV → Bool} {L0 L L' : List OpV} {z a b n q : Nat} (h0 : 0 < z) (h : Half lt L0 L z a n) (ha : a = q * (2 * z)) (hb : b ≤ a + 2 * z) (hab : a ≤ b) (hm : Mv L L' a b) (hs : Sr lt L' a b) : Half lt L0 L' z b n := by
  subst ha
  exact ⟨hm.perm.trans h.1, h.2.1.put (by omega) hm hs (by rw [Nat.add_mul]; omega), h.2.2.rest hm hab⟩
theorem blk_start {lt : OpV → OpV → Bool} {L0 L L' : List OpV} {a b q : Nat} (hp : L.Perm L0) (h : Blk lt L 20 0 a) (ha : a = q * 20) (hb : b ≤ a + 20) (hm : Mv L L' a b) (hs : Sr lt L' a b) : L'.Perm L0 ∧ Blk lt L' 20 0 b := by
  subst ha
  exact ⟨hm.perm.trans hp, h.put (by omega) hm hs (by omega)⟩
set_option maxHeartbeats 4000000 in
theorem stable_any {f : Nat} {cf : OpV → OpV → Int} (hf : Cmp f cf) {g cap n : Nat} {L : List OpV} {w : World} (h : InRow w g cap L) (hn : L.length = n) (hl : n ≤ 1048576) :
    Calls Try.prog 84 #[.slice (some ⟨g, 0, none⟩) n cap, .int .i64 n, .func (.func f) #[] #[]] w (RowPost g cap n w fun L' => L'.Perm L ∧ Sr (ltO cf) L' 0 n) := by
  have HF := Lib.hid hf
  have HS := Lib.hid (show RowAt g cap n w (fun L' => L'.Perm L ∧ Blk (ltO cf) L' 20 0 0) w from ⟨L, h, hn, ⟨List.Perm.refl _, Blk.nil _ _ _ _ (Nat.le_refl _)⟩, Keeps.refl _ _⟩)
  clear hf h hn
  go_enter Try.func84, Try.ntmps84
  go_wp2_with fail
  go_loopw [7, 8] (fun s7 s8 wr => ∃ a b : Nat, s7 = .int .i64 a ∧ s8 = .int .i64 b ∧ a ≤ n ∧ Hid ((∃ q, a = q * 20) ∧ b = a + 20 ∧ RowAt g cap n w (fun L' => L'.Perm L ∧ Blk (ltO cf) L' 20 0 a) wr)) (fun s7 _ _ => n - (intOf s7).toNat)
  case atStart => exact ⟨0, 20, rfl, rfl, Nat.zero_le _, Lib.hid ⟨⟨0, by omega⟩, rfl, HS.out⟩⟩
  case round =>
    clear HS
    obtain ⟨a, b, rfl, rfl, han, HI⟩ := hrel
    obtain ⟨L1, hr1, hn1, ⟨hp1, hb1⟩, hk1⟩ := HI.out.2.2
    have HP := Lib.hid (And.intro HI.out.1 (And.intro HI.out.2.1 (And.intro hp1 (And.intro hb1 hk1))))
    by_cases hbn : b ≤ n
    · have q1 : (b : Int) ≤ (n : Int) := by omega
      have q2 : IntKind.i64.wrap ((b : Int) + 20) = ((b + 20 : Nat) : Int) := by rw [IntWalk.i64_in _ (by omega)]; omega
      have HC := Lib.hid (insertion_any HF.out hr1 hn1 hl (a := a) (b := b) (by have := HP.out.2.1; omega) hbn)
      clear hr1 hn1 hp1 hb1 hk1 HI
      go_wp2_with fail
      (with_reducible refine HC.out.mono ?_)
      rintro _ w3 ⟨rfl, L2, hr2, hn2, ⟨hm2, hs2⟩, hk2⟩
      have HE := Lib.hid (show RowAt g cap n w (fun L' => L'.Perm L ∧ Blk (ltO cf) L' 20 0 b) w3 from by
        obtain ⟨⟨q, hq⟩, hb, p1, p2, p3⟩ := HP.out
        exact ⟨L2, hr2, hn2, blk_start p1 p2 hq (by omega) hm2 hs2, p3.on hk2⟩)
      clear hr2 hn2 hm2 hs2 hk2
      go_wp2_with fail
      go_roundw
      case measure => have := HP.out.2.1; simp [intOf] <;> omega
      case rel => exact ⟨b, b + 20, rfl, by first | rfl | simp, hbn, Lib.hid ⟨by obtain ⟨⟨q, hq⟩, hb, _⟩ := HP.out; exact ⟨q + 1, by omega⟩, rfl, HE.out⟩⟩
    · have q1 : ¬ ((b : Int) ≤ (n : Int)) := by omega
      have HC := Lib.hid (insertion_any HF.out hr1 hn1 hl (a := a) (b := n) han (Nat.le_refl _))
      clear hr1 hn1 hp1 hb1 hk1 HI
      go_wp2_with fail
      (with_reducible refine HC.out.mono ?_)
      rintro _ w3 ⟨rfl, L2, hr2, hn2, ⟨hm2, hs2⟩, hk2⟩
      have HE := Lib.hid (show RowAt g cap n w (fun L' => L'.Perm L ∧ Blk (ltO cf) L' 20 0 n) w3 from by
        obtain ⟨⟨q, hq⟩, hb, p1, p2, p3⟩ := HP.out
        exact ⟨L2, hr2, hn2, blk_start p1 p2 hq (by omega) hm2 hs2, p3.on hk2⟩)
      clear hr2 hn2 hm2 hs2 hk2 q1 hbn han HP HC
      go_wp2_with fail
      go_loopw [6] (fun s6 wr => ∃ z : Nat, s6 = .int .i64 z ∧ 0 < z ∧ z ≤ 2097152 ∧ Hid (RowAt g cap n w (fun L' => L'.Perm L ∧ Blk (ltO cf) L' z 0 n) wr)) (fun s6 _ => n - (intOf s6).toNat)
      case atStart => exact ⟨20, rfl, by omega, by omega, HE⟩
      case round =>
        clear HE
        obtain ⟨z, rfl, hz0, hzm, HI⟩ := hrel
        by_cases hzn : z < n
        · have q1 : (z : Int) < (n : Int) := by omega
          obtain ⟨z2, hz2⟩ : ∃ t, 2 * z = t := ⟨_, rfl⟩
          have q2 : IntKind.i64.wrap (2 * (z : Int)) = (z2 : Int) := by rw [IntWalk.i64_in _ (by omega)]; omega
          have q3 : IntKind.i64.wrap ((z : Int) * 2) = (z2 : Int) := by rw [IntWalk.i64_in _ (by omega)]; omega
          have HZ2 := Lib.hid hz2
          have HS2 := Lib.hid (show RowAt g cap n w (fun L' => Half (ltO cf) L L' z 0 n) _ from by
            obtain ⟨L1, r1, n1, ⟨p1, b1⟩, k1⟩ := HI.out
            exact ⟨L1, r1, n1, Half.start p1 b1, k1⟩)
          clear HI hz2
          go_wp2_with fail
          go_loopw [7, 8] (fun s7 s8 wr => ∃ a b : Nat, s7 = .int .i64 a ∧ s8 = .int .i64 b ∧ a ≤ n ∧ Hid ((∃ q, a = q * (2 * z)) ∧ b = a + 2 * z ∧ RowAt g cap n w (fun L' => Half (ltO cf) L L' z a n) wr)) (fun s7 _ _ => n - (intOf s7).toNat)
          case atStart => exact ⟨0, z2, rfl, rfl, Nat.zero_le _, Lib.hid ⟨⟨0, by omega⟩, by have := HZ2.out; omega, HS2.out⟩⟩
          case round =>
            clear HS2
            obtain ⟨a, b, rfl, rfl, han, HI⟩ := hrel
            obtain ⟨m, hm⟩ : ∃ t, a + z = t := ⟨_, rfl⟩
            have q4 : IntKind.i64.wrap ((a : Int) + (z : Int)) = (m : Int) := by rw [IntWalk.i64_in _ (by omega)]; omega
            have HM := Lib.hid hm
            clear hm
            obtain ⟨L1, hr1, hn1, hh1, hk1⟩ := HI.out.2.2
            have HP := Lib.hid (And.intro HI.out.1 (And.intro HI.out.2.1 (And.intro hh1 hk1)))
            by_cases hbn : b ≤ n
            · have q5 : (b : Int) ≤ (n : Int) := by omega
              obtain ⟨b2, hb2⟩ : ∃ t, b + z2 = t := ⟨_, rfl⟩
              have q6 : IntKind.i64.wrap ((b : Int) + (z2 : Int)) = (b2 : Int) := by rw [IntWalk.i64_in _ (by have := HZ2.out; omega)]; omega
              have HB2 := Lib.hid hb2
              clear hb2
              have HC := Lib.hid (show Calls _ _ _ _ _ from by
                obtain ⟨⟨q, hq⟩, hb, hh, _⟩ := HP.out
                have e := HM.out
                exact symMerge_any HF.out hr1 hn1 hl (a := a) (m := m) (b := b) (hh.one hz0 hq (by omega) (by omega)) (e ▸ hh.two hz0 hq hbn (by omega)) (by omega) (by omega) hbn)
              clear hr1 hn1 hh1 hk1 HI
              go_wp2_with fail
              (with_reducible refine HC.out.mono ?_)
              rintro _ w3 ⟨rfl, L2, hr2, hn2, ⟨hm2, hs2⟩, hk2⟩
              have HE := Lib.hid (show RowAt g cap n w (fun L' => Half (ltO cf) L L' z b n) w3 from by
                obtain ⟨⟨q, hq⟩, hb, hh, p3⟩ := HP.out
                exact ⟨L2, hr2, hn2, hh.put hz0 hq (by omega) (by omega) hm2 hs2, p3.on hk2⟩)
              clear hr2 hn2 hm2 hs2 hk2
              go_wp2_with fail
              go_roundw
              case measure => have := HP.out.2.1; simp [intOf] <;> omega
              case rel => exact ⟨b, b2, rfl, by first | rfl | simp, hbn, Lib.hid ⟨by
                obtain ⟨⟨q, hq⟩, hb, _⟩ := HP.out
                exact ⟨q + 1, by rw [Nat.add_mul]; omega⟩, by have := HZ2.out; have := HB2.out; omega, HE.out⟩⟩
            · have q5 : ¬ ((b : Int) ≤ (n : Int)) := by omega
              by_cases hmn : m < n
              · have q6 : (m : Int) < (n : Int) := by omega
                have HC := Lib.hid (show Calls _ _ _ _ _ from by
                  obtain ⟨⟨q, hq⟩, hb, hh, _⟩ := HP.out
                  have e := HM.out
                  exact symMerge_any HF.out hr1 hn1 hl (a := a) (m := m) (b := n) (hh.one hz0 hq (by omega) (by omega)) (e ▸ hh.two hz0 hq (Nat.le_refl _) (by omega)) (by omega) hmn (Nat.le_refl _))
                clear hr1 hn1 hh1 hk1 HI
                go_wp2_with fail
                (with_reducible refine HC.out.mono ?_)
                rintro _ w3 ⟨rfl, L2, hr2, hn2, ⟨hm2, hs2⟩, hk2⟩
                have HE := Lib.hid (show RowAt g cap n w (fun L' => L'.Perm L ∧ Blk (ltO cf) L' z2 0 n) w3 from by
                  obtain ⟨⟨q, hq⟩, hb, hh, p3⟩ := HP.out
                  have r := hh.put hz0 hq (by omega) han hm2 hs2
                  exact ⟨L2, hr2, hn2, ⟨r.1, HZ2.out ▸ r.2.1⟩, p3.on hk2⟩)
                clear hr2 hn2 hm2 hs2 hk2
                go_wp2_with fail
                go_roundw
                case measure => have := HZ2.out; simp [intOf] <;> omega
                case rel => exact ⟨z2, by first | rfl | simp, by have := HZ2.out; omega, by have := HZ2.out; omega, HE⟩
              · have q6 : ¬ ((m : Int) < (n : Int)) := by omega
                have HE := Lib.hid (show RowAt g cap n w (fun L' => L'.Perm L ∧ Blk (ltO cf) L' z2 0 n) _ from by
                  obtain ⟨⟨q, hq⟩, hb, hh, p3⟩ := HP.out
                  have e := HM.out
                  have r := hh.put hz0 hq (b := n) (by omega) han (Mv.refl _ _ _) (hh.one hz0 hq (Nat.le_refl _) (by omega))
                  exact ⟨L1, hr1, hn1, ⟨r.1, HZ2.out ▸ r.2.1⟩, p3⟩)
                clear hr1 hn1 hh1 hk1 HI
                go_wp2_with fail
                go_roundw
                case measure => have := HZ2.out; simp [intOf] <;> omega
                case rel => exact ⟨z2, by first | rfl | simp, by have := HZ2.out; omega, by have := HZ2.out; omega, HE⟩
        · have q1 : ¬ ((z : Int) < (n : Int)) := by omega
          have HE := Lib.hid (show RowAt g cap n w (fun L' => L'.Perm L ∧ Sr (ltO cf) L' 0 n) _ from by
            obtain ⟨L1, r1, n1, ⟨p1, b1⟩, k1⟩ := HI.out
            have r := b1.sr (q := 0) (e := n) hz0 (by omega) (Nat.le_refl _) (by omega)
            rw [Nat.zero_mul] at r
            exact ⟨L1, r1, n1, ⟨p1, r⟩, k1⟩)
          clear HI
          go_wp2_with fail
          go_returns
          exact ⟨rfl, HE.out⟩
set_option maxHeartbeats 1000000 in
theorem sortStable_any {f : Nat} {cf : OpV → OpV → Int} (hf : Cmp f cf) {g cap n : Nat} {L : List OpV} {w : World} (h : InRow w g cap L) (hn : L.length = n) (hl : n ≤ 1048576) :
    Calls Try.prog 60 #[.slice (some ⟨g, 0, none⟩) n cap, .func (.func f) #[] #[]] w (RowPost g cap n w fun L' => L'.Perm L ∧ Sr (ltO cf) L' 0 n) := by
  have HC := Lib.hid (stable_any hf h hn hl)
  clear hf h hn
  go_enter Try.func60, Try.ntmps60
  go_wp2_with fail
  (with_reducible refine HC.out.mono ?_)
  rintro _ w3 ⟨rfl, HE⟩
  have HE := Lib.hid HE
  go_wp2_with fail
  go_returns
  exact ⟨rfl, HE.out⟩
end Cu
end Go.Proofs.Ytppjmmdiglnkfaa
namespace Go.Proofs.Ytppjmmdiglnkfaa
set_option maxRecDepth 100000
open Go.ChangeShapes Go.WideShapes Go.ChangeAt Go.RowKit Go.PlainAid Go.Deep

attribute [local go_sem ↓ high] load_op store_o
/-- A box of the call's own, stored into. -/
theorem put_box {B : Nat} {w W : World} {b : Nat} {o : OpV} (h : OpAt W b o) (hb : B ≤ b) (hB : Below B w W) (hw : B ≤ w.heap.size) (x : OpV) :
    ∃ W5, (storeS 43 (.pointer (some ⟨b, 0, none⟩)) (Value.agg #[Value.int .i64 x.id, Value.int .i64 x.proc, Value.int .i64 x.obj, Value.int .i64 x.kind, Value.int .i64 x.meth, Value.int .i64 x.arg, Value.int .i64 x.sec, Value.bool x.done, Value.int .i64 x.res, Value.int .i64 x.inv, Value.int .i64 x.ret])).run Try.prog W = .ok () W5 ∧ OpAt W5 b x ∧ Below B w W5 ∧ (∀ k, k ≠ b → W5.heap[k]? = W.heap[k]?) ∧ W5.heap.size = W.heap.size :=
  ⟨_, store_op h rfl x, setRow_heap _ _ _ _ _ _ h, hB.trans (Keeps.below (Keeps.setRow (own := fun j => j = b) (Keeps.refl _ _) (.inl rfl) _) (fun i e => by rw [show i = b from e]; exact hb) (Nat.le_trans hw hB.size)), fun k hk => setRow_other _ _ _ _ hk, by simp⟩
theorem cells11 {w : World} {b : Nat} {o : OpV} (h : OpAt w b o) : ∀ i, w.cell? ⟨b, i, none⟩ = (#[Value.int .i64 o.id, Value.int .i64 o.proc, Value.int .i64 o.obj, Value.int .i64 o.kind, Value.int .i64 o.meth, Value.int .i64 o.arg, Value.int .i64 o.sec, Value.bool o.done, Value.int .i64 o.res, Value.int .i64 o.inv, Value.int .i64 o.ret])[i]? := fun _ => cell_of_row _ _ _ _ _ _ h
theorem get_snoc {l : List OpV} {k : Nat} {x : Int} {o : OpV} (h : ∀ (t : Nat) (a : OpV), t < k → l[t]? = some a → a.id ≠ x) (hk : l[k]? = some o) (e : o.id = x) : Hs.getL HL l x = some o := by
  obtain ⟨hk', rfl⟩ := List.getElem?_eq_some_iff.1 hk
  unfold Hs.getL
  rw [List.find?_eq_some_iff_getElem]
  exact ⟨decide_eq_true e, k, hk', rfl, fun j hj => by
    have := h j l[j] hj (List.getElem?_eq_getElem (by omega))
    rw [decide_eq_false (show ¬ HL.id l[j] = x from this)]
    rfl⟩
end Go.Proofs.Ytppjmmdiglnkfaa
namespace Go.Proofs.Ytppjmmdiglnkfaa
set_option maxRecDepth 100000
open Go.ChangeShapes Go.WideShapes Go.ChangeAt Go.RowKit Go.PlainAid Go.Deep Go.Shelf Go.Sort
namespace Cu
attribute [local go_sem ↓ high] load_op store_o
def cfInv (a b : OpV) : Int := if a.inv = b.inv then cmpZ a.id b.id else cmpZ a.inv b.inv
def cfObj (a b : OpV) : Int := if a.obj = b.obj then cfInv a b else cmpZ a.obj b.obj
theorem inv_lt {a b : OpV} : cfInv a b < 0 ↔ (a.inv < b.inv ∨ (a.inv = b.inv ∧ a.id < b.id)) := by
  unfold cfInv
  split <;> rw [cmp_lt] <;> omega
theorem obj_lt {a b : OpV} : cfObj a b < 0 ↔ (a.obj < b.obj ∨ (a.obj = b.obj ∧ (a.inv < b.inv ∨ (a.inv = b.inv ∧ a.id < b.id)))) := by
  unfold cfObj
  split
  · rw [inv_lt]; omega
  · rw [cmp_lt]; omega
theorem lt_no {cf : OpV → OpV → Int} {x y : OpV} : ltO cf x y = false ↔ ¬ cf x y < 0 := by unfold ltO; exact decide_eq_false_iff_not
theorem lt_yes {cf : OpV → OpV → Int} {x y : OpV} : ltO cf x y = true ↔ cf x y < 0 := by unfold ltO; exact decide_eq_true_iff
theorem ord_inv : Ord3 (ltO cfInv) := ⟨fun x y z h1 h2 => by
  rw [lt_no, inv_lt] at *
  omega, fun x y h => by
  rw [lt_yes, inv_lt] at h
  rw [lt_no, inv_lt]
  omega⟩
theorem ord_obj : Ord3 (ltO cfObj) := ⟨fun x y z h1 h2 => by
  rw [lt_no, obj_lt] at *
  omega, fun x y h => by
  rw [lt_yes, obj_lt] at h
  rw [lt_no, obj_lt]
  omega⟩
set_option maxHeartbeats 1000000 in
theorem byInv_any (a b : OpV) (w : World) : Calls Try.prog 56 #[Value.agg #[Value.int .i64 a.id, Value.int .i64 a.proc, Value.int .i64 a.obj, Value.int .i64 a.kind, Value.int .i64 a.meth, Value.int .i64 a.arg, Value.int .i64 a.sec, Value.bool a.done, Value.int .i64 a.res, Value.int .i64 a.inv, Value.int .i64 a.ret], Value.agg #[Value.int .i64 b.id, Value.int .i64 b.proc, Value.int .i64 b.obj, Value.int .i64 b.kind, Value.int .i64 b.meth, Value.int .i64 b.arg, Value.int .i64 b.sec, Value.bool b.done, Value.int .i64 b.res, Value.int .i64 b.inv, Value.int .i64 b.ret]] w fun e w' => e = .returned (.int .i64 (cfInv a b)) ∧ Below w.heap.size w w' := by
  by_cases h : a.inv = b.inv
  · have hn := Lib.hid (show cfInv a b = cmpZ a.id b.id by unfold cfInv; rw [if_pos h])
    have e1 : (a.inv != b.inv) = false := by rw [h]; simp
    clear h
    go_enter Try.func56, Try.ntmps56
    go_wp2_with fail
    refine (compare_any a.id b.id _).mono ?_
    rintro _ _ ⟨rfl, rfl⟩
    go_wp2_with fail
    go_returns
    exact ⟨by rw [hn.out]; rfl, by go_grown⟩
  · have hn := Lib.hid (show cfInv a b = cmpZ a.inv b.inv by unfold cfInv; rw [if_neg h])
    have e1 : (a.inv != b.inv) = true := bne_iff_ne.2 h
    clear h
    go_enter Try.func56, Try.ntmps56
    go_wp2_with fail
    refine (compare_any a.inv b.inv _).mono ?_
    rintro _ _ ⟨rfl, rfl⟩
    go_wp2_with fail
    go_returns
    exact ⟨by rw [hn.out]; rfl, by go_grown⟩
theorem cmp_inv : Cmp 56 cfInv := ⟨fun args w => by simp [go_sem], byInv_any, ord_inv⟩
/-! ### Nothing put in order -/
theorem insertion_nil (f : Value) (c : Nat) (w : World) : Calls Try.prog 98 #[.slice none 0 c, .int .i64 0, .int .i64 0, f] w fun e w' => e = .returned (.tuple #[]) ∧ w = w' := by
  go_enter Try.func98, Try.ntmps98
  go_wp2_with fail
  go_loopw [8] (fun s8 wr => s8 = .int .i64 1 ∧ w = wr) (fun _ _ => 0)
  case atStart => exact ⟨rfl, rfl⟩
  case round =>
    obtain ⟨rfl, rfl⟩ := hrel
    go_wp2_with fail
    go_returns
    exact ⟨rfl, rfl⟩
theorem stable_nil (f : Value) (c : Nat) (w : World) : Calls Try.prog 84 #[.slice none 0 c, .int .i64 0, f] w fun e w' => e = .returned (.tuple #[]) ∧ w = w' := by
  go_enter Try.func84, Try.ntmps84
  go_wp2_with fail
  go_loopw [7, 8] (fun s7 s8 wr => s7 = .int .i64 0 ∧ s8 = .int .i64 20 ∧ w = wr) (fun _ _ _ => 0)
  case atStart => exact ⟨rfl, rfl, rfl⟩
  case round =>
    obtain ⟨rfl, rfl, rfl⟩ := hrel
    go_wp2_with fail
    refine (insertion_nil f c _).mono ?_
    rintro _ _ ⟨rfl, rfl⟩
    go_wp2_with fail
    go_loopw [6] (fun s6 wr => s6 = .int .i64 20 ∧ w = wr) (fun _ _ => 0)
    case atStart => exact ⟨rfl, rfl⟩
    case round =>
      obtain ⟨rfl, rfl⟩ := hrel
      go_wp2_with fail
      go_returns
      exact ⟨rfl, rfl⟩
theorem sort_nil (f : Value) (c : Nat) (w : World) : Calls Try.prog 60 #[.slice none 0 c, f] w fun e w' => e = .returned (.tuple #[]) ∧ w = w' := by
  go_enter Try.func60, Try.ntmps60
  go_wp2_with fail
  refine (stable_nil f c _).mono ?_
  rintro _ _ ⟨rfl, rfl⟩
  go_wp2_with fail
  go_returns
  exact ⟨rfl, rfl⟩
/-- What sorted gives. -/
def Sorted (cf : OpV → OpV → Int) (L S : List OpV) : Prop := S.Perm L ∧ S.Pairwise fun x y => ltO cf y x = false
theorem own_of {n₀ g cap : Nat} {W : World} {L : List OpV} (h : InRow W g cap L) (hn : n₀ ≤ g) (hc : cap ≤ maxLen) : OpsOwn n₀ W (.slice (some ⟨g, 0, none⟩) L.length cap) L := by
  obtain ⟨⟨cur, hg, hs, hr⟩, hl⟩ := h
  exact ⟨flatO_len L, .inr ⟨g, cap, cur, rfl, hn, hg, hl, hc, hs, hr⟩⟩
set_option maxHeartbeats 1000000 in
theorem sorted_any {f : Nat} {cf : OpV → OpV → Int} (hf : Cmp f cf) {v : Value} {L : List OpV} {w : World} (h : OpsOf w v L) (hl : L.length ≤ 1048576) :
    Calls Try.prog 55 #[v, .func (.func f) #[] #[]] w fun e w' => ∃ v' S, e = .returned v' ∧ OpsOwn w.heap.size w' v' S ∧ Sorted cf L S ∧ Below w.heap.size w w' := by
  have HF := Lib.hid hf
  have HC := Lib.hid (clone_any h hl)
  clear hf h
  go_enter Try.func55, Try.ntmps55
  go_wp2_with fail
  refine HC.out.mono ?_
  rintro _ w1 ⟨v1, rfl, ho, hb⟩
  have HB := Lib.hid hb
  rcases ho.2 with ⟨rfl, h0⟩ | ⟨g, cap, cur, rfl, hng, hg, hlc, hcm, hsz, hrow⟩
  · obtain rfl : L = [] := List.length_eq_zero_iff.1 h0
    have HO := Lib.hid ho
    clear h0 ho hb HC
    go_wp2_with fail
    refine (sort_nil _ _ _).mono ?_
    rintro _ _ ⟨rfl, rfl⟩
    go_wp2_with fail
    go_returns
    exact ⟨_, [], rfl, HO.out, ⟨List.Perm.refl _, List.Pairwise.nil⟩, HB.out⟩
  · have HS := Lib.hid (sortStable_any HF.out (⟨⟨cur, hg, hsz, hrow⟩, hlc⟩ : InRow w1 g cap L) rfl hl)
    have HG := Lib.hid (And.intro hng hcm)
    clear ho hb HC hng hg hlc hcm hsz hrow
    go_wp2_with fail
    refine HS.out.mono ?_
    rintro _ w2 ⟨rfl, S, hr, hn, ⟨hp, hs⟩, hk⟩
    have HE := Lib.hid (show OpsOwn w.heap.size w2 (.slice (some ⟨g, 0, none⟩) L.length cap) S ∧ Sorted cf L S ∧ Below w.heap.size w w2 from by
      refine ⟨by rw [← hn]; exact own_of hr HG.out.1 HG.out.2, ⟨hp, sr_pair hs (by omega)⟩, HB.out.trans (hk.below (fun i e => by rw [e]; exact HG.out.1) HB.out.size)⟩)
    clear hr hn hp hs hk
    go_wp2_with fail
    go_returns
    exact ⟨_, S, rfl, HE.out⟩
/-- Does an operation end behind another one? -/
def endB (a b : OpV) : Bool := b.done && (!a.done || decide (a.ret > b.ret))
set_option maxHeartbeats 1000000 in
theorem ends_any (a b : OpV) (w : World) : Calls Try.prog 59 #[Value.agg #[Value.int .i64 a.id, Value.int .i64 a.proc, Value.int .i64 a.obj, Value.int .i64 a.kind, Value.int .i64 a.meth, Value.int .i64 a.arg, Value.int .i64 a.sec, Value.bool a.done, Value.int .i64 a.res, Value.int .i64 a.inv, Value.int .i64 a.ret], Value.agg #[Value.int .i64 b.id, Value.int .i64 b.proc, Value.int .i64 b.obj, Value.int .i64 b.kind, Value.int .i64 b.meth, Value.int .i64 b.arg, Value.int .i64 b.sec, Value.bool b.done, Value.int .i64 b.res, Value.int .i64 b.inv, Value.int .i64 b.ret]] w fun e w' => e = .returned (.bool (endB a b)) ∧ Below w.heap.size w w' := by
  rcases Bool.eq_false_or_eq_true b.done with h | h
  · rcases Bool.eq_false_or_eq_true a.done with h2 | h2
    · have hn := Lib.hid (show endB a b = decide (a.ret > b.ret) by unfold endB; rw [h, h2]; rfl)
      have hn2 : (!a.done) = false := by rw [h2]; rfl
      go_enter Try.func59, Try.ntmps59
      go_wp2_with fail
      go_returns
      exact ⟨by rw [hn.out]; rfl, by go_grown⟩
    · have hn := Lib.hid (show endB a b = true by unfold endB; rw [h, h2]; rfl)
      go_enter Try.func59, Try.ntmps59
      go_wp2_with fail
      go_returns
      exact ⟨by rw [hn.out]; rfl, by go_grown⟩
  · have hn := Lib.hid (show endB a b = false by unfold endB; rw [h]; rfl)
    go_enter Try.func59, Try.ntmps59
    go_wp2_with fail
    go_returns
    exact ⟨by rw [hn.out]; rfl, by go_grown⟩
end Cu
end Go.Proofs.Ytppjmmdiglnkfaa
