import Derived.Test.YtcjfnfdinhbdlaaGreatDoorRows
import Derived.Test.YtcjfnfdinhbdlaaGreatDoorGaa
import Derived.Deep.RegionWith
import Derived.Deep.RegionHeld3
import Derived.OpenShut
import Derived.SizedLaws
import Derived.OwnWalk
import Derived.Deep.Slices
import Derived.Deep.Fields
import Derived.Deep.MidRow
import Derived.ChangeSame
import Derived.Deep.AppendLies
import Derived.WalkKit
import Derived.ProofKit
import Derived.Handy
import Derived.Lib.Hide
import Derived.PlainAid
import Derived.Deep.WholeRow
import Derived.StillTailTactics
import Derived.Great.BuildSlice
import Derived.Lib.BufferWrite
import Derived.Lib.ConvBytes
namespace Go.Proofs.YtcjfnfdinhbdlaaGreatDoor
set_option maxRecDepth 100000
open Go.ChangeShapes Go.WideShapes Go.ChangeAt Go.RowKit Go.PlainAid
def varL (n : Nat) : List Int := if n < 128 then [(n : Int)] else ((n % 128 + 128 : Nat) : Int) :: varL (n / 128)
termination_by n
decreasing_by omega
theorem varL_lt {n : Nat} (h : n < 128) : varL n = [(n : Int)] := by rw [varL, if_pos h]
theorem varL_ge {n : Nat} (h : 128 ≤ n) : varL n = ((n % 128 + 128 : Nat) : Int) :: varL (n / 128) := by rw [varL, if_neg (by omega)]
theorem varL_len : ∀ (k n : Nat), n < 128 ^ (k + 1) → (varL n).length ≤ k + 1
  | 0, n, h => by rw [varL_lt (by omega)]; exact Nat.le_refl _
  | k + 1, n, h => by
    by_cases c : n < 128
    · rw [varL_lt c]; simp
    · rw [varL_ge (by omega), List.length_cons]
      have := varL_len k (n / 128) (by rw [Nat.pow_succ] at h; omega)
      omega
theorem varL_ten (n : Nat) (h : n < 18446744073709551616) : (varL n).length ≤ 10 := varL_len 9 n (by omega)
theorem varL_pos (n : Nat) : 1 ≤ (varL n).length := by
  by_cases c : n < 128
  · rw [varL_lt c]; simp
  · rw [varL_ge (by omega)]; simp
def varS (m : Int) : ByteArray := strOfNums (varL m.toNat)
theorem varS_size (m : Int) (h0 : 0 ≤ m) (h : m ≤ 18446744073709551615) : (varS m).size ≤ 10 := by unfold varS; rw [strOfNums_size]; exact varL_ten _ (by omega)
theorem infoG : (Tryz.prog.info? 5).map (fun i => (i.zero, i.size, i.bytes)) = some (some (.int .u8 0), 1, 1) := by kernel_rfl
structure VarI (n : Int) (w : World) (m : Int) (v : Value) (L : List Int) (wr : World) : Prop where
  lo : 0 ≤ m
  hi : m ≤ 18446744073709551615
  len : L.length + (varL m.toNat).length ≤ 10
  list : L ++ varL m.toNat = varL n.toNat
  own : wr.ownsRow w.heap.size 5 1 v L.length (L.map (Value.int .u8))
  below : Below w.heap.size w wr
set_option maxHeartbeats 1000000 in
theorem var_any (n : Int) (h0 : 0 ≤ n) (h1 : n ≤ 18446744073709551615) (w : World) :
    Calls Tryz.prog 186 #[.int .u64 n] w fun e w' => e = .returned (.string (varS n)) ∧ Below w.heap.size w w' := by
  obtain ⟨i0, hi, hz0, hz1, hz2⟩ := info_parts infoG
  have hl := varL_ten n.toNat (by omega)
  have HL := Lib.hid hl
  clear hl
  go_enter Tryz.func186, Tryz.ntmps186
  go_wp2
  go_loopw [0, 3] (fun x v wr => ∃ m L, x = .int .u64 m ∧ VarI n w m v L wr) (fun x _ _ => (intOf x).toNat)
  case atStart => exact ⟨n, [], rfl, h0, h1, by simpa using HL.out, rfl, ⟨rfl, Or.inl ⟨rfl, rfl⟩⟩, Below.refl _ _⟩
  case round =>
    obtain ⟨m, L, rfl, hI⟩ := hrel
    have hm0 := hI.lo
    have hm1 := hI.hi
    by_cases hlt : 128 ≤ m
    · have hor := u8_or_128 (m % 256) (by omega) (by omega)
      have hown := Lib.hid hI.own
      have hlen := Lib.hid hI.len
      have hpos := Lib.hid (varL_pos m.toNat)
      have hbel := hI.below
      have hq := Lib.hid (varL_ge (n := m.toNat) (by omega))
      have hq2 := Lib.hid (show (m / 128).toNat = m.toNat / 128 by omega)
      go_wp2_with (at_builtin; refine wpList_append_own _ rfl _ _ 160 rfl w.heap.size 5 i0 (.int .u8 0) 1 1 Tryz.underlying160 hi hz0 hz1 hz2 rfl (by decide) _ _ _ rfl (hown.out.alloc _) ⟨wr.heap.size, 0, none⟩ 1 1 [.int .u8 (m % 128 + 128)] rfl rfl ?c1 ?c2 ?c3 ?c4 ?c5 ?_)
      case c1 => exact one_new _ _ _
      case c2 => exact one_cell _
      case c3 => have a := hlen.out; unfold maxLen; omega
      case c4 => have a := hlen.out; omega
      case c5 => have a := hbel.size; simp; omega
      intro v1 w1 hown1 hgrow1 _
      have HO1 := Lib.hid hown1
      have HG1 := Lib.hid hgrow1
      clear hown1 hgrow1
      go_wp2
      go_roundw
      case rel =>
        refine ⟨m / 128, L ++ [m % 128 + 128], rfl, by omega, by omega, ?_, ?_, ?_, ?_⟩
        · have a := hlen.out
          rw [hq.out] at a
          rw [hq2.out]
          simp at a ⊢
          omega
        · have a := hI.list
          rw [hq.out] at a
          rw [hq2.out, ← a, List.append_assoc, show ((m.toNat % 128 + 128 : Nat) : Int) = m % 128 + 128 by omega]
          rfl
        · have a := HO1.out
          rw [List.length_append, List.map_append]
          exact a
        · have a := hbel.size
          exact (hbel.alloc a _).grown HG1.out (by simp; omega) (fun k hk => (hown.out.lt k hk).1)
      case measure => simp [intOf]; omega
    · have hown := Lib.hid hI.own
      have hlen := Lib.hid hI.len
      have hpos := Lib.hid (varL_pos m.toNat)
      have hbel := hI.below
      have hq := Lib.hid (varL_lt (n := m.toNat) (by omega))
      go_wp2_with (at_builtin; refine wpList_append_own _ rfl _ _ 160 rfl w.heap.size 5 i0 (.int .u8 0) 1 1 Tryz.underlying160 hi hz0 hz1 hz2 rfl (by decide) _ _ _ rfl (hown.out.alloc _) ⟨wr.heap.size, 0, none⟩ 1 1 [.int .u8 m] rfl rfl ?d1 ?d2 ?d3 ?d4 ?d5 ?_)
      case d2 => rfl
      case d3 => have a := hlen.out; unfold maxLen; omega
      case d4 => have a := hlen.out; omega
      case d5 => have a := hbel.size; simp; omega
      intro v1 w1 hown1 hgrow1 _
      have hv : w1.ownsRow w.heap.size 5 1 v1 (L.length + 1) ((L ++ [m]).map (Value.int .u8)) := by
        rw [List.map_append]; exact hown1
      have HO1 := Lib.hid hv
      have HG1 := Lib.hid hgrow1
      clear hown1 hgrow1 hv
      go_wp2
      rw [conv_own 160 5 9 Tryz.underlying160 Tryz.underlying5 Tryz.underlying9 (L ++ [m]) w1 _ _ _ HO1.out]
      go_wp2
      go_returns
      refine ⟨?_, ?_⟩
      · have a := hI.list
        rw [hq.out, show ((m.toNat : Nat) : Int) = m by omega] at a
        unfold varS
        rw [← a]
        rfl
      · have a := hbel.size
        exact (hbel.alloc a _).grown HG1.out (by simp; omega) (fun k hk => (hown.out.lt k hk).1)
end Go.Proofs.YtcjfnfdinhbdlaaGreatDoor
namespace Go.Proofs.YtcjfnfdinhbdlaaGreatDoor
set_option maxRecDepth 100000
open Go.ChangeShapes Go.WideShapes Go.ChangeAt Go.RowKit Go.PlainAid Go.Deep
def IntsOf (w : World) (v : Value) (l : List Int) : Prop :=
  (l = [] ∧ ∃ ao cap, v = .slice ao 0 cap) ∨ ∃ b o cap, v = .slice (some ⟨b, o, none⟩) l.length cap ∧ b < w.heap.size ∧ 0 < l.length ∧ (l.length : Int) ≤ 9223372036854775807 ∧ ∀ (i : Nat) (x : Int), l[i]? = some x → (-9223372036854775808 ≤ x ∧ x ≤ 9223372036854775807) ∧ w.cell? ⟨b, o + i, none⟩ = some (.int .i64 x)
theorem IntsOf.on {w w' : World} {v : Value} {l : List Int} (h : IntsOf w v l) (hb : Below w.heap.size w w') : IntsOf w' v l := by
  rcases h with h | ⟨b, o, cap, hv, hlt, h0, hm, hr⟩
  · exact .inl h
  · exact .inr ⟨b, o, cap, hv, Nat.lt_of_lt_of_le hlt hb.size, h0, hm, fun i x hx => ⟨(hr i x hx).1, (hb.cell (p := ⟨b, o + i, none⟩) hlt).trans (hr i x hx).2⟩⟩
theorem ints_open {H : Type} {enc : TypeId × Value → H} {w : World} {base b0 : Nat} {sp : Nat → Bool} {held : Bool} {r : Reach} {v : Value} {d : DataW H} {p : List MemPlace}
    (hv : Value.okWide Tryz.prog w r b0 39 v) (h : DataW.Trod enc Tryz.prog w base sp held 39 v d p) : ∃ l : List Int, IntsOf w v l := by
  obtain ⟨ao, len0, cap0, rfl⟩ := okWide_slice Tryz.underlying39 hv
  obtain ⟨fuel, hf⟩ := h
  rcases open_slice Tryz.underlying39 hf with ⟨h0, _⟩ | ⟨a, len, cap, m, n, Dt, Pl, hcs, hb, hl, hm, hmm, _, hi⟩
  · refine ⟨[], .inl ⟨rfl, ao, cap0, ?_⟩⟩
    have : Value.slice ao len0 cap0 = .slice none 0 0 := by simpa [Value.cells] using h0
    cases this
    rfl
  · have e : Value.slice ao len0 cap0 = .slice (some a) len cap := by simpa [Value.cells] using hcs
    cases e
    have hC : Tryz.prog.cellsOf 3 = 1 := by kernel_rfl
    have hlm : len0 ≤ m := by rw [hmm]; split <;> omega
    by_cases h0 : len0 = 0
    · subst h0
      exact ⟨[], .inl ⟨rfl, _, _, rfl⟩⟩
    · have each : ∀ i, ∃ y : Int, i < len0 → (-9223372036854775808 ≤ y ∧ y ≤ 9223372036854775807) ∧ w.cell? (a.add i) = some (.int .i64 y) := fun i => by
        by_cases c : i < len0
        · obtain ⟨cs', hc, ht⟩ := hi i (by omega)
          rw [hC] at hc
          obtain ⟨_, hcl, hat⟩ := World.cells?_some hc
          obtain ⟨y, hy, _, hw⟩ := DataW.trod_int Tryz.underlying3 ht
          refine ⟨y, fun _ => ⟨bounds_i64 hw, ?_⟩⟩
          have := hat 0 (by omega)
          rw [hy, Go.Deep.add_add, Nat.mul_one, Nat.add_zero] at this
          exact this
        · exact ⟨0, fun h => absurd h c⟩
      obtain ⟨f, hf'⟩ := Classical.axiomOfChoice each
      have h00 := (hf' 0 (by omega)).2
      obtain ⟨b, off, spot⟩ := a
      have hspot : spot = none := by simpa [Addr.add] using World.cell?_spot h00
      subst hspot
      refine ⟨(List.range len0).map f, .inr ⟨b, off, cap0, by simp, World.block_lt_of_cell? w _ h00, by simp; omega, by simp; unfold maxLen at hm; omega, fun i x hx => ?_⟩⟩
      have hil : i < len0 := by have := (List.getElem?_eq_some_iff.1 hx).1; simpa using this
      have hxf : f i = x := by simpa [List.getElem?_map, List.getElem?_range hil] using hx
      subst hxf
      obtain ⟨hw, hc⟩ := hf' i hil
      exact ⟨hw, by rw [← hc, Addr.add_mid]⟩
theorem heap_inI {w : World} {k : Nat} {o : Obj} (h : w.heap[k]? = some o) : k < w.heap.size := (Array.getElem?_eq_some_iff.1 h).1
theorem ownsRow_onI {w w' : World} {base : Nat} {e : TypeId} {size : Nat} {v : Value} {n : Nat} {xs : List Value} (h : w.ownsRow base e size v n xs) (b : Below w.heap.size w w') : w'.ownsRow base e size v n xs := by
  obtain ⟨h1, h2⟩ := h
  refine ⟨h1, ?_⟩
  rcases h2 with h2 | ⟨g, cap, cur, hv, hb, hg, h3⟩
  · exact .inl h2
  · exact .inr ⟨g, cap, cur, hv, hb, (b.block g (heap_inI hg)).trans hg, h3⟩
theorem info_intI : (Tryz.prog.info? 3).map (fun i => (i.zero, i.size, i.bytes)) = some (some (.int .i64 0), 1, 8) := by kernel_rfl
def appII (vs : Array Value) : Sem Value := Builtin.append_ #[39, 39] 39 vs
theorem app_intI (vs : Array Value) : Builtin.append_ #[39, 39] 39 vs = appII vs := rfl
def IntsOwn (n₀ : Nat) (W : World) (v : Value) (L : List Int) : Prop := W.ownsRow n₀ 3 1 v L.length (L.map (Value.int .i64))
theorem row_pushI {n₀ : Nat} {W : World} {L : List Int} {v : Value} (hrow : IntsOwn n₀ W v L) (hn : n₀ ≤ W.heap.size) (hlen : L.length ≤ 1048576) (x : Int) (m : Nat) (hm : L.length = m) :
    ∃ g cap w2, (appII #[v, .slice (some ⟨W.heap.size, 0, none⟩) 1 1]).run Tryz.prog (W.alloc (.cells #[.int .i64 x] 3)) = .ok (.slice (some ⟨g, 0, none⟩) (m + 1) cap) w2 ∧
      IntsOwn n₀ w2 (.slice (some ⟨g, 0, none⟩) (m + 1) cap) (L ++ [x]) ∧ (W.alloc (.cells #[.int .i64 x] 3)).grownBy w2 v.ownBlock ∧ Below n₀ W w2 := by
  subst hm
  obtain ⟨i0, hi, hz0, hz1, hz2⟩ := info_parts info_intI
  have hq := heap_alloc_new W (.cells #[.int .i64 x] 3)
  have hba : Below W.heap.size W (W.alloc (.cells #[.int .i64 x] 3)) := by go_grown
  obtain ⟨g, cap, w2, hr, h2, h3, _, _⟩ := run_append_lies (P := Tryz.prog) (w := W.alloc (.cells #[.int .i64 x] 3)) 39 39 n₀ 3 i0 (.int .i64 0) 1 8 Tryz.underlying39 hi hz0 hz1 hz2 rfl (by decide) v L.length (L.map (Value.int .i64)) (ownsRow_onI hrow hba) ⟨W.heap.size, 0, none⟩ 1 1 [.int .i64 x] rfl
    (fun j u hu => by
      rcases j with _ | j
      · have : Value.int .i64 x = u := by simpa using hu
        rw [← this]
        show (W.alloc (.cells #[.int .i64 x] 3)).cell? ⟨W.heap.size, 0, none⟩ = _
        rw [cell_of_row _ _ _ _ _ _ hq]
        rfl
      · simp at hu) (fun u hu => by have : u = .int .i64 x := by simpa using hu
                                    rw [this]; rfl) (by decide) (by unfold maxLen; omega) (by omega) (by rw [World.size_alloc]; omega) _ rfl
  refine ⟨g, cap, w2, hr, ?_, h3, (hba.mono hn).grown h3 (by rw [World.size_alloc]; omega) (fun k e => (hrow.lt k e).1)⟩
  unfold IntsOwn
  rw [List.length_append, List.map_append]
  exact h2
theorem IntsOwn.reads {n₀ : Nat} {W : World} {v : Value} {L : List Int} (h : IntsOwn n₀ W v L) (hm : L.length ≤ 1048576) (hb : ∀ x ∈ L, -9223372036854775808 ≤ x ∧ x ≤ 9223372036854775807) : IntsOf W v L := by
  obtain ⟨h1, h2⟩ := h
  rcases h2 with ⟨rfl, h0⟩ | ⟨g, cap, cur, rfl, _, hg, hn, hc, hsz, ht⟩
  · refine .inl ⟨List.length_eq_zero_iff.1 (by simpa using h0), none, 0, rfl⟩
  · by_cases h0 : L.length = 0
    · exact .inl ⟨List.length_eq_zero_iff.1 h0, _, _, by rw [h0]⟩
    · refine .inr ⟨g, 0, cap, rfl, heap_inI hg, by omega, by omega, fun i x hx => ⟨hb x (List.mem_of_getElem? hx), ?_⟩⟩
      rw [Nat.zero_add, cell_of_row _ _ _ _ _ _ hg]
      have hi : i < L.length := (List.getElem?_eq_some_iff.1 hx).1
      have := congrArg (fun l => l[i]?) ht
      simp only [List.getElem?_map, hx, Option.map_some] at this
      rw [← this, Nat.mul_one, List.getElem?_take_of_lt hi, Array.getElem?_toList]
end Go.Proofs.YtcjfnfdinhbdlaaGreatDoor
namespace Go.Proofs.YtcjfnfdinhbdlaaGreatDoor
open Go.ChangeShapes Go.WideShapes Go.ChangeAt Go.RowKit Go.PlainAid
structure Keeps (own : Nat → Prop) (w w' : World) : Prop where
  os : w'.os = w.os
  tape : w'.tape = w.tape
  output : w'.output = w.output
  size : w.heap.size ≤ w'.heap.size
  block : ∀ k, k < w.heap.size → ¬ own k → w'.heap[k]? = w.heap[k]?
theorem Keeps.refl (own : Nat → Prop) (w : World) : Keeps own w w := ⟨rfl, rfl, rfl, Nat.le_refl _, fun _ _ _ => rfl⟩
theorem Keeps.trans {own own' : Nat → Prop} {a b c : World} (h : Keeps own a b) (k : Keeps own' b c) (hs : ∀ i, own' i → own i ∨ a.heap.size ≤ i) : Keeps own a c :=
  ⟨k.os.trans h.os, k.tape.trans h.tape, k.output.trans h.output, Nat.le_trans h.size k.size, fun i hi ho =>
    (k.block i (Nat.lt_of_lt_of_le hi h.size) (fun c => by rcases hs i c with c | c; exact ho c; omega)).trans (h.block i hi ho)⟩
theorem Keeps.on {own : Nat → Prop} {a b c : World} (h : Keeps own a b) (k : Keeps own b c) : Keeps own a c := h.trans k fun _ hi => .inl hi
theorem Keeps.mono {own own' : Nat → Prop} {w w' : World} (h : Keeps own w w') (hs : ∀ i, own i → own' i ∨ w.heap.size ≤ i) : Keeps own' w w' :=
  ⟨h.os, h.tape, h.output, h.size, fun k hk ho => h.block k hk (fun c => by rcases hs k c with c | c; exact ho c; omega)⟩
theorem Keeps.below {own : Nat → Prop} {w w' : World} {B : Nat} (h : Keeps own w w') (ho : ∀ i, own i → B ≤ i) (hB : B ≤ w.heap.size) : Below B w w' :=
  ⟨h.os, h.tape, h.output, h.size, fun k hk => h.block k (by omega) (fun c => by have := ho k c; omega)⟩
theorem Keeps.of_below {own : Nat → Prop} {w w' : World} (h : Below w.heap.size w w') : Keeps own w w' := ⟨h.os, h.tape, h.output, h.size, fun k hk _ => h.block k hk⟩
theorem Keeps.drew {own : Nat → Prop} {w w' : World} (h : Keeps own w w') : Keeps own w w'.drew := ⟨h.os, h.tape, h.output, h.size, h.block⟩
theorem Keeps.alloc {own : Nat → Prop} {w w' : World} (h : Keeps own w w') (o : Obj) : Keeps own w (w'.alloc o) :=
  ⟨h.os, h.tape, h.output, by have := h.size; simp; omega, fun k hk ho => (Below.heap_alloc w' o k (by have := h.size; omega)).trans (h.block k hk ho)⟩
theorem Keeps.setCell {own : Nat → Prop} {w w' : World} (h : Keeps own w w') {a : Addr} (ha : own a.block ∨ w.heap.size ≤ a.block) (v : Value) : Keeps own w (w'.setCell a v) :=
  ⟨h.os, h.tape, h.output, by have := h.size; simp; omega, fun k hk ho => (heap_setCell_other w' a k v (fun e => by subst e; rcases ha with c | c; exact ho c; omega)).trans (h.block k hk ho)⟩
theorem heap_setCells_other (b : Nat) (k : Nat) (h : k ≠ b) : ∀ (vs : List Value) (o : Nat) (w : World), (w.setCells b o vs).heap[k]? = w.heap[k]?
  | [], _, _ => rfl
  | v :: r, o, w => by rw [World.setCells, heap_setCells_other b k h r (o + 1) _, heap_setCell_other _ _ _ _ h]
theorem size_setCells (b : Nat) : ∀ (vs : List Value) (o : Nat) (w : World), (w.setCells b o vs).heap.size = w.heap.size
  | [], _, _ => rfl
  | v :: r, o, w => by rw [World.setCells, size_setCells b r (o + 1) _, World.size_setCell]
theorem os_setCells (b : Nat) : ∀ (vs : List Value) (o : Nat) (w : World), (w.setCells b o vs).os = w.os ∧ (w.setCells b o vs).tape = w.tape ∧ (w.setCells b o vs).output = w.output
  | [], _, _ => ⟨rfl, rfl, rfl⟩
  | v :: r, o, w => by rw [World.setCells]; exact os_setCells b r (o + 1) (w.setCell _ v)
theorem Keeps.setCells {own : Nat → Prop} {w w' : World} (h : Keeps own w w') {b : Nat} (ha : own b ∨ w.heap.size ≤ b) (o : Nat) (vs : List Value) : Keeps own w (w'.setCells b o vs) := by
  obtain ⟨h1, h2, h3⟩ := os_setCells b vs o w'
  refine ⟨h1.trans h.os, h2.trans h.tape, h3.trans h.output, by rw [size_setCells]; exact h.size, fun k hk ho => ?_⟩
  rw [heap_setCells_other b k (fun e => by subst e; rcases ha with c | c; exact ho c; omega)]
  exact h.block k hk ho
theorem Keeps.setRow {own : Nat → Prop} {w w' : World} (h : Keeps own w w') {b : Nat} (ha : own b ∨ w.heap.size ≤ b) (cs : Array Value) : Keeps own w (w'.setRow b cs) :=
  ⟨h.os, h.tape, h.output, by simp; exact h.size, fun k hk ho => (setRow_other w' b k cs (fun e => by subst e; rcases ha with c | c; exact ho c; omega)).trans (h.block k hk ho)⟩
theorem Keeps.grown {own : Nat → Prop} {w w' w2 : World} {row : Option Nat} (h : Keeps own w w') (hg : w'.grownBy w2 row) (hr : ∀ k, row = some k → own k ∨ w.heap.size ≤ k) : Keeps own w w2 :=
  ⟨hg.os.trans h.os, hg.tape.trans h.tape, hg.output.trans h.output, Nat.le_trans h.size hg.size, fun k hk ho =>
    (hg.block k (Nat.lt_of_lt_of_le hk h.size) (fun e => by rcases hr k e.symm with c | c; exact ho c; omega)).trans (h.block k hk ho)⟩
theorem heap_setCells_same (b : Nat) (t : TypeId) : ∀ (vs : List Value) (o : Nat) (w : World) (cs : Array Value), w.heap[b]? = some (.cells cs t (0, 0)) → o + vs.length ≤ cs.size →
    ∃ cs', (w.setCells b o vs).heap[b]? = some (.cells cs' t (0, 0)) ∧ cs'.size = cs.size ∧ (∀ j, j < vs.length → cs'[o + j]? = vs[j]?) ∧ (∀ i, i < o ∨ o + vs.length ≤ i → cs'[i]? = cs[i]?)
  | [], o, w, cs, h, _ => ⟨cs, h, rfl, fun j hj => by simp at hj, fun _ _ => rfl⟩
  | v :: r, o, w, cs, h, hs => by
    have h1 := heap_setCell_same w b o cs t v h
    have hlen : (v :: r).length = r.length + 1 := rfl
    obtain ⟨cs', a1, a2, a3, a4⟩ := heap_setCells_same b t r (o + 1) (w.setCell ⟨b, o, none⟩ v) _ h1 (by
      have e : (cs.setIfInBounds o v).size = cs.size := Array.size_setIfInBounds
      omega)
    refine ⟨cs', by rw [World.setCells]; exact a1, by rw [a2]; simp, fun j hj => ?_, fun i hi => ?_⟩
    · cases j with
      | zero =>
        rw [Nat.add_zero, a4 o (.inl (by omega)), Array.getElem?_setIfInBounds_self_of_lt (by omega)]
        rfl
      | succ j => rw [show o + (j + 1) = o + 1 + j by omega, a3 j (by simp at hj; omega)]; rfl
    · rw [a4 i (by omega), Array.getElem?_setIfInBounds_ne (by omega)]
theorem wpList_store_new {P : Program} {ops : Array Oper} {rest : List Oper} {op : Oper} {a : Act} {w : World} {Q : Exit → Act → World → Prop} (hgd : op.guard = none) (ty : TypeId) (x y : Operand) (ho : op.op = .store ty x y)
    (c c' : Array Value) (t : TypeId) (hx : a.eval x = .pointer (some ⟨w.heap.size, 0, none⟩)) (hy : a.eval y = .agg c') (hi : (P.info? ty).map (·.size) = some c'.size) (hsz : c.size = c'.size) (h1 : c'.all (·.oneCell') = true)
    (h : wpList P ops Q rest (a.put op.dst undef) (w.alloc (.cells c' t))) : wpList P ops Q (op :: rest) a (w.alloc (.cells c t)) :=
  wpList_plain hgd fun _ hK => by
    unfold Oper.wp execOp
    have hr := run_storeVar_row (P := P) (w.alloc (.cells c t)) w.heap.size t ty c c' (heap_alloc_new w _) hi hsz h1
    rw [setRow_alloc] at hr
    simp only [ho, hx, hy, Instr.storeAt, Instr.sureAddr, Sem.run_bind, Sem.run_pure, Result.andThen_ok, hr]
    exact hK _ _ h
def loadMany (P : Program) (t : TypeId) (w : World) (g o : Nat) : Result Value := (Instr.loadAt t (.pointer (some ⟨g, o, none⟩))).run P w
def storeMany (P : Program) (t : TypeId) (w : World) (g o : Nat) (v : Value) : Result Unit := (Instr.storeAt t (.pointer (some ⟨g, o, none⟩)) v).run P w
def loadS (t : TypeId) (v : Value) : Sem Value := Instr.loadAt t v
def storeS (t : TypeId) (p v : Value) : Sem Unit := Instr.storeAt t p v
def buildS (t : TypeId) (n : Nat) (l : Array (Nat × Value)) : Sem Value := Instr.buildSlice t n l
theorem loadMany_range {P : Program} {t : TypeId} {w : World} {g o : Nat} (cs : List Value) (d : TypeDesc) (hc : w.rangeAt g o cs) (hu : P.underlying t = some d) (hd : d.isRow = true) (hi : (P.info? t).map (·.size) = some cs.length) :
    loadMany P t w g o = .ok (.agg cs.toArray) w := run_loadAt_mid w g o t cs d hc hu hd hi
theorem storeMany_range {P : Program} {t : TypeId} {w : World} {g o : Nat} (cs : List Value) (ht : w.there g o cs.length) (hi : (P.info? t).map (·.size) = some cs.length) (h1 : ∀ v ∈ cs, v.oneCell' = true) :
    storeMany P t w g o (.agg cs.toArray) = .ok () (w.setCells g o cs) := run_storeAt_mid w g o t cs.toArray (by simpa using ht) (by simpa using hi) (all_oneCell_toArray h1)
theorem wpStill_loadMany {P : Program} {ops : Array Oper} {w : World} {Q : Act → Prop} {a : Act} {o : Oper} {rest : List Oper} (hg : o.guard = none) (ty : TypeId) (x : Operand) (ho : o.op = .load ty x) (b off : Nat) (hx : a.eval x = .pointer (some ⟨b, off, none⟩))
    (v : Value) (hl : loadMany P ty w b off = .ok v w) (h : wpStill P ops w Q rest (a.put o.dst v)) : wpStill P ops w Q (o :: rest) a := by
  have hw : Region.wanted o (yielded ops a.tmps) = true := by simp [Region.wanted, hg]
  refine wpStill_step (fun K hK => ?_)
  rw [if_pos hw]
  unfold Oper.still execOp
  unfold loadMany at hl
  simp only [ho, hx, Sem.run_bind, Sem.run_pure, Result.andThen_ok, hl]
  rw [Oper.stillUpon_value]
  exact hK _ h
theorem wpList_storeMany {P : Program} {ops : Array Oper} {rest : List Oper} {op : Oper} {a : Act} {w w' : World} {Q : Exit → Act → World → Prop} (hgd : op.guard = none) (ty : TypeId) (x y : Operand) (ho : op.op = .store ty x y)
    (b off : Nat) (v : Value) (hx : a.eval x = .pointer (some ⟨b, off, none⟩)) (hy : a.eval y = v) (hs : storeMany P ty w b off v = .ok () w') (h : wpList P ops Q rest (a.put op.dst undef) w') : wpList P ops Q (op :: rest) a w :=
  wpList_plain hgd fun _ hK => by
    unfold Oper.wp execOp
    unfold storeMany at hs
    simp only [ho, hx, hy, Sem.run_bind, Sem.run_pure, Result.andThen_ok, hs]
    exact hK _ _ h
theorem run_buildOne {P : Program} (w : World) (t e : TypeId) (c : Array Value) (ie : TypeInfo) (z : Value) (hu : P.underlying t = some (.slice e)) (hie : P.info? e = some ie) (hz : ie.zero = some z) (hs : c.size = ie.size) (h0 : 0 < ie.size) (h1 : ie.size ≤ 16777216) :
    (Instr.buildSlice t 1 #[(0, .agg c)]).run P w = .ok (.slice (some ⟨w.heap.size, 0, none⟩) 1 1) (w.alloc (.cells c e)) := by
  refine run_buildSlice w t e 1 #[(0, .agg c)] c ie z hu hie hz (by omega) (by omega) ?_
  have h := Great.fill_whole (s := ie.size) h0 [.agg c] ((Array.range (1 * ie.size)).map (z.cells[· % z.cells.size]!)) (fun v hv => by
    rw [List.mem_singleton] at hv
    subst hv
    exact hs) (by simp)
  refine Eq.trans ?_ (h.trans ?_)
  · rfl
  · simp [Value.cells]
theorem rangeAt_keep {w w' : World} {g o : Nat} {cs : List Value} (h : w.rangeAt g o cs) (e : w'.heap[g]? = w.heap[g]?) : w'.rangeAt g o cs := fun j v hv => (World.cell?_of_block (a := ⟨g, o + j, none⟩) e).trans (h j v hv)
theorem rangeAt_whole {w : World} {g : Nat} {cs : List Value} {t : TypeId} {fr : Nat × Nat} (h : w.heap[g]? = some (.cells cs.toArray t fr)) : w.rangeAt g 0 cs := fun j v hv => by
  rw [cell_of_row w g (0 + j) _ t fr h, Nat.zero_add]
  simpa using hv
def textCells (n : Nat) (s : ByteArray) : List Value := (List.range n).map fun j => .int .u8 (bt s j)
@[simp] theorem length_textCells (n : Nat) (s : ByteArray) : (textCells n s).length = n := by simp [textCells]
theorem textCells_get (n : Nat) (s : ByteArray) {j : Nat} (h : j < n) : (textCells n s)[j]? = some (.int .u8 (bt s j)) := by simp [textCells, h]
theorem textCells_one (n : Nat) (s : ByteArray) : ∀ v ∈ textCells n s, v.oneCell' = true := by
  intro v hv
  simp only [textCells, List.mem_map] at hv
  obtain ⟨_, _, rfl⟩ := hv
  rfl
def ofFn (n : Nat) (f : Nat → Int) : ByteArray := strOfNums ((List.range n).map f)
theorem ofFn_size (n : Nat) (f : Nat → Int) : (ofFn n f).size = n := by unfold ofFn; rw [strOfNums_size]; simp
theorem ofFn_bt (n : Nat) (f : Nat → Int) {k : Nat} (hk : k < n) (h0 : 0 ≤ f k) (h1 : f k ≤ 255) : bt (ofFn n f) k = f k := by
  have e : ((List.range n).map f).getD k 0 = f k := by simp [List.getD_eq_getElem?_getD, List.getElem?_map, List.getElem?_range hk]
  unfold ofFn
  rw [bt_strOfNums _ k (by rw [e]; exact h0) (by rw [e]; exact h1), e]
theorem text_ext {a b : ByteArray} (hs : a.size = b.size) (h : ∀ k, k < a.size → bt a k = bt b k) : a = b := by
  apply ByteArray.ext
  apply Array.ext (by simpa using hs)
  intro i h1 h2
  have := h i (by simpa using h1)
  rw [bt_list, bt_list] at this
  simp only [List.getD_eq_getElem?_getD] at this
  rw [List.getElem?_eq_getElem (by simpa using h1), List.getElem?_eq_getElem (by simpa using h2)] at this
  simp only [Option.getD_some, Array.getElem_toList] at this
  exact UInt8.toNat_inj.1 (by omega)
theorem text_whole (s : ByteArray) : ofFn s.size (bt s) = s :=
  text_ext (ofFn_size _ _) fun k hk => by rw [ofFn_size] at hk; exact ofFn_bt _ _ hk (bt_nonneg _ _) (bt_le _ _)
theorem bt_append (a b : ByteArray) (k : Nat) : bt (a ++ b) k = if k < a.size then bt a k else bt b (k - a.size) := by
  rw [bt_list, bt_list, bt_list, ByteArray.data_append, Array.toList_append]
  simp only [List.getD_eq_getElem?_getD]
  have hl : a.data.toList.length = a.size := by simp
  by_cases c : k < a.size
  · rw [if_pos c, List.getElem?_append_left (by rw [hl]; exact c)]
  · rw [if_neg c, List.getElem?_append_right (by rw [hl]; omega), hl]
theorem rangeAt_text {w : World} {b o n : Nat} {s : ByteArray} {cs : Array Value} {t : TypeId} {fr : Nat × Nat} (hb : w.heap[b]? = some (.cells cs t fr)) (h : ∀ j, j < n → cs[o + j]? = some (.int .u8 (bt s j))) : w.rangeAt b o (textCells n s) := fun j v hv => by
  have hj : j < n := by have := (List.getElem?_eq_some_iff.1 hv).1; simpa using this
  rw [cell_of_row w b (o + j) cs t fr hb, h j hj, ← textCells_get n s hj, hv]
theorem conv_text {P : Program} (src e dst : TypeId) (hs : P.underlying src = some (.slice e)) (he : P.underlying e = some (.int .u8)) (hd : P.underlying dst = some .string)
    (w : World) (b o n cap : Nat) (s : ByteArray) (hn : s.size = n) (h : w.rangeAt b o (textCells n s)) : (convert src dst (.slice (some ⟨b, o, none⟩) n cap)).run P w = .ok (.string s) w := by
  have := run_convert_bytes_arg w src e hs he b o n cap ((List.range n).map (bt s)) (by simp) (fun i hi => by
    rw [h i _ (textCells_get n s hi)]
    simp [List.getD_eq_getElem?_getD, List.getElem?_map, List.getElem?_range hi]) dst hd
  rw [this]
  subst hn
  exact congrArg (fun z => Result.ok (Value.string z) w) (text_whole s)
end Go.Proofs.YtcjfnfdinhbdlaaGreatDoor
namespace Go.Proofs.YtcjfnfdinhbdlaaGreatDoor
set_option maxRecDepth 100000
open Go.ChangeShapes Go.WideShapes Go.ChangeAt Go.RowKit Go.PlainAid
structure RowV where
  kind : Int
  meth : Int
  needs : Int
  low : Int
  high : Int
  how : Int
def tab : List RowV := [⟨1, 1, 0, 0, 1073741824, 2⟩, ⟨1, 2, 1, 0, 0, 0⟩, ⟨1, 3, 2, 0, 1, 1⟩, ⟨2, 1, 0, -1073741824, 1073741824, 3⟩, ⟨2, 4, 0, 0, 0, 0⟩, ⟨2, 5, 0, 0, 0, 0⟩, ⟨3, 6, 1, 0, 0, 0⟩, ⟨3, 7, 0, -1, 1073741824, 4⟩, ⟨4, 8, 1, 0, 0, 0⟩, ⟨4, 9, 0, -1, 1073741824, 4⟩, ⟨5, 10, 1, 0, 1, 1⟩, ⟨5, 11, 1, 0, 1, 1⟩, ⟨5, 12, 1, 0, 1, 1⟩, ⟨6, 13, 0, 0, 0, 0⟩, ⟨6, 14, 0, 0, 0, 0⟩]
theorem tab_len : tab.length = 15 := rfl
def ruleOf (kind meth : Int) : Option RowV := tab.find? fun r => r.kind == kind && r.meth == meth
theorem rule_none {kind meth : Int} (h : ∀ (j : Nat) r, tab[j]? = some r → ¬ (r.kind = kind ∧ r.meth = meth)) : ruleOf kind meth = none := by
  unfold ruleOf
  rw [List.find?_eq_none]
  intro r hr
  obtain ⟨j, hj⟩ := List.getElem?_of_mem hr
  have := h j r hj
  simp only [Bool.and_eq_true, beq_iff_eq]
  exact this
theorem rule_some {kind meth : Int} {k : Nat} {r : RowV} (hr : tab[k]? = some r) (e1 : r.kind = kind) (e2 : r.meth = meth) (h : ∀ (j : Nat) r, j < k → tab[j]? = some r → ¬ (r.kind = kind ∧ r.meth = meth)) : ruleOf kind meth = some r := by
  unfold ruleOf
  rw [List.find?_eq_some_iff_getElem]
  obtain ⟨hk, hr'⟩ := List.getElem?_eq_some_iff.1 hr
  refine ⟨by simp [e1, e2], k, hk, hr', fun j hj => ?_⟩
  have := h j tab[j] hj (List.getElem?_eq_getElem (by omega))
  simp only [Bool.not_eq_true', Bool.and_eq_false_iff, beq_eq_false_iff_ne]
  by_cases c : tab[j].kind = kind
  · exact .inr fun d => this ⟨c, d⟩
  · exact .inl c
def RowV.cells (r : RowV) : List Value := [.int .i64 r.kind, .int .i64 r.meth, .int .i64 r.needs, .int .i64 r.low, .int .i64 r.high]
def tabCells : List Value := tab.flatMap RowV.cells
def RulesAt (w : World) : Prop := 1 < w.heap.size ∧ w.rangeAt 1 0 tabCells
theorem RulesAt.on {w w' : World} (h : RulesAt w) (hb : Below w.heap.size w w') : RulesAt w' :=
  ⟨Nat.lt_of_lt_of_le h.1 hb.size, fun j v hj => (hb.cell (p := ⟨1, 0 + j, none⟩) h.1).trans (h.2 j v hj)⟩
def tabWhole : Value := .agg tabCells.toArray
theorem load_rules {w : World} (h : RulesAt w) : (loadS 288 (.pointer (some ⟨1, 0, none⟩))).run Tryz.prog w = .ok tabWhole w :=
  run_loadAt_mid w _ 0 _ tabCells _ h.2 Tryz.underlying288 rfl (by kernel_rfl)
def idxR (v i : Value) : Sem Value := Instr.index 288 v i
theorem index_rule (v i : Value) : Instr.index 288 v i = idxR v i := rfl
theorem load_tab (v : Value) : Instr.loadAt 288 v = loadS 288 v := rfl
theorem run_idx : ∀ (k : Nat) (r : RowV), tab[k]? = some r → ∀ w, (idxR tabWhole (.int .i64 k)).run Tryz.prog w = .ok (.agg #[.int .i64 r.kind, .int .i64 r.meth, .int .i64 r.needs, .int .i64 r.low, .int .i64 r.high]) w
  | 0, _, h, _ => by cases h; kernel_rfl
  | 1, _, h, _ => by cases h; kernel_rfl
  | 2, _, h, _ => by cases h; kernel_rfl
  | 3, _, h, _ => by cases h; kernel_rfl
  | 4, _, h, _ => by cases h; kernel_rfl
  | 5, _, h, _ => by cases h; kernel_rfl
  | 6, _, h, _ => by cases h; kernel_rfl
  | 7, _, h, _ => by cases h; kernel_rfl
  | 8, _, h, _ => by cases h; kernel_rfl
  | 9, _, h, _ => by cases h; kernel_rfl
  | 10, _, h, _ => by cases h; kernel_rfl
  | 11, _, h, _ => by cases h; kernel_rfl
  | 12, _, h, _ => by cases h; kernel_rfl
  | 13, _, h, _ => by cases h; kernel_rfl
  | 14, _, h, _ => by cases h; kernel_rfl
  | k + 15, _, h, _ => by rw [List.getElem?_eq_none (by rw [tab_len]; omega)] at h; cases h
def inB (n low high : Int) : Bool := decide (low ≤ n) && decide (n ≤ high)
theorem inB_iff {n low high : Int} : inB n low high = true ↔ low ≤ n ∧ n ≤ high := by simp [inB]
theorem inB_no {n low high : Int} : inB n low high = false ↔ ¬ (low ≤ n ∧ n ≤ high) := by rw [← inB_iff]; simp
theorem within_any (n low high : Int) (w : World) : Calls Tryz.prog 183 #[.int .i64 n, .int .i64 low, .int .i64 high] w fun e w' => e = .returned (.bool (inB n low high)) ∧ w = w' := by
  by_cases h1 : low ≤ n
  · by_cases h2 : n ≤ high
    · have h := Lib.hid (inB_iff.2 ⟨h1, h2⟩)
      go_enter Tryz.func183, Tryz.ntmps183
      go_wp2
      go_returns
      exact ⟨by rw [h.out]; rfl, rfl⟩
    · have h := Lib.hid (show inB n low high = false from inB_no.2 fun c => h2 c.2)
      go_enter Tryz.func183, Tryz.ntmps183
      go_wp2
      go_returns
      exact ⟨by rw [h.out]; rfl, rfl⟩
  · have h := Lib.hid (show inB n low high = false from inB_no.2 fun c => h1 c.1)
    go_enter Tryz.func183, Tryz.ntmps183
    go_wp2
    go_returns
    exact ⟨by rw [h.out]; rfl, rfl⟩
def argB (n : Int) (needed : Bool) : Bool := if needed then inB n 0 1073741824 else n == 0
theorem argument_any (n : Int) (b : Bool) (w : World) : Calls Tryz.prog 185 #[.int .i64 n, .bool b] w fun e w' => e = .returned (.bool (argB n b)) ∧ w = w' := by
  cases b
  · have h := Lib.hid (show argB n false = (n == 0) from rfl)
    go_enter Tryz.func185, Tryz.ntmps185
    go_wp2
    go_returns
    exact ⟨by rw [h.out]; rfl, rfl⟩
  · have h := Lib.hid (show argB n true = inB n 0 1073741824 from rfl)
    go_enter Tryz.func185, Tryz.ntmps185
    go_wp2_with fail
    refine (within_any n 0 1073741824 _).mono ?_
    rintro _ _ ⟨rfl, rfl⟩
    go_wp2
    go_returns
    exact ⟨by rw [h.out]; rfl, rfl⟩
end Go.Proofs.YtcjfnfdinhbdlaaGreatDoor
namespace Go.Proofs.YtcjfnfdinhbdlaaGreatDoor
set_option maxRecDepth 100000
open Go.ChangeShapes Go.WideShapes Go.ChangeAt Go.RowKit Go.PlainAid
attribute [local go_sem ↓ high] index_rule load_tab
theorem store_r (p v : Value) : Instr.storeAt 248 p v = storeS 248 p v := rfl
attribute [local go_sem ↓ high] store_r
def cells5 (a b c d e : Int) : Array Value := #[.int .i64 a, .int .i64 b, .int .i64 c, .int .i64 d, .int .i64 e]
theorem one5 (a b c d e : Int) : (cells5 a b c d e).all (·.oneCell') = true := by simp [cells5, Value.oneCell']
theorem store_rule {w : World} {b : Nat} {c : Array Value} (h : w.heap[b]? = some (.cells c 248 (0, 0))) (hc : c.size = 5) (x0 x1 x2 x3 x4 : Int) :
    (storeS 248 (.pointer (some ⟨b, 0, none⟩)) (.agg #[.int .i64 x0, .int .i64 x1, .int .i64 x2, .int .i64 x3, .int .i64 x4])).run Tryz.prog w = .ok () (w.setRow b (cells5 x0 x1 x2 x3 x4)) := by
  have hsz : (Tryz.prog.info? 248).map (·.size) = some 5 := by kernel_rfl
  have h := run_storeVar_row (P := Tryz.prog) w b 248 248 c (cells5 x0 x1 x2 x3 x4) h (by rw [hsz]; rfl) hc (one5 ..)
  unfold storeS
  simp only [Instr.storeAt, Instr.sureAddr, Sem.run_bind, Sem.run_pure, Result.andThen_ok]
  exact h
theorem store_rule_new (w : World) (c : Array Value) (hc : c.size = 5) (x0 x1 x2 x3 x4 : Int) :
    (storeS 248 (.pointer (some ⟨w.heap.size, 0, none⟩)) (.agg #[.int .i64 x0, .int .i64 x1, .int .i64 x2, .int .i64 x3, .int .i64 x4])).run Tryz.prog (w.alloc (.cells c 248)) = .ok () (w.alloc (.cells #[.int .i64 x0, .int .i64 x1, .int .i64 x2, .int .i64 x3, .int .i64 x4] 248)) := by
  rw [store_rule (heap_alloc_new w _) hc, setRow_alloc]
  rfl
def foundV : Option RowV → Value
  | none => .tuple #[.agg #[.int .i64 0, .int .i64 0, .int .i64 0, .int .i64 0, .int .i64 0], .bool false]
  | some r => .tuple #[.agg #[.int .i64 r.kind, .int .i64 r.meth, .int .i64 r.needs, .int .i64 r.low, .int .i64 r.high], .bool true]
set_option maxHeartbeats 1000000 in
theorem ofind_any (kind meth : Int) (w : World) (hR : RulesAt w) :
    Calls Tryz.prog 184 #[.int .i64 kind, .int .i64 meth] w fun e w' => e = .returned (foundV (ruleOf kind meth)) ∧ Below w.heap.size w w' := by
  have q1 := heap_alloc_new w (.cells #[.int .i64 0, .int .i64 0, .int .i64 0, .int .i64 0, .int .i64 0] 248)
  have hb1 : Below w.heap.size w (w.alloc (.cells #[.int .i64 0, .int .i64 0, .int .i64 0, .int .i64 0, .int .i64 0] 248)) := by go_grown
  have z1 : (w.alloc (.cells #[.int .i64 0, .int .i64 0, .int .i64 0, .int .i64 0, .int .i64 0] 248)).heap.size = w.heap.size + 1 := by simp
  have ld := load_rules (hR.on hb1)
  clear hR
  go_enter Tryz.func184, Tryz.ntmps184
  go_wp2_with fail
  generalize w.alloc (.cells #[.int .i64 0, .int .i64 0, .int .i64 0, .int .i64 0, .int .i64 0] 248) = W1 at *
  have Q1 := Lib.hid q1
  have HB1 := Lib.hid hb1
  have Z1 := Lib.hid z1
  clear q1 hb1 z1 ld
  go_loopw [9] (fun i wr => ∃ k : Nat, k ≤ 15 ∧ i = .int .i64 k ∧ Hid (∀ (j : Nat) r, j < k → tab[j]? = some r → ¬ (r.kind = kind ∧ r.meth = meth)) ∧ Below W1.heap.size W1 wr) (fun i _ => 15 - (intOf i).toNat)
  case atStart => exact ⟨0, Nat.zero_le _, rfl, fun _ _ h => absurd h (Nat.not_lt_zero _), Below.refl _ _⟩
  case round =>
    obtain ⟨k, hk, rfl, HN, hb⟩ := hrel
    have HB := Lib.hid hb
    by_cases hlt : k < 15
    · obtain ⟨x, hx⟩ : ∃ x, tab[k]? = some x := ⟨_, List.getElem?_eq_getElem (by rw [tab_len]; exact hlt)⟩
      have hi := run_idx k x hx wr
      have hs := store_rule_new wr #[.int .i64 0, .int .i64 0, .int .i64 0, .int .i64 0, .int .i64 0] rfl x.kind x.meth x.needs x.low x.high
      have HX := Lib.hid hx
      clear hx hb
      by_cases c1 : x.kind = kind
      · by_cases c2 : x.meth = meth
        · subst c1
          subst c2
          have hbw := Lib.hid (HB1.out.on HB.out)
          have q2 : ((wr.alloc (.cells #[.int .i64 x.kind, .int .i64 x.meth, .int .i64 x.needs, .int .i64 x.low, .int .i64 x.high] 248))).heap[w.heap.size]? = some (.cells #[.int .i64 0, .int .i64 0, .int .i64 0, .int .i64 0, .int .i64 0] 248 (0, 0)) := by
            have hlt1 : w.heap.size < W1.heap.size := by have := Z1.out; omega
            have hb2 : Below W1.heap.size W1 (wr.alloc (.cells #[.int .i64 x.kind, .int .i64 x.meth, .int .i64 x.needs, .int .i64 x.low, .int .i64 x.high] 248)) := HB.out.alloc HB.out.size _
            exact (hb2.block _ hlt1).trans Q1.out
          have hs2 := store_rule q2 rfl x.kind x.meth x.needs x.low x.high
          have hq3 := setRow_heap _ _ _ (cells5 x.kind x.meth x.needs x.low x.high) _ _ q2
          have hk3 : Keeps (fun j => j = w.heap.size) (wr.alloc (.cells #[.int .i64 x.kind, .int .i64 x.meth, .int .i64 x.needs, .int .i64 x.low, .int .i64 x.high] 248)) ((wr.alloc (.cells #[.int .i64 x.kind, .int .i64 x.meth, .int .i64 x.needs, .int .i64 x.low, .int .i64 x.high] 248)).setRow w.heap.size (cells5 x.kind x.meth x.needs x.low x.high)) := Keeps.setRow (own := fun j => j = w.heap.size) (Keeps.refl _ _) (.inl rfl) _
          have hbw2 : Below w.heap.size w ((wr.alloc (.cells #[.int .i64 x.kind, .int .i64 x.meth, .int .i64 x.needs, .int .i64 x.low, .int .i64 x.high] 248)).setRow w.heap.size (cells5 x.kind x.meth x.needs x.low x.high)) :=
            (hbw.out.alloc hbw.out.size _).trans (hk3.below (fun _ e => by rw [e]; exact Nat.le_refl _) (by have := hbw.out.size; simp; omega))
          obtain ⟨W3, hW3⟩ : ∃ W3, (wr.alloc (.cells #[.int .i64 x.kind, .int .i64 x.meth, .int .i64 x.needs, .int .i64 x.low, .int .i64 x.high] 248)).setRow w.heap.size (cells5 x.kind x.meth x.needs x.low x.high) = W3 := ⟨_, rfl⟩
          rw [hW3] at hs2 hq3 hbw2
          have HQ3 := Lib.hid hq3
          have HB3 := Lib.hid hbw2
          have HF := Lib.hid (rule_some HX.out rfl rfl HN.out)
          clear q2 hq3 hk3 hbw2 hW3
          go_wp2_with fail
          have hq3 := HQ3.out
          refine bodyPost_ret (v := .tuple #[.agg #[.int .i64 x.kind, .int .i64 x.meth, .int .i64 x.needs, .int .i64 x.low, .int .i64 x.high], .bool true]) (by simp [results, Tryz.results184, go_sem, cell_of_row _ _ _ _ _ _ hq3, cells5]) rfl ?_
          exact ⟨by rw [HF.out]; rfl, HB3.out⟩
        · have c' : (x.meth == meth) = false := beq_eq_false_iff_ne.2 c2
          subst c1
          go_wp2_with fail
          go_roundw
          case rel => exact ⟨k + 1, by omega, by go_num, fun j r hj hr => by
            by_cases e : j = k
            · subst e
              rw [HX.out] at hr
              cases hr
              exact fun d => c2 d.2
            · exact HN.out j r (by omega) hr, HB.out.alloc HB.out.size _⟩
          case measure => simp [intOf]; omega
      · have c' : (x.kind == kind) = false := beq_eq_false_iff_ne.2 c1
        go_wp2_with fail
        go_roundw
        case rel => exact ⟨k + 1, by omega, by go_num, fun j r hj hr => by
          by_cases e : j = k
          · subst e
            rw [HX.out] at hr
            cases hr
            exact fun d => c1 d.1
          · exact HN.out j r (by omega) hr, HB.out.alloc HB.out.size _⟩
        case measure => simp [intOf]; omega
    · obtain rfl : k = 15 := by omega
      clear hb
      have hbw := Lib.hid (HB1.out.on HB.out)
      have q2 : wr.heap[w.heap.size]? = some (.cells #[.int .i64 0, .int .i64 0, .int .i64 0, .int .i64 0, .int .i64 0] 248 (0, 0)) := by
        have hlt1 : w.heap.size < W1.heap.size := by have := Z1.out; omega
        exact (HB.out.block _ hlt1).trans Q1.out
      have hs2 := store_rule q2 rfl 0 0 0 0 0
      have hq3 := setRow_heap _ _ _ (cells5 0 0 0 0 0) _ _ q2
      have hk3 : Keeps (fun j => j = w.heap.size) wr (wr.setRow w.heap.size (cells5 0 0 0 0 0)) := Keeps.setRow (own := fun j => j = w.heap.size) (Keeps.refl _ _) (.inl rfl) _
      have hbw2 : Below w.heap.size w (wr.setRow w.heap.size (cells5 0 0 0 0 0)) :=
        hbw.out.trans (hk3.below (fun _ e => by rw [e]; exact Nat.le_refl _) hbw.out.size)
      obtain ⟨W3, hW3⟩ : ∃ W3, wr.setRow w.heap.size (cells5 0 0 0 0 0) = W3 := ⟨_, rfl⟩
      rw [hW3] at hs2 hq3 hbw2
      have HQ3 := Lib.hid hq3
      have HB3 := Lib.hid hbw2
      have HF := Lib.hid (rule_none (kind := kind) (meth := meth) fun j r hr => HN.out j r (by have := (List.getElem?_eq_some_iff.1 hr).1; rw [tab_len] at this; exact this) hr)
      clear q2 hq3 hk3 hbw2 hW3
      go_wp2_with fail
      have hq3 := HQ3.out
      refine bodyPost_ret (v := .tuple #[.agg #[.int .i64 0, .int .i64 0, .int .i64 0, .int .i64 0, .int .i64 0], .bool false]) (by simp [results, Tryz.results184, go_sem, cell_of_row _ _ _ _ _ _ hq3, cells5]) rfl ?_
      exact ⟨by rw [HF.out]; rfl, HB3.out⟩
end Go.Proofs.YtcjfnfdinhbdlaaGreatDoor
namespace Go.Proofs.YtcjfnfdinhbdlaaGreatDoor
set_option maxRecDepth 100000
open Go.ChangeShapes Go.WideShapes Go.ChangeAt Go.RowKit Go.PlainAid
def h8 (n : Int) : List Int := [n / 72057594037927936, n / 281474976710656 % 256, n / 1099511627776 % 256, n / 4294967296 % 256, n / 16777216 % 256, n / 65536 % 256, n / 256 % 256, n % 256]
def ordS (n : Int) : ByteArray := strOfNums (h8 (n + 9223372036854775808))
theorem h8_length (n : Int) : (h8 n).length = 8 := rfl
end Go.Proofs.YtcjfnfdinhbdlaaGreatDoor
