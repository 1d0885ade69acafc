/- The frame of every law of this seat, over no dump: a law whose row lists package-level variables, whose walk returns true and leaves old memory alone, meets its row. Plain lemmas of this proof, over no dump: bits of numbers as sums; conversions between rows of bytes and strings; a copy of a string into a row. -/
import Derived.Test.YtppjmmdiglnkfaaLaw
import Derived.LaidMore
import Derived.Deep.Fields
import Derived.Deep.Slices
import Derived.Stop.Joined
import Derived.WalkKit
import Derived.ProofKit
import Derived.OpenShut
import Derived.Handy
import Derived.Lib.Hide
import Derived.PlainAid
import Derived.Laws.DeepNot64
import Derived.Lib.BufferWrite
import Derived.Lib.ConvBytes
namespace Go.Proofs.Ytppjmmdiglnkfaa
open Go.ChangeShapes Go.WideShapes Go.ChangeAt Go.RowKit Go.Deep

/-- A law that lists variables, lifted. -/
theorem law_lift_laid {C : Checked} {os : Os} {f : FuncId} {fn : Func} {s : ChangeSpec} {tb : TypeId} {H : Type} {enc : TypeId × Value → H} {laid : List (String × DataW Unit)}
    (own : ownKnob C.prog.godebug = none) (started : os.Started) (noInit : C.prog.inits.idxOf? f = none) (hfn : C.prog.funcs[f]? = some fn)
    (hl : laidOutB C.prog = true) (hr : (fn.params.toList.all fun t => C.prog.readableRec t && decide (t < C.prog.types.size)) = true) (hrt : fn.resultTypes = #[tb]) (hb : C.prog.underlying tb = some .bool) (hv : s.vars = [])
    (hf : ∀ ds : List (DataW H), ds.length = fn.params.size → s.fn H (ds ++ []) = { results := [.lit (.bool true)], args := ds })
    (witness : ∃ (w : World) (tape : Tape) (i : Input), w.os = os ∧ (w.forCall tape i).Shaped C.prog ∧ i.vars = [] ∧ Input.okWide C.prog (w.forCall tape i) .any w.heap.size f i ∧
      ((s.pre enc C.prog fn [] false (w.forCall tape i).memory i.args ∧ laidMetH C.prog laid (w.forCall tape i).memory) ∧ sizedMet enc C.prog fn (OpenSpec.ofChange s) false (w.forCall tape i).memory i.args) ∧ ({} : Assume).holds C.prog (lone (Frame.enter C.prog f i.args .normal) [] (w.forCall tape i)))
    (walk : ∀ (W : World) (base : Nat) (args : Array Value) (ds : List (DataW H)) (ps : List MemPlace),
      (∀ (j : Nat) t v, fn.params[j]? = some t → args[j]? = some v → Value.okWide C.prog W .any base t v) →
      DataW.TrodAll enc C.prog W 0 (fun _ => true) true fn.params.toList args.toList ds ps →
      (DataW.weightsEach C.prog fn.params.toList ds).all (· ≤ reachBytes) = true → laidMetH C.prog laid W →
      Calls C.prog f args W fun e W' => e = .returned (.bool true) ∧ Below W.heap.size W W') :
    ReturnsInHanded {} C os f .any (fun w args => (s.pre enc C.prog fn [] false w args ∧ laidMetH C.prog laid w) ∧ sizedMet enc C.prog fn (OpenSpec.ofChange s) false w args) (s.post enc C.prog fn false true false false) := by
  refine returnsInHanded_of_change_and (X := fun w _ => laidMetH C.prog laid w) (fun _ _ _ hh h => h.of_heap hh) own started noInit hfn witness ?_
  intro W base args ds gs before hval hW _ hsz hL _
  have hr' : ∀ t ∈ fn.params.toList, C.prog.readableRec t = true ∧ t < C.prog.types.size := fun t ht => by
    have := List.all_eq_true.1 hr t ht
    simpa using this
  have hW' := hW
  obtain ⟨p, q, hA, hV, hpq, _, _⟩ := hW'
  rw [hv] at hV
  cases gs with
  | cons g gs => exact hV.elim
  | nil =>
    have hlen : ds.length = fn.params.size := by
      have : ∀ {ts : List TypeId} {vs : List Value} {xs : List (DataW H)} {ps : List MemPlace}, DataW.TrodAll enc C.prog W 0 (fun _ => true) true ts vs xs ps → xs.length = ts.length := by
        intro ts
        induction ts with
        | nil => intro vs xs ps h; cases vs <;> cases xs <;> first | rfl | exact h.elim
        | cons t ts ih =>
          intro vs xs ps h
          cases vs with
          | nil => exact h.elim
          | cons v vs =>
            cases xs with
            | nil => exact h.elim
            | cons x xs =>
              obtain ⟨_, _, _, h2, _⟩ := h
              simp [ih h2]
      simpa using this hA
    have hvt : s.plain.varTypes C.prog = [] := by
      unfold DataSpec.varTypes
      rw [show s.plain.vars = [] from hv]
      rfl
    rw [List.append_nil, hvt, List.append_nil] at hsz
    exact (walk W base args ds p hval hA hsz hL).mono fun e W' ⟨he, hB⟩ => ⟨_, he, law_met hl hr' hrt hb hv (hf ds hlen) hW hB⟩

section
variable {H : Type} {enc : TypeId × Value → H} {P : Program} {w : World} {base : Nat} {sp : Nat → Bool} {held : Bool}
/-- What one variable of the list reads as. -/
theorem laid_one : ∀ {l : List (String × DataW Unit)} {ps : List MemPlace}, DataW.LaidVars P w l ps → ∀ {n : String} {d : DataW Unit}, (n, d) ∈ l →
    ∃ g t cs fuel p, P.globalNamed n = some g ∧ (P.globals[g]?).map (·.type) = some t ∧ w.var? P n = some cs ∧ DataW.trod (fun _ => ()) P w 0 (fun _ => true) false fuel t cs.toList = some (d, p)
  | [], _, _, _, _, hm => by cases hm
  | (n', d') :: r, ps, h, n, d, hm => by
    obtain ⟨g, t, cs, fuel, p, q, h1, h2, h3, h4, h5, _⟩ := h
    rcases List.mem_cons.1 hm with e | hm
    · cases e
      exact ⟨g, t, cs, fuel, p, h1, h2, h3, h4⟩
    · exact laid_one h5 hm
/-- A struct of numbers. -/
theorem trod_ints {e : TypeId} {fs : Array Field} {fuel : Nat} {cs : List Value} {x : DataW H × List MemPlace} (he : P.underlying e = some (.struct fs)) (hone : oneCellFields P fs = true) (hC : P.cellsOf e = fs.size)
    (hint : ∀ (j : Nat) f, fs[j]? = some f → P.underlying f.type = some (.int .i64)) (h : DataW.trod enc P w base sp held fuel e cs = some x) (ns : List Int) (hx : x.1 = .agg (ns.map fun n => .lit (.int .i64 n))) : cs = ns.map (Value.int .i64) := by
  obtain ⟨ys, n, _, rfl, hlen, hyl, hf⟩ := DataW.trod_struct he h
  have hlen' : cs.length = fs.size := hlen.trans hC
  have hm : ys.map (·.1) = ns.map fun n => DataW.lit (.int .i64 n) := by simpa using hx
  have hnl : ns.length = fs.size := by have := congrArg List.length hm; simpa [hyl] using this.symm
  apply List.ext_getElem?
  intro i
  by_cases hi : i < fs.size
  · have hfi : fs[i]? = some fs[i] := Array.getElem?_eq_getElem hi
    obtain ⟨ho, hk⟩ := hone_of hone i _ hfi
    have h1 := hf i _ hfi
    rw [ho, hk, List.drop_eq_getElem_cons (by omega)] at h1
    have hy : ys[i]? = some (ys[i]'(by omega)) := List.getElem?_eq_getElem (by omega)
    rw [hy] at h1
    obtain ⟨m, hcs, hye, _⟩ := DataW.trod_int (hint i _ hfi) h1
    have e1 : cs[i]'(by omega) = .int .i64 m := by
      have : [cs[i]'(by omega)] = [Value.int .i64 m] := hcs
      simpa using this
    have e2 := congrArg (·[i]?) hm
    simp only [List.getElem?_map, hy, Option.map_some, hye] at e2
    cases hn : ns[i]? with
    | none => rw [hn] at e2; simp at e2
    | some z =>
      rw [hn] at e2
      simp only [Option.map_some, Option.some.injEq, DataW.lit.injEq, Lit.int.injEq, true_and] at e2
      rw [List.getElem?_eq_getElem (by omega), e1, List.getElem?_map, hn, e2]
      rfl
  · rw [List.getElem?_eq_none (by omega), List.getElem?_eq_none (by simp; omega)]
theorem flat_rows (m : Nat) (f : Nat → List Value) : ∀ (n : Nat) (l : List Value), l.length = n * m → (∀ i, i < n → (l.drop (i * m)).take m = f i) → l = (List.range n).flatMap f
  | 0, l, h, _ => by rw [Nat.zero_mul] at h; rw [List.length_eq_zero_iff.1 h]; rfl
  | n + 1, l, h, hf => by
    have e := flat_rows m f n (l.take (n * m)) (by rw [List.length_take, h, Nat.add_mul]; omega) (fun i hi => by
      rw [← hf i (by omega), List.drop_take, List.take_take]
      congr 1
      have : i * m + m ≤ n * m := by rw [← Nat.succ_mul]; exact Nat.mul_le_mul_right m hi
      omega)
    have e2 := hf n (by omega)
    rw [List.take_of_length_le (by rw [List.length_drop, h, Nat.add_mul]; omega)] at e2
    rw [List.range_succ, List.flatMap_append, ← e]
    simp only [List.flatMap_cons, List.flatMap_nil, List.append_nil]
    rw [← e2, List.take_append_drop]
/-- A table: an array of structs of numbers. -/
theorem trod_table {t e : TypeId} {n : Nat} {fs : Array Field} {fuel : Nat} {cs : List Value} {x : DataW H × List MemPlace} (ht : P.underlying t = some (.array n e)) (he : P.underlying e = some (.struct fs)) (hone : oneCellFields P fs = true) (hC : P.cellsOf e = fs.size) (hT : P.cellsOf t = n * fs.size)
    (hint : ∀ (j : Nat) f, fs[j]? = some f → P.underlying f.type = some (.int .i64)) (h : DataW.trod enc P w base sp held fuel t cs = some x) (ns : List (List Int)) (hx : x.1 = .agg (ns.map fun r => .agg (r.map fun n => .lit (.int .i64 n)))) :
    cs = ns.flatMap fun r => r.map (Value.int .i64) := by
  obtain ⟨xs, m, _, rfl, hlen, hxl, hf⟩ := DataW.trod_array ht h
  have hm : xs.map (·.1) = ns.map fun r => DataW.agg (r.map fun n => .lit (.int .i64 n)) := by simpa using hx
  have hnl : ns.length = n := by have := congrArg List.length hm; simpa [hxl] using this.symm
  have e := flat_rows fs.size (fun i => (ns.getD i []).map (Value.int .i64)) n cs (hlen.trans hT) (fun i hi => by
    have h1 := hf i hi
    rw [hC] at h1
    have hy : xs[i]? = some (xs[i]'(by omega)) := List.getElem?_eq_getElem (by omega)
    rw [hy] at h1
    refine trod_ints he hone hC hint h1 (ns.getD i []) ?_
    have e2 := congrArg (·[i]?) hm
    simp only [List.getElem?_map, hy, Option.map_some] at e2
    rw [List.getD_eq_getElem?_getD]
    cases hn : ns[i]? with
    | none => rw [hn] at e2; simp at e2
    | some z => rw [hn] at e2; simpa using e2)
  rw [e]
  subst hnl
  conv => rhs; rw [show ns = (List.range ns.length).map (fun i => ns.getD i []) from by
    apply List.ext_getElem?
    intro i
    by_cases hi : i < ns.length
    · simp [List.getElem?_map, List.getElem?_range hi, List.getElem?_eq_getElem hi]
    · rw [List.getElem?_eq_none (by omega), List.getElem?_eq_none (by simp; omega)]]
  rw [List.flatMap_map]
end
end Go.Proofs.Ytppjmmdiglnkfaa
namespace Go.Proofs.Ytppjmmdiglnkfaa
open Go.ChangeShapes Go.WideShapes Go.ChangeAt Go.RowKit Go.PlainAid

/-- One behind the other. -/
theorem _root_.Go.RowKit.Below.on {w a b : World} (h : Below w.heap.size w a) (k : Below a.heap.size a b) : Below w.heap.size w b := h.trans (k.mono h.size)
theorem ret_i {k : IntKind} {a b : Int} (h : a = b) : Ending.returned (.int k a) = .returned (.int k b) := by rw [h]

/-! ### Bits as sums -/
theorem u64_not (x : Int) (h0 : 0 ≤ x) (h1 : x ≤ 18446744073709551615) : bits .xor .u64 IntKind.u64.max x = 18446744073709551615 - x := by
  obtain ⟨a, rfl⟩ := Int.eq_ofNat_of_zero_le h0
  show bits .xor .u64 18446744073709551615 (a : Int) = _
  show IntKind.u64.wrap ((BitVec.ofInt 64 18446744073709551615 ^^^ BitVec.ofInt 64 (a : Int)).toNat : Int) = _
  have e : BitVec.ofInt 64 18446744073709551615 = BitVec.allOnes 64 := by decide +kernel
  rw [e, BitVec.allOnes_xor, BitVec.toNat_not, ofInt_u64 a (by omega), IntKind.wrap_u64]
  omega
theorem u64_low (u : Int) (h0 : 0 ≤ u) (h1 : u ≤ 18446744073709551615) : bits .and .u64 u 1 = u % 2 := by
  rw [u64_and u 1 h0 (by omega) (by omega) (by omega)]
  show ((u.toNat &&& 1 : Nat) : Int) = _
  rw [Nat.and_one_is_mod]; omega
theorem nat_flip63 (x : Nat) (h : x < 18446744073709551616) : x ^^^ 9223372036854775808 = (x + 9223372036854775808) % 18446744073709551616 := by
  have hd := Nat.xor_div_two_pow (a := x) (b := 9223372036854775808) (n := 63)
  have hm := Nat.xor_mod_two_pow (a := x) (b := 9223372036854775808) (n := 63)
  rw [show (9223372036854775808 : Nat) / 2 ^ 63 = 1 from rfl] at hd
  rw [show (9223372036854775808 : Nat) % 2 ^ 63 = 0 from rfl, Nat.xor_zero] at hm
  have e : (2 : Nat) ^ 63 = 9223372036854775808 := rfl
  rw [e] at hd hm
  have hq : x / 9223372036854775808 = 0 ∨ x / 9223372036854775808 = 1 := by omega
  rcases hq with hq | hq
  · rw [hq, show (0 ^^^ 1 : Nat) = 1 from rfl] at hd; omega
  · rw [hq, show (1 ^^^ 1 : Nat) = 0 from rfl] at hd; omega
theorem u64_flip (x : Int) (h0 : 0 ≤ x) (h1 : x < 18446744073709551616) : bits .xor .u64 x 9223372036854775808 = (x + 9223372036854775808) % 18446744073709551616 := by
  rw [u64_xor x 9223372036854775808 h0 h1 (by omega) (by omega)]
  show ((x.toNat ^^^ 9223372036854775808 : Nat) : Int) = _
  rw [nat_flip63 _ (by omega)]
  omega
/-- An or of a number below 2^i with a multiple of 2^i is their sum. -/
theorem u64_or_add (a c : Int) (i : Nat) (b m : Int) (hb : b = c * 2 ^ i) (hm : m = 2 ^ i) (ha0 : 0 ≤ a) (ha : a < m) (hc : 0 ≤ c) (hbb : b < 18446744073709551616) (hmm : m ≤ 18446744073709551616) :
    bits .or .u64 a b = a + b := by
  obtain ⟨x, rfl⟩ := Int.eq_ofNat_of_zero_le ha0
  obtain ⟨y, rfl⟩ := Int.eq_ofNat_of_zero_le hc
  have hx : x < 2 ^ i := by
    rw [hm] at ha
    have : ((2 : Int) ^ i) = ((2 ^ i : Nat) : Int) := by simp
    omega
  have hb' : b = ((2 ^ i * y : Nat) : Int) := by rw [hb, Int.mul_comm]; simp
  subst hb'
  rw [u64_or_nat x (2 ^ i * y) (by omega) (by omega), Nat.or_comm, ← Nat.two_pow_add_eq_or_of_lt hx y]
  omega
theorem u8_or_128 (a : Int) (h0 : 0 ≤ a) (h1 : a < 256) : bits .or .u8 a 128 = a % 128 + 128 := by
  obtain ⟨x, rfl⟩ := Int.eq_ofNat_of_zero_le h0
  have hx : x < 256 := by omega
  show bits .or .u8 (x : Int) ((128 : Nat) : Int) = _
  rw [u8_or_nat x 128 hx (by omega)]
  have key : ∀ z : Fin 256, (z.val ||| 128) = z.val % 128 + 128 := by decide +kernel
  have := key ⟨x, hx⟩
  simp only at this
  omega
theorem u8_andNot_128 (a : Int) (h0 : 0 ≤ a) (h1 : a < 256) : bits .andNot .u8 a 128 = a % 128 := by
  obtain ⟨x, rfl⟩ := Int.eq_ofNat_of_zero_le h0
  have hx : x < 256 := by omega
  show bits .andNot .u8 (x : Int) ((128 : Nat) : Int) = _
  rw [u8_andNot_nat x 128 hx (by omega)]
  have key : ∀ z : Fin 256, (z.val &&& (255 - 128)) = z.val % 128 := by decide +kernel
  have := key ⟨x, hx⟩
  simp only at this
  omega
theorem u8_not (a : Int) (h0 : 0 ≤ a) (h1 : a < 256) : bits .xor .u8 IntKind.u8.max a = 255 - a := by
  obtain ⟨x, rfl⟩ := Int.eq_ofNat_of_zero_le h0
  have hx : x < 256 := by omega
  show bits .xor .u8 ((255 : Nat) : Int) (x : Int) = _
  rw [u8_xor_nat 255 x (by omega) hx]
  have key : ∀ z : Fin 256, (255 ^^^ z.val) = 255 - z.val := by decide +kernel
  have := key ⟨x, hx⟩
  simp only at this
  omega
theorem u32_or_add (a c : Int) (ha0 : 0 ≤ a) (ha : a < 65536) (hc : 0 ≤ c) (hc1 : c < 65536) : bits .or .u32 (c * 65536) a = c * 65536 + a := by
  obtain ⟨x, rfl⟩ := Int.eq_ofNat_of_zero_le ha0
  obtain ⟨y, rfl⟩ := Int.eq_ofNat_of_zero_le hc
  have hx : x < 2 ^ 16 := by omega
  rw [show ((y : Int) * 65536) = ((2 ^ 16 * y : Nat) : Int) by omega, u32_or_nat _ x (by omega) (by omega), ← Nat.two_pow_add_eq_or_of_lt hx y]
  omega

/-! ### Rows of bytes and strings -/
/-- string(b) of a slice whose row is known. -/
theorem conv_row {P : Program} (src e dst : TypeId) (hs : P.underlying src = some (.slice e)) (he : P.underlying e = some (.int .u8)) (hd : P.underlying dst = some .string)
    (xs : List Int) (w : World) (b len cap : Nat) (cs : Array Value) (t : TypeId) (fr : Nat × Nat) (hg : w.heap[b]? = some (.cells cs t fr)) (hlen : xs.length = len)
    (hxs : ∀ i, i < len → cs[i]? = some (.int .u8 (xs.getD i 0))) :
    (convert src dst (.slice (some ⟨b, 0, none⟩) len cap)).run P w = .ok (.string (strOfNums xs)) w :=
  run_convert_bytes_arg w src e hs he b 0 len cap xs hlen (fun i hi => by rw [cell_of_row _ _ _ _ _ _ hg, Nat.zero_add]; exact hxs i hi) dst hd

/-- The first eight bytes of a text, as numbers; 0 where it has ended. -/
def b8 (s : ByteArray) : List Int := [bt s 0, bt s 1, bt s 2, bt s 3, bt s 4, bt s 5, bt s 6, bt s 7]

theorem bt_list (s : ByteArray) (k : Nat) : bt s k = ((s.data.toList.getD k 0).toNat : Int) := by
  unfold bt
  split
  · rename_i h
    have : s.data.toList.getD k 0 = s[k] := by
      rw [List.getD_eq_getElem?_getD, List.getElem?_eq_getElem (by simpa using h)]; rfl
    rw [this]
  · rename_i h
    rw [List.getD_eq_getElem?_getD, List.getElem?_eq_none (by simp; omega)]; rfl

theorem setRow_alloc (w : World) (a c : Array Value) (t : TypeId) : (w.alloc (.cells a t)).setRow w.heap.size c = w.alloc (.cells c t) := by
  have : (w.alloc (.cells a t)).heap = w.heap.push (.cells a t) := rfl
  have h2 : (w.alloc (.cells c t)).heap = w.heap.push (.cells c t) := rfl
  have h3 : w.alloc (.cells c t) = { w with heap := w.heap.push (.cells c t) } := rfl
  have h4 : w.alloc (.cells a t) = { w with heap := w.heap.push (.cells a t) } := rfl
  rw [h3, h4]
  unfold World.setRow
  simp only
  congr 1
  apply Array.ext
  · simp
  · intro i hi hj
    simp only [Array.size_push, Array.size_modify] at hi hj
    rw [Array.getElem_modify]
    by_cases hh : w.heap.size = i
    · subst hh; simp
    · rw [if_neg hh, Array.getElem_push, Array.getElem_push]
      have : i < w.heap.size := by omega
      simp [this]

/-- copy(b, s) over a whole row of eight bytes. -/
theorem run_copy8 {P : Program} (w : World) (dT sT ty elem t : TypeId) (s : ByteArray)
    (hu : P.underlying dT = some (.slice elem)) (hs : (P.info? elem).map (·.size) = some 1) :
    (Builtin.copy_ #[dT, sT] ty #[.slice (some ⟨w.heap.size, 0, none⟩) 8 8, .string s]).run P (w.alloc (.cells #[.int .u8 0, .int .u8 0, .int .u8 0, .int .u8 0, .int .u8 0, .int .u8 0, .int .u8 0, .int .u8 0] t)) =
      .ok (goInt ((min s.size 8 : Nat) : Int)) (w.alloc (.cells #[.int .u8 (bt s 0), .int .u8 (bt s 1), .int .u8 (bt s 2), .int .u8 (bt s 3), .int .u8 (bt s 4), .int .u8 (bt s 5), .int .u8 (bt s 6), .int .u8 (bt s 7)] t)) := by
  have hlen : (Lib.byteCells s.data.toList).length = s.size := by rw [Lib.byteCells_length, ← Lib.size_eq]
  have hcl : ((Lib.byteCells s.data.toList).take (min s.size 8)).length = min s.size 8 := by rw [List.length_take, hlen]; omega
  have hst := run_storeCells_at P w.heap.size 0 t ((Lib.byteCells s.data.toList).take (min s.size 8)) 0 _ _ (heap_alloc_new w (.cells #[.int .u8 0, .int .u8 0, .int .u8 0, .int .u8 0, .int .u8 0, .int .u8 0, .int .u8 0, .int .u8 0] t)) (by rw [hcl]; simp; omega) (fun v hv => Lib.byteCells_one _ v (List.mem_of_mem_take hv))
  have hst' := hst
  simp only [Nat.add_zero, hcl, setRow_alloc] at hst'
  have hrow : (List.take 0 [Value.int .u8 0, .int .u8 0, .int .u8 0, .int .u8 0, .int .u8 0, .int .u8 0, .int .u8 0, .int .u8 0] ++ (Lib.byteCells s.data.toList).take (min s.size 8) ++ List.drop (0 + min s.size 8) [Value.int .u8 0, .int .u8 0, .int .u8 0, .int .u8 0, .int .u8 0, .int .u8 0, .int .u8 0, .int .u8 0]).toArray = #[.int .u8 (bt s 0), .int .u8 (bt s 1), .int .u8 (bt s 2), .int .u8 (bt s 3), .int .u8 (bt s 4), .int .u8 (bt s 5), .int .u8 (bt s 6), .int .u8 (bt s 7)] := by
    have hall : ∀ i, i < 8 → (List.take 0 [Value.int .u8 0, .int .u8 0, .int .u8 0, .int .u8 0, .int .u8 0, .int .u8 0, .int .u8 0, .int .u8 0] ++ (Lib.byteCells s.data.toList).take (min s.size 8) ++ List.drop (0 + min s.size 8) [Value.int .u8 0, .int .u8 0, .int .u8 0, .int .u8 0, .int .u8 0, .int .u8 0, .int .u8 0, .int .u8 0])[i]? = some (.int .u8 (bt s i)) := by
      intro i hi
      simp only [List.take_zero, List.nil_append, Nat.zero_add]
      by_cases c : i < s.size
      · rw [List.getElem?_append_left (by rw [hcl]; omega), List.getElem?_take_of_lt (by omega)]
        have hlt : i < s.data.toList.length := by simpa using c
        rw [bt_list]
        simp [Lib.byteCells, List.getElem?_eq_getElem hlt, List.getD_eq_getElem?_getD]
      · rw [List.getElem?_append_right (by rw [hcl]; omega), hcl, List.getElem?_drop, show min s.size 8 + (i - min s.size 8) = i by omega, bt_end s (by omega)]
        match i, hi with
        | 0, _ => rfl | 1, _ => rfl | 2, _ => rfl | 3, _ => rfl | 4, _ => rfl | 5, _ => rfl | 6, _ => rfl | 7, _ => rfl
    apply Array.ext'
    apply List.ext_getElem?
    intro i
    by_cases hi : i < 8
    · refine (hall i hi).trans ?_
      match i, hi with
      | 0, _ => rfl | 1, _ => rfl | 2, _ => rfl | 3, _ => rfl | 4, _ => rfl | 5, _ => rfl | 6, _ => rfl | 7, _ => rfl
    · rw [List.getElem?_eq_none (by simp only [List.take_zero, List.nil_append, List.length_append, List.length_drop, hcl, List.length_cons, List.length_nil]; omega), List.getElem?_eq_none (by simp; omega)]
  cases hq : P.info? elem with
  | none => simp [hq] at hs
  | some i =>
    simp [Builtin.copy_, run_underlying hu, Builtin.lenOf, Builtin.firstCells, sizeOf, typeInfo, hq]
    rw [hrow] at hst'
    show ((Sem.run P (storeCells ⟨w.heap.size, 0, none⟩ ((Lib.byteCells s.data.toList).take (min s.size 8))) _).andThen fun a w' => Result.ok (goInt ((min s.size 8 : Nat) : Int)) w') = _
    rw [hst']
    rfl

/-- What []byte(s) leaves: a new row that reads as the text's bytes. -/
theorem bytes_facts (w : World) (e : TypeId) (s : ByteArray) :
    Below w.heap.size w (Lib.bytesWorld w e s) ∧ (Lib.bytesWorld w e s).heap.size = w.heap.size + 1 ∧
      (∀ j, j < s.size → (Lib.bytesWorld w e s).cell? ⟨w.heap.size, j, none⟩ = some (.int .u8 (bt s j))) ∧
      (∀ j, j < s.size → (Lib.bytesWorld w e s).frozen? ⟨w.heap.size, j, none⟩ = false) := by
  refine ⟨⟨rfl, rfl, rfl, by rw [Lib.bytesWorld_size]; omega, fun k hk => Lib.bytesWorld_at_old w e s k hk⟩, Lib.bytesWorld_size w e s, fun j hj => ?_, fun j hj => ?_⟩
  · rw [Lib.bytesWorld_cell w e s j hj, bt_list]
  · have h := Lib.bytesWorld_at_new w e s
    have hsz : s.size ≤ (Lib.bytesCells w e s).size := by
      unfold Lib.bytesCells
      rw [Array.size_append, Array.size_map]
      exact Nat.le_add_right _ _
    unfold World.frozen?
    simp only [h]
    simp
    omega

theorem bt_strOfNums (xs : List Int) (k : Nat) (h0 : 0 ≤ xs.getD k 0) (h1 : xs.getD k 0 ≤ 255) : bt (strOfNums xs) k = xs.getD k 0 := by
  rw [bt_list, strOfNums_data]
  simp only [List.getD_eq_getElem?_getD, List.getElem?_map] at h0 h1 ⊢
  cases h : xs[k]? with
  | none => simp
  | some x =>
    simp only [h, Option.getD_some, Option.map_some] at h0 h1 ⊢
    rw [UInt8.toNat_ofNat']
    omega

/-- Behind w one row of n bytes is new (block w.heap.size), and reads as f. -/
structure RowI (w : World) (n : Nat) (f : Nat → Int) (wr : World) : Prop where
  below : Below w.heap.size w wr
  size : wr.heap.size = w.heap.size + 1
  cells : ∀ j, j < n → wr.cell? ⟨w.heap.size, j, none⟩ = some (.int .u8 (f j))
  thawed : ∀ j, j < n → wr.frozen? ⟨w.heap.size, j, none⟩ = false

theorem RowI.set {w wr : World} {n : Nat} {f g : Nat → Int} (h : RowI w n f wr) {k : Nat} (hk : k < n) (v : Int) (hv : g k = v) (hg : ∀ j, j < n → j ≠ k → g j = f j) : RowI w n g (wr.setCell ⟨w.heap.size, k, none⟩ (.int .u8 v)) := by
  refine ⟨h.below.setCell (Nat.le_refl _) _, by simpa [World.setCell] using h.size, fun j hj => ?_, fun j hj => by rw [World.frozen?_setCell]; exact h.thawed j hj⟩
  by_cases e : j = k
  · subst e
    rw [hv]
    exact World.cell?_setCell_same _ _ _ (h.cells j hj)
  · rw [World.cell?_setCell_other _ _ _ _ (by intro c; exact e (congrArg Addr.off c).symm), h.cells j hj, hg j hj e]

theorem RowI.ofBytes (w : World) (e : TypeId) (s : ByteArray) : RowI w s.size (bt s) (Lib.bytesWorld w e s) := by
  obtain ⟨a, b, c, d⟩ := bytes_facts w e s
  exact ⟨a, b, c, d⟩

/-- make([]byte, n): a new row of zeros. -/
theorem make_bytes {P : Program} (t e : TypeId) (ht : P.underlying t = some (.slice e)) (hi : (P.info? e).map (fun i => (i.zero, i.size, i.bytes)) = some (some (.int .u8 0), 1, 1)) (w : World) (n : Nat) (hn : n ≤ 281474976710656) :
    ∃ w', (Instr.makeSlice t (.int .i64 n) (.int .i64 n)).run P w = .ok (.slice (some ⟨w.heap.size, 0, none⟩) n n) w' ∧ RowI w n (fun _ => 0) w' := by
  obtain ⟨i, h1, h2, h3, h4⟩ := info_parts hi
  have h := run_make (P := P) w t e i _ ht h1 h2 .i64 .i64 n n (by omega) (by omega) (by rw [h4]; omega) (by omega)
  refine ⟨_, by simpa using h, ⟨by go_grown, by simp, fun j hj => ?_, fun j hj => ?_⟩⟩
  · rw [cell_of_row _ _ _ _ _ _ (heap_alloc_new _ _)]
    simp [madeCells, h3, hj, Value.cells, Nat.mod_one]
  · exact frozen_of_row _ _ _ _ _ (heap_alloc_new _ _)

theorem row_str {w wr : World} {n : Nat} {f : Nat → Int} (h : RowI w n f wr) : ∀ i, i < n → wr.cell? ⟨w.heap.size, 0 + i, none⟩ = some (.int .u8 (((List.range n).map f).getD i 0)) := fun i hi => by
  rw [Nat.zero_add, h.cells i hi]
  simp [List.getD_eq_getElem?_getD, List.getElem?_map, List.getElem?_range hi]
theorem len_range (n : Nat) (f : Nat → Int) : ((List.range n).map f).length = n := by simp

theorem one_get (x : Int) : ∀ i, i < 1 → #[Value.int .u8 x][i]? = some (.int .u8 ([x].getD i 0)) := fun i hi => by
  obtain rfl : i = 0 := by omega
  rfl
theorem str_app (a b : List Int) : strOfNums a ++ strOfNums b = strOfNums (a ++ b) := by
  apply ByteArray.ext
  simp [strOfNums]
/-- string([]byte{c}): told by the one cell that it reads. -/
def convOne (P : Program) (src dst : TypeId) (w : World) (b : Nat) (c : Nat) : Option Value → Result Value
  | some (.int .u8 n) => .ok (.string (strOfNums [n])) w
  | _ => (convert src dst (.slice (some ⟨b, 0, none⟩) 1 c)).run P w
theorem run_conv_one {P : Program} (src e dst : TypeId) (hs : P.underlying src = some (.slice e)) (he : P.underlying e = some (.int .u8)) (hd : P.underlying dst = some .string) (w : World) (b c : Nat) :
    (convert src dst (.slice (some ⟨b, 0, none⟩) 1 c)).run P w = convOne P src dst w b c (w.cell? ⟨b, 0, none⟩) := by
  unfold convOne
  split
  · rename_i n h
    exact run_convert_bytes_arg w src e hs he b 0 1 c [n] rfl (fun i hi => by obtain rfl : i = 0 := (by omega); exact h) dst hd
  · rfl
theorem convOne_some (P : Program) (src dst : TypeId) (w : World) (b c : Nat) (n : Int) : convOne P src dst w b c (some (.int .u8 n)) = .ok (.string (strOfNums [n])) w := rfl

theorem bcell {B : Nat} {W w1 : World} (hb : Below B W w1) : (∀ b o, b < B → w1.cell? ⟨b, o, none⟩ = W.cell? ⟨b, o, none⟩) ∧ (∀ b o, b < B → w1.frozen? ⟨b, o, none⟩ = W.frozen? ⟨b, o, none⟩) :=
  ⟨fun b o h => hb.cell (p := ⟨b, o, none⟩) h, fun b o h => hb.frozen (p := ⟨b, o, none⟩) h⟩

/-- The one new cell of []byte{x}. -/
theorem one_new (w : World) (x : Int) (t : TypeId) : ∀ j u, [Value.int .u8 x][j]? = some u → (w.alloc (.cells #[.int .u8 x] t)).cell? ((⟨w.heap.size, 0, none⟩ : Addr).add j) = some u := by
  intro j u h
  match j, h with
  | 0, h =>
    have e : (⟨w.heap.size, 0, none⟩ : Addr).add 0 = ⟨w.heap.size, 0, none⟩ := rfl
    rw [e, cell_of_row _ _ _ _ _ _ (heap_alloc_new _ _)]
    exact h
theorem one_cell (x : Int) : ∀ u ∈ [Value.int .u8 x], u.oneCell' = true := by
  intro u hu
  rw [List.mem_singleton] at hu
  subst hu
  rfl
/-- string(b) of a slice of the call's own. -/
theorem conv_own {P : Program} (src e dst : TypeId) (hs : P.underlying src = some (.slice e)) (he : P.underlying e = some (.int .u8)) (hd : P.underlying dst = some .string)
    (xs : List Int) (w : World) (base : Nat) (v : Value) (n : Nat) (h : w.ownsRow base e 1 v n (xs.map (Value.int .u8))) :
    (convert src dst v).run P w = .ok (.string (strOfNums xs)) w := by
  obtain ⟨h1, h2⟩ := h
  rw [List.length_map, Nat.mul_one] at h1
  rcases h2 with ⟨rfl, h0⟩ | ⟨g, cap, cur, rfl, hb, hg, hn, hc, hsz, ht⟩
  · have : xs = [] := List.length_eq_zero_iff.1 (by omega)
    subst this
    rw [run_convert_bytes_nil w src e hs he 0 0 dst hd]
    rfl
  · refine conv_row src e dst hs he hd xs w g n cap cur e _ hg h1 (fun i hi => ?_)
    rw [Nat.mul_one] at ht
    have a : (cur.toList.take n)[i]? = (xs.map (Value.int .u8))[i]? := by rw [ht]
    rw [List.getElem?_take_of_lt hi, List.getElem?_map, List.getElem?_eq_getElem (show i < xs.length by omega)] at a
    rw [← Array.getElem?_toList, a]
    simp [List.getD_eq_getElem?_getD, List.getElem?_eq_getElem (show i < xs.length by omega)]
end Go.Proofs.Ytppjmmdiglnkfaa
