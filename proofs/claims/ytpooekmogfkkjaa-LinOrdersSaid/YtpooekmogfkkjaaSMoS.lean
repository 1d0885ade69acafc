/- States as texts: plain facts; contracts of both Texts. -/
import Derived.Test.YtpooekmogfkkjaaGB
import Derived.Test.YtpooekmogfkkjaaSJBld
import Derived.Test.YtpooekmogfkkjaaSMoI
namespace Go.Proofs.Ytpooekmogfkkjaa
set_option maxRecDepth 100000
open Go.ChangeShapes Go.WideShapes Go.ChangeAt Go.RowKit Go.PlainAid Go.Deep

/-- Numbers, each folded, in groups. -/
def bodyS : List Int → ByteArray
  | [] => ⟨#[]⟩
  | x :: r => varS (foldZ x) ++ bodyS r
def textS (L : List Int) : ByteArray := varS (L.length : Int) ++ bodyS L
theorem empty_left (s : ByteArray) : (⟨#[]⟩ : ByteArray) ++ s = s := ByteArray.empty_append
theorem empty_right (s : ByteArray) : s ++ (⟨#[]⟩ : ByteArray) = s := ByteArray.append_empty
theorem body_app : ∀ a b : List Int, bodyS (a ++ b) = bodyS a ++ bodyS b
  | [], b => (empty_left _).symm
  | x :: a, b => by rw [List.cons_append, bodyS, bodyS, body_app a b, ByteArray.append_assoc]
theorem body_snoc (a : List Int) (x : Int) : bodyS (a ++ [x]) = bodyS a ++ varS (foldZ x) := by
  rw [body_app]
  show bodyS a ++ (varS (foldZ x) ++ ⟨#[]⟩) = _
  rw [empty_right]
theorem body_size : ∀ (L : List Int), (∀ x ∈ L, -9223372036854775808 ≤ x ∧ x ≤ 9223372036854775807) → (bodyS L).size ≤ 10 * L.length
  | [], _ => Nat.le_refl _
  | x :: r, h => by
    have h1 := varS_size (foldZ x) (foldZ_b x (h x (by simp)).1 (h x (by simp)).2).1 (foldZ_b x (h x (by simp)).1 (h x (by simp)).2).2
    have h2 := body_size r (fun y hy => h y (by simp [hy]))
    rw [bodyS, ByteArray.size_append, List.length_cons]
    omega
theorem heap_ltS {w : World} {q : Nat} {o : Obj} (h : w.heap[q]? = some o) : q < w.heap.size := (Array.getElem?_eq_some_iff.1 h).1
theorem bld_onS {w w' : World} {T e : TypeId} {B b : Nat} {bs : List Value} (h : Lib.IsBuilder T e B b bs w) (k : Below w.heap.size w w') : Lib.IsBuilder T e B b bs w' := by
  rcases h with ⟨h1, v, h2, h3, h4⟩ | ⟨h1, v, h2, h3, h4⟩
  · exact .inl ⟨h1, v, (k.block b (heap_ltS h2)).trans h2, ownsRow_onI h3 k, h4⟩
  · exact .inr ⟨h1, v, (k.block b (heap_ltS h2)).trans h2, ownsRow_onI h3 k, h4⟩
theorem cells_cat (a b : ByteArray) : Lib.byteCells (a ++ b).data.toList = Lib.byteCells a.data.toList ++ Lib.strCells b := by
  rw [ByteArray.data_append, Array.toList_append, Lib.byteCells_append, Lib.strCells_eq]
theorem cells_size (a : ByteArray) : (Lib.byteCells a.data.toList).length = a.size := by rw [Lib.byteCells_length]; rfl
/-- What the builder of a text holds behind some numbers. -/
def TxtAt (w wr : World) (n : Nat) (pre : List Int) : Prop := Below w.heap.size w wr ∧ Lib.IsBuilder 105 5 w.heap.size w.heap.size (Lib.byteCells (varS (n : Int) ++ bodyS pre).data.toList) wr
set_option maxHeartbeats 4000000 in
/-- The code's Text, where the text may be written so: HW. -/
theorem text_any (v : Value) (L : List Int) (w : World) (h : IntsOf w v L)
    (hw : ∀ (B b : Nat) (a s : ByteArray) (w1 : World), Lib.IsBuilder 105 5 B b (Lib.byteCells a.data.toList) w1 → a.size + s.size ≤ 10 * L.length + 10 → B ≤ w1.heap.size →
      Calls Try.prog 48 #[.pointer (some ⟨b, 0, none⟩), .string s] w1 fun e w' => e = .returned (.tuple #[.int .i64 s.size, .nilIface]) ∧ Lib.BuilderAt 105 5 B b (.pointer (some ⟨b, 0, none⟩)) (Lib.byteCells a.data.toList ++ Lib.strCells s) w' ∧ Below B w1 w') :
    Calls Try.prog 31 #[v] w fun e w' => e = .returned (.string (textS L)) ∧ Below w.heap.size w w' := by
  have hin := h.inI
  obtain ⟨ao, ac, rfl, hma, hxa⟩ := h.parts
  have HA := Lib.hid hxa
  have HI := Lib.hid hin
  have HM := Lib.hid hma
  have HW := Lib.hid hw
  have hq : IntKind.u64.wrap (L.length : Int) = (L.length : Int) := by rw [IntKind.wrap_u64]; omega
  have H0 := Lib.hid (Lib.fresh_isBuilder 105 5 w)
  have HB0 := Lib.hid (show Below w.heap.size w (w.alloc (.cells #[.pointer none, .slice none 0 0] 105)) by go_grown)
  have HV := Lib.hid (varS_size (L.length : Int) (by omega) (by omega))
  clear h hma hxa hin hw
  go_enter Try.func31, Try.ntmps31
  go_wp2_with fail
  refine (var_any (L.length : Int) (by omega) (by have := HM.out; omega) _).mono ?_
  rintro _ w1 ⟨rfl, hb1⟩
  have HF1 := Lib.hid (bld_onS H0.out hb1)
  have HB1 := Lib.hid (HB0.out.on hb1)
  clear hb1 H0
  go_wp2_with fail
  refine (HW.out w.heap.size w.heap.size ⟨#[]⟩ (varS (L.length : Int)) w1 HF1.out (by have := HV.out; show 0 + _ ≤ _; omega) HB1.out.size).mono ?_
  rintro _ w2 ⟨rfl, hB2, hbb⟩
  have HT : Hid (TxtAt w w2 L.length []) := ⟨HB1.out.trans hbb, .inr (by
    show Lib.BuilderAt _ _ _ _ _ (Lib.byteCells (varS (L.length : Int) ++ ⟨#[]⟩).data.toList) _
    rw [empty_right]
    exact hB2)⟩
  clear hB2 hbb HF1 HB1 HB0
  go_wp2_with fail
  go_loopw [13] (fun s13 wr => ∃ k : Nat, k ≤ L.length ∧ s13 = .int .i64 k ∧ Hid (TxtAt w wr L.length (L.take k))) (fun s13 _ => L.length - (intOf s13).toNat)
  case atStart => exact ⟨0, Nat.zero_le _, rfl, HT.out⟩
  case round =>
    clear HT
    obtain ⟨k, hk, rfl, HR⟩ := hrel
    by_cases hkl : k < L.length
    · obtain ⟨b, p, rfl, hlt, hr⟩ := HA.out (by omega)
      have q1 : decide ((k : Int) < (L.length : Int)) = true := decide_eq_true (by omega)
      have q2 : (k : Int) < (L.length : Int) := by omega
      have q3 : IntKind.i64.wrap ((k : Int) + 1) = (k : Int) + 1 := IntWalk.i64_in _ (by have := HM.out; omega)
      obtain ⟨x, hx⟩ : ∃ x, L[k]? = some x := ⟨_, List.getElem?_eq_getElem hkl⟩
      have c0 : wr.cell? ⟨b, p + k, none⟩ = some (.int .i64 x) := (HR.out.1.cell (p := ⟨b, p + k, none⟩) hlt).trans (hr k x hx)
      have HX := Lib.hid (HI.out x (List.mem_of_getElem? hx))
      have HZ := Lib.hid (foldZ_b x HX.out.1 HX.out.2)
      have HS := Lib.hid (varS_size (foldZ x) HZ.out.1 HZ.out.2)
      have HK := Lib.hid hkl
      have HTK := Lib.hid (take_snoc hx)
      have HBS := Lib.hid (body_size (L.take k) (fun y hy => HI.out y (List.mem_of_mem_take hy)))
      clear hk hkl hr hx hlt
      go_wp2_with fail
      refine (fold_any x wr HX.out.1 HX.out.2).mono ?_
      rintro _ _ ⟨rfl, rfl⟩
      go_wp2_with fail
      refine (var_any (foldZ x) HZ.out.1 HZ.out.2 _).mono ?_
      rintro _ w3 ⟨rfl, hb3⟩
      have HF3 := Lib.hid (bld_onS HR.out.2 hb3)
      have HB3 := Lib.hid (HR.out.1.on hb3)
      clear hb3 c0
      go_wp2_with fail
      refine (HW.out w.heap.size w.heap.size _ (varS (foldZ x)) w3 HF3.out (by
        have h1 := HBS.out
        have h2 := HS.out
        have h3 := HV.out
        have h4 := HK.out
        rw [List.length_take] at h1
        rw [ByteArray.size_append]
        omega) HB3.out.size).mono ?_
      rintro _ w4 ⟨rfl, hB4, hbb⟩
      have HT4 : Hid (TxtAt w w4 L.length (L.take (k + 1))) := ⟨HB3.out.trans hbb, .inr (by
        rw [HTK.out, body_snoc, ← ByteArray.append_assoc, cells_cat]
        exact hB4)⟩
      clear hB4 hbb
      go_wp2_with fail
      go_roundw
      case measure => have := HK.out; simp [intOf]; omega
      case rel => exact ⟨k + 1, HK.out, by simp, HT4.out⟩
    · have q1 : decide ((k : Int) < (L.length : Int)) = false := decide_eq_false (by omega)
      have q2 : ((k : Int) < (L.length : Int)) = False := eq_false (by omega)
      have HTK := Lib.hid (show L.take k = L from List.take_of_length_le (by omega))
      clear hk hkl
      go_wp2_with fail
      refine (bstr_any w.heap.size w.heap.size _ wr HR.out.2 HR.out.1.size).mono ?_
      rintro _ w5 ⟨rfl, hb5, _⟩
      go_wp2_with fail
      go_returns
      refine ⟨?_, HR.out.1.trans hb5⟩
      rw [HTK.out]
      rfl
set_option maxHeartbeats 4000000 in
theorem rtext_any (v : Value) (L : List Int) (w : World) (h : IntsOf w v L) (hl : L.length ≤ 100000000000000000) :
    Calls Try.prog 35 #[v] w fun e w' => e = .returned (.string (textS L)) ∧ Below w.heap.size w w' := by
  have hin := h.inI
  obtain ⟨ao, ac, rfl, hma, hxa⟩ := h.parts
  have HA := Lib.hid hxa
  have HI := Lib.hid hin
  have HM := Lib.hid hl
  have hq : IntKind.u64.wrap (L.length : Int) = (L.length : Int) := by rw [IntKind.wrap_u64]; omega
  have HV := Lib.hid (varS_size (L.length : Int) (by omega) (by omega))
  clear h hma hxa hin hl
  go_enter Try.func35, Try.ntmps35
  go_wp2_with fail
  refine (rvar_any (L.length : Int) (by omega) (by have := HM.out; omega) _).mono ?_
  rintro _ w1 ⟨rfl, hb1⟩
  have HB1 := Lib.hid hb1
  clear hb1
  go_wp2_with fail
  go_loopw [3, 4] (fun s3 s4 wr => ∃ k : Nat, k ≤ L.length ∧ s4 = .int .i64 k ∧ s3 = .string (varS (L.length : Int) ++ bodyS (L.take k)) ∧ Below w.heap.size w wr) (fun _ s4 _ => L.length - (intOf s4).toNat)
  case atStart => exact ⟨0, Nat.zero_le _, rfl, by show _ = Value.string (varS (L.length : Int) ++ ⟨#[]⟩); rw [empty_right], HB1.out⟩
  case round =>
    obtain ⟨k, hk, rfl, rfl, hb⟩ := hrel
    have HB := Lib.hid hb
    have HBS := Lib.hid (body_size (L.take k) (fun y hy => HI.out y (List.mem_of_mem_take hy)))
    by_cases hkl : k < L.length
    · obtain ⟨b, p, rfl, hlt, hr⟩ := HA.out (by omega)
      have q1 : decide ((k : Int) < (L.length : Int)) = true := decide_eq_true (by omega)
      have q2 : (k : Int) < (L.length : Int) := by omega
      have q3 : IntKind.i64.wrap ((k : Int) + 1) = (k : Int) + 1 := IntWalk.i64_in _ (by have := HM.out; omega)
      obtain ⟨x, hx⟩ : ∃ x, L[k]? = some x := ⟨_, List.getElem?_eq_getElem hkl⟩
      have c0 : wr.cell? ⟨b, p + k, none⟩ = some (.int .i64 x) := (hb.cell (p := ⟨b, p + k, none⟩) hlt).trans (hr k x hx)
      have HX := Lib.hid (HI.out x (List.mem_of_getElem? hx))
      have HZ := Lib.hid (foldZ_b x HX.out.1 HX.out.2)
      have HS := Lib.hid (varS_size (foldZ x) HZ.out.1 HZ.out.2)
      have HK := Lib.hid hkl
      have HTK := Lib.hid (show varS (L.length : Int) ++ bodyS (L.take (k + 1)) = varS (L.length : Int) ++ bodyS (L.take k) ++ varS (foldZ x) by rw [take_snoc hx, body_snoc, ByteArray.append_assoc])
      obtain ⟨T, hT⟩ : ∃ T, varS (L.length : Int) ++ bodyS (L.take k) = T := ⟨_, rfl⟩
      have hTs : T.size ≤ 1000000000000000020 := by
        have h1 := HBS.out
        have h3 := HV.out
        have h4 := HK.out
        have h5 := HM.out
        rw [List.length_take] at h1
        rw [← hT, ByteArray.size_append]
        omega
      rw [hT] at HTK ⊢
      clear hT hk hkl hr hx hlt hb
      go_wp2_with fail
      refine (rfold_any x wr HX.out.1 HX.out.2).mono ?_
      rintro _ _ ⟨rfl, rfl⟩
      go_wp2_with fail
      refine (rvar_any (foldZ x) HZ.out.1 HZ.out.2 _).mono ?_
      rintro _ w3 ⟨rfl, hb3⟩
      have HB3 := Lib.hid (HB.out.on hb3)
      obtain ⟨U, hU⟩ : ∃ U, varS (foldZ x) = U := ⟨_, rfl⟩
      have hUs : U.size ≤ 10 := by rw [← hU]; exact HS.out
      rw [hU] at HTK ⊢
      clear hb3 c0 hU HS
      go_wp2_with fail
      go_roundw
      case measure => have := HK.out; simp [intOf]; omega
      case rel => exact ⟨k + 1, HK.out, by simp, by rw [HTK.out], HB3.out⟩
    · have q1 : decide ((k : Int) < (L.length : Int)) = false := decide_eq_false (by omega)
      have q2 : ((k : Int) < (L.length : Int)) = False := eq_false (by omega)
      have HTK := Lib.hid (show L.take k = L from List.take_of_length_le (by omega))
      clear hk hkl hb
      go_wp2_with fail
      go_returns
      exact ⟨by rw [HTK.out]; rfl, HB.out⟩
end Go.Proofs.Ytpooekmogfkkjaa
