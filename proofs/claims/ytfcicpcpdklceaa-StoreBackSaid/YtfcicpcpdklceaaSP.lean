/- Package store: heads as blocks, read again; the law's begun. -/
import Derived.Test.YtfcicpcpdklceaaSN
import Derived.Test.YtfcicpcpdklceaaSJRefP
namespace Go.Proofs.Ytfcicpcpdklceaa
set_option maxRecDepth 100000
open Go.ChangeShapes Go.WideShapes Go.ChangeAt Go.RowKit Go.PlainAid Go.ChangeMaps Go.MapKept
open Go.Sort (grow)

theorem text_split (h : Hd) : filled h.text = headB h.seq h.used h.room h.pages ++ notS (headB h.seq h.used h.room h.pages) ++ zeroes (256 - h.text.size) := by
  rw [← filled_cat (by rw [h.text_size]; omega)]
  rfl
theorem head_fields (h : Hd) (h1 : h.seq ≤ 1000000) (h2 : h.used ≤ 2048) (h3 : h.room ≤ 2048) (h4 : h.pages ≤ 2048) : fieldsV (headB h.seq h.used h.room h.pages) = headV h := by
  rw [head_back _ _ _ _ (by omega) (by omega)]
  unfold headV uZ
  have e : ∀ x : Nat, x ≤ 2048 → (x : Int) % 18446744073709551616 % 4294967296 = x := fun x hx => by omega
  rw [e _ h2, e _ h3, e _ h4]
theorem reads_head {h : Hd} {k n : Nat} (hf : Fits h k n) (hn : n ≤ 2048) : ReadsAs (filled h.text) k n (some h) := by
  obtain ⟨f1, f2, f3, f4, f5, f6, f7⟩ := hf
  obtain ⟨a, b⟩ := written_ok (headB h.seq h.used h.room h.pages) (zeroes (256 - h.text.size)) (headB_size _ _ _ _)
  rw [text_split]
  refine ⟨a, ?_, ⟨f1, f2, f3, f4, f5, f6, f7⟩⟩
  rw [fields_of _ _ b]
  exact head_fields h f7 (by omega) (by omega) (by omega)
theorem reads_zero (k n : Nat) : ReadsAs zeroText k n none := by
  intro h
  have h2 := h.2
  have e1 : bt (notS (zeroText.extract 0 20)) 0 = 255 := by
    unfold notS
    rw [bt_strOfNums _ 0] <;> rw [notS_get _ _ (by rw [ByteArray.size_extract, zeroText_size]; decide)] <;> rw [bt_ext _ _ _ _ (by rw [zeroText_size]; decide) (by decide), zeroText_bt] <;> decide
  have e2 : bt (zeroText.extract 20 40) 0 = 0 := by
    rw [bt_ext _ _ _ _ (by rw [zeroText_size]; decide) (by decide), zeroText_bt]
  rw [h2, e2] at e1
  cases e1
end Go.Proofs.Ytfcicpcpdklceaa
