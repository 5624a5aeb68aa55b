/-
  The document's answer on where finds lead.
-/
import Derived.Test.YtkhihmkpmlokiaaSeekRefGoF
import Derived.Test.YtkhihmkpmlokiaaSeekRefGoBigF
import Derived.Test.YtkhihmkpmlokiaaSeekRefGoT
import Derived.Test.YtkhihmkpmlokiaaSeekRefGoBigT
namespace Go.Proofs.Ytkhihmkpmlokiaa
open Go.RowKit
theorem ref16_Go (s : ByteArray) (p k : Int) (r : ByteArray) (n : Int) (hs : s.size ≤ 1000000000000) (hn : n ≤ 9223372036854775807) (w : World) :
    Calls Try.prog 9 #[.string s, .int .i64 p, findV k r, .int .i64 n] w fun e w' => e = .returned (Seek.res (Seek.goV s.data.toList p k r.data.toList n)) ∧ Below w.heap.size w w' := by
  by_cases h : Seek.right k r.data.toList = false ∨ Utf.place s.data.toList p = false
  · rw [Seek.goV_off h]
    exact ref16_Go_wrong s p k r n hs h w
  · have hR : Seek.right k r.data.toList = true := by
      cases hR : Seek.right k r.data.toList with
      | true => rfl
      | false => exact absurd (.inl hR) h
    have hP : Utf.place s.data.toList p = true := by
      cases hP : Utf.place s.data.toList p with
      | true => rfl
      | false => exact absurd (.inr hP) h
    rcases (Seek.right_iff.1 hR).1 with rfl | rfl | rfl | rfl
    · by_cases h1 : n < 1
      · exact ref16_Go_f_lo s p r n hs h1 hR hP w
      · exact ref16_Go_f_hi s p r n hs ⟨by omega, hn⟩ hR hP w
    · by_cases h1 : n < 1
      · exact ref16_Go_bigF_lo s p r n hs h1 hR hP w
      · exact ref16_Go_bigF_hi s p r n hs ⟨by omega, hn⟩ hR hP w
    · by_cases h1 : n < 1
      · exact ref16_Go_t_lo s p r n hs h1 hR hP w
      · exact ref16_Go_t_hi s p r n hs ⟨by omega, hn⟩ hR hP w
    · by_cases h1 : n < 1
      · exact ref16_Go_bigT_lo s p r n hs h1 hR hP w
      · exact ref16_Go_bigT_hi s p r n hs ⟨by omega, hn⟩ hR hP w
end Go.Proofs.Ytkhihmkpmlokiaa
