/- Contract: the head that a record is, by the program: any record. -/
import Derived.Test.YthnoegipadnmeaaBegunW
namespace Go.Proofs.Ythnoegipadnmeaa
open Go.RowKit

theorem begF_cons (_n : Nat) (T : ByteArray) (b : UInt8) (l : List UInt8) (hT : T.data.toList = b :: l) : (T.extract 1 T.size).data.toList = l := by
  have e : T = ⟨(b :: l).toArray⟩ := by rw [← hT]
  have hs : T.size = l.length + 1 := by rw [← size_list, hT]; rfl
  rw [hs, e, txt_extract']
  simp
theorem begun_any (n : Nat) (T : ByteArray) (hs6 : T.size ≤ 1000000) (w : World) :
    Calls Try.prog 31 #[.agg #[.int .u64 (n : Int), .string T]] w fun e w' => e = .returned (begV (begF ⟨n, T⟩) n) ∧ Ext w w' := by
  cases hT : T.data.toList with
  | nil =>
    have h0 : T.size = 0 := by rw [← size_list, hT]; rfl
    have : begF ⟨n, T⟩ = none := by show begL n T T.data.toList = _; rw [hT]; rfl
    rw [this]
    exact begun_none n T h0 w
  | cons b l =>
    have hl := begF_cons n T b l hT
    have hs : T.size = l.length + 1 := by rw [← size_list, hT]; rfl
    have hs1 : (T.extract 1 T.size).size ≤ 1000000 := by rw [ByteArray.size_extract]; omega
    have hb := begl_eq n T b l hT
    rcases numR_or l with ⟨v, sz, hn, _, hv64, h1, h10, hsl⟩ | hn | hn
    · rw [hn] at hb
      dsimp only at hb
      rw [if_pos rfl] at hb
      by_cases hv : v ≤ 281474976710656
      · have h := begun_walk n T b l hT hs6 v 0 ((T.extract 1 T.size).extract sz (T.extract 1 T.size).size) (by rw [ByteArray.size_extract, ByteArray.size_extract]; omega)
          (fun u r hr => Uint_ok u r _ hr hs1 281474976710656 v sz (by rw [hl]; exact hn) hv) w
        have e : T.size - ((T.extract 1 T.size).extract sz (T.extract 1 T.size).size).size = 1 + sz := by rw [ByteArray.size_extract, ByteArray.size_extract]; omega
        rw [e] at h
        rw [hb]
        simpa using h
      · have h := begun_walk n T b l hT hs6 0 80 (T.extract 1 T.size) (by rw [ByteArray.size_extract]; omega)
          (fun u r hr => Uint_over u r _ hr hs1 281474976710656 v sz (by rw [hl]; exact hn) hv) w
        rw [if_neg (by simp)] at h
        rw [hb, if_neg (fun hm => hv hm.2.1.2)]
        exact h
    · rw [hn] at hb
      rw [if_neg (by simp)] at hb
      have h := begun_walk n T b l hT hs6 0 6 (T.extract 1 T.size) (by rw [ByteArray.size_extract]; omega)
        (fun u r hr => Uint_bad u r _ hr hs1 281474976710656 6 (by rw [hl]; exact hn) (by decide)) w
      rw [if_neg (by simp)] at h
      rw [hb]
      exact h
    · rw [hn] at hb
      rw [if_neg (by simp)] at hb
      have h := begun_walk n T b l hT hs6 0 7 (T.extract 1 T.size) (by rw [ByteArray.size_extract]; omega)
        (fun u r hr => Uint_bad u r _ hr hs1 281474976710656 7 (by rw [hl]; exact hn) (by decide)) w
      rw [if_neg (by simp)] at h
      rw [hb]
      exact h
end Go.Proofs.Ythnoegipadnmeaa
