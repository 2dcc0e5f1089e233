/- Plain: how many records there are in front of bytes, how long they are. -/
import Derived.Test.YthnoegipadnmeaaScanL
namespace Go.Proofs.Ythnoegipadnmeaa

theorem scanI_length : ∀ (l : List Itm) (n : Nat), (scanI l n).1.length ≤ l.length
  | [], _ => Nat.le_refl _
  | x :: l, n => by
    rw [scanI]
    split
    · exact Nat.zero_le _
    · split
      · exact Nat.zero_le _
      · have := scanI_length l ((n + 1) % 18446744073709551616)
        simp only [List.length_cons]; omega
theorem scanF_length (s : ByteArray) (n : Nat) : (scanF s n).1.length ≤ s.size := Nat.le_trans (scanI_length _ _) (allI_length _ s (Nat.le_refl _))
theorem scanI_size : ∀ (l : List Itm) (n : Nat), ∀ r ∈ (scanI l n).1, r.t.size ≤ 65536
  | [], _, r, h => by simp [scanI] at h
  | x :: l, n, r, h => by
    rw [scanI] at h
    split at h
    · cases h
    · split at h
      · cases h
      · rcases List.mem_cons.1 h with rfl | h
        · exact x.2.1
        · exact scanI_size l _ r h
theorem scanF_size (s : ByteArray) (n : Nat) : ∀ r ∈ (scanF s n).1, r.t.size ≤ 65536 := scanI_size _ _
theorem scanI_num : ∀ (l : List Itm) (n : Nat), ∀ r ∈ (scanI l n).1, r.n < 18446744073709551616
  | [], _, r, h => by simp [scanI] at h
  | x :: l, n, r, h => by
    rw [scanI] at h
    split at h
    · cases h
    · split at h
      · cases h
      · rcases List.mem_cons.1 h with rfl | h
        · exact x.2.2.1
        · exact scanI_num l _ r h
theorem scanF_num (s : ByteArray) (n : Nat) : ∀ r ∈ (scanF s n).1, r.n < 18446744073709551616 := scanI_num _ _
end Go.Proofs.Ythnoegipadnmeaa
