package dice

import "testing"

// TestPowersOfX holds the polynomial against the jumps that the generator's authors publish: by 2^128 and by 2^192 words.
func TestPowersOfX(t *testing.T) {
	p := timesX([4]uint64{1})
	for i := 1; i <= 192; i++ {
		p = times(p, p)
		if i == 128 && p != [4]uint64{0x180EC6D33CFD0ABA, 0xD5A61266F0C9392C, 0xA9582618E03FC9AA, 0x39ABDC4529B1661C} {
			t.Errorf("D6: x^(2^128) = %x", p)
		}
		if i == 192 && p != [4]uint64{0x76E15D3EFEFDCBBF, 0xC5004E441C522FB3, 0x77710069854EE241, 0x39109BB02ACBE635} {
			t.Errorf("D6: x^(2^192) = %x", p)
		}
	}
}

func TestPowersOfXAdd(t *testing.T) {
	for _, n := range []uint64{0, 1, 255, 256, 257, 1<<63 + 5} {
		if times(powerOfX(n), powerOfX(1000)) != powerOfX(n+1000) {
			t.Errorf("D10: x^%d", n)
		}
	}
}
