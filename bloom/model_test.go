package bloom_test

import (
	"math/big"
	"math/rand"
	"testing"

	"palinode/api"
	"palinode/bloom"
)

// decimal is a number as the chapter writes it.
func decimal(digits string) *big.Int {
	n, ok := new(big.Int).SetString(digits, 10)
	if !ok {
		panic(digits)
	}
	return n
}

// word is 2^64.
var word = decimal("18446744073709551616")

// modelHash is the hash as the chapter's words say, with numbers that do not wrap around by themselves.
func modelHash(key string) *big.Int {
	value, prime := decimal("14695981039346656037"), decimal("1099511628211")
	for _, b := range []byte(key) {
		value.Xor(value, big.NewInt(int64(b)))
		value.Mul(value, prime)
		value.Mod(value, word)
	}
	return value
}

// modelPositions are the k positions of a key among m bits as the chapter's words say.
func modelPositions(key string, k, m int) []int {
	h, half := modelHash(key), big.NewInt(1<<32)
	upper, lower := new(big.Int).DivMod(h, half, new(big.Int))
	g := new(big.Int).Add(new(big.Int).Mul(lower, half), upper)
	g.SetBit(g, 0, 1)
	out := make([]int, k)
	for i := range out {
		p := new(big.Int).Mul(big.NewInt(int64(i)), g)
		p.Add(p, h)
		p.Mod(p, word)
		out[i] = int(p.Mod(p, big.NewInt(int64(m))).Int64())
	}
	return out
}

// modelMake is the filter as the chapter's words say, bit by bit.
func modelMake(keys []string, bits int) (string, error) {
	if bits < 1 || bits > 20 {
		return "", api.ErrArg
	}
	if len(keys) > 2000 {
		return "", api.ErrLong
	}
	n := len(keys) * bits
	if n < 64 {
		n = 64
	}
	for n%8 != 0 {
		n++
	}
	k := bits * 69 / 100
	if k < 1 {
		k = 1
	}
	set := make([]bool, n)
	for _, key := range keys {
		for _, p := range modelPositions(key, k, n) {
			set[p] = true
		}
	}
	return pack(set) + string([]byte{byte(k)}), nil
}

// values are those of the bits of a byte, from bit 0 on.
var values = [8]byte{1, 2, 4, 8, 16, 32, 64, 128}

// pack is the bytes of some bits.
func pack(set []bool) string {
	out := make([]byte, len(set)/8)
	for i, one := range set {
		if one {
			out[i/8] += values[i%8]
		}
	}
	return string(out)
}

// modelMay is what the chapter's words say of a key in a filter.
func modelMay(filter, key string) bool {
	if len(filter) < 2 {
		return true
	}
	body, k := filter[:len(filter)-1], int(filter[len(filter)-1])
	if k == 0 || k > 30 {
		return true
	}
	for _, p := range modelPositions(key, k, len(body)*8) {
		if body[p/8]&values[p%8] == 0 {
			return false
		}
	}
	return true
}

// sameMake holds Make against the model.
func sameMake(t *testing.T, keys []string, bits int) string {
	t.Helper()
	got, err := bloom.Make(keys, bits)
	want, no := modelMake(keys, bits)
	if got != want || err != no {
		t.Fatalf("Make(%d keys, %d) = %x, %v; want %x, %v", len(keys), bits, got, err, want, no)
	}
	return got
}

// sameMay holds May against the model.
func sameMay(t *testing.T, filter, key string) {
	t.Helper()
	if got, want := bloom.May(filter, key), modelMay(filter, key); got != want {
		t.Fatalf("May(%x, %q) = %t; want %t", filter, key, got, want)
	}
}

// cut is the keys that bytes stand for: each byte up to 15 begins another one, so that some are empty or come twice.
func cut(b []byte) []string {
	var out []string
	for _, c := range b {
		if c < 16 {
			out = append(out, "")
		} else if len(out) > 0 {
			out[len(out)-1] += string([]byte{c})
		}
	}
	return out
}

// play makes a filter for the keys that bytes stand for, and asks it for these keys and for another one (P11.1, P11.2, P11.3).
func play(t *testing.T, b []byte, bits int, other string) {
	keys := cut(b)
	filter := sameMake(t, keys, bits)
	if got := bloom.Hash(other); new(big.Int).SetUint64(got).Cmp(modelHash(other)) != 0 {
		t.Fatalf("Hash(%q) = %x; want %x", other, got, modelHash(other))
	}
	sameMay(t, filter, other)
	for _, key := range keys {
		if !bloom.May(filter, key) {
			t.Fatalf("May(%x, %q) = false for a key of the filter", filter, key)
		}
	}
}

// P11.1, P11.2, P11.3: filters for keys in no order, the same ones each time.
func TestFilters(t *testing.T) {
	source := rand.New(rand.NewSource(11))
	for i := range 3000 {
		b := make([]byte, source.Intn(200))
		source.Read(b)
		other := make([]byte, source.Intn(20))
		source.Read(other)
		play(t, b, i%22, string(other))
	}
}

// P11.2: May of bytes in no order, most of whose bits are 1, the same ones each time.
func TestMayOfBytes(t *testing.T) {
	source := rand.New(rand.NewSource(112))
	for i := range 5000 {
		b := make([]byte, 1+source.Intn(40))
		for j := range b {
			b[j] = byte(source.Uint32() | source.Uint32() | source.Uint32() | source.Uint32())
		}
		b[len(b)-1] = byte(i % 35)
		for range 4 {
			key := make([]byte, source.Intn(6))
			source.Read(key)
			sameMay(t, string(b), string(key))
		}
	}
}

// P11.1, P11.2, P11.3: whatever the fuzzer finds (without it, the seeds).
func FuzzFilter(f *testing.F) {
	f.Add([]byte{}, 10, "a")
	f.Add([]byte("\x00a\x00b\x00key\x00\x00\xff\x00"), 10, "a")
	f.Add([]byte("\x00a\x00a\x00a\x00a\x00a\x00a\x00a"), 1, "")
	f.Add([]byte("\x00a\x01b\x02c\x03d"), 20, "e")
	f.Add([]byte("\x00a"), 0, "a")
	f.Add([]byte("\x00a"), 21, "a")
	f.Fuzz(play)
}

// P11.2: May of whatever the fuzzer finds (without it, the seeds).
func FuzzMay(f *testing.F) {
	f.Add("", "a")
	f.Add("\x06", "a")
	f.Add("\x00\x1f", "a")
	f.Add("\xff\x1e", "a")
	f.Add("\x00\x1e", "a")
	f.Add("\x00\x00", "a")
	f.Add("\xff\xff\xff\xfe\x03", "")
	f.Fuzz(func(t *testing.T, filter, key string) { sameMay(t, filter, key) })
}
