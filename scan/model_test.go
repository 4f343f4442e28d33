package scan

import (
	"bytes"
	"encoding/binary"
	"math/rand"
	"slices"
	"testing"

	"stillroom/api"
	"stillroom/crc"
	"stillroom/record"
)

// textOf is n bytes, the same ones for the same seed.
func textOf(seed int64, n int) string {
	b := make([]byte, n)
	rand.New(rand.NewSource(seed)).Read(b)
	return string(b)
}

// part is a record with that number and body.
func part(seq uint64, body string) api.Record {
	return api.Record{Kind: api.KPart, Tenant: 3, Object: 5, Seq: seq, Body: body}
}

// written is part as bytes.
func written(seq uint64, body string) []byte {
	return record.Encode(part(seq, body))
}

// sum writes the sum that is right into what is written like a record, whatever
// else it tells.
func sum(b []byte) {
	s := crc.More(crc.Sum(b[:35]), b[39:])
	binary.BigEndian.PutUint32(b[35:], s)
}

// joined is texts one behind the other.
func joined(texts ...[]byte) []byte {
	return bytes.Join(texts, nil)
}

// standing says whether a record stands at b's beginning, and which: it reads
// what a head there would tell, and writes that record anew.
func standing(b []byte) (api.Record, bool) {
	if len(b) < 39 {
		return api.Record{}, false
	}
	length := int(binary.BigEndian.Uint32(b[31:]))
	if length > len(b)-39 {
		return api.Record{}, false
	}
	r := api.Record{
		Kind:   int(b[2]),
		Tenant: binary.BigEndian.Uint32(b[3:]),
		Epoch:  binary.BigEndian.Uint64(b[7:]),
		Object: binary.BigEndian.Uint64(b[15:]),
		Seq:    binary.BigEndian.Uint64(b[23:]),
		Body:   string(b[39 : 39+length]),
	}
	return r, record.May(r) && bytes.HasPrefix(b, record.Encode(r))
}

// reckoned is what All and Front are to answer, told in another way: of each
// place first whether a record stands there, wherever the ones ahead end; then
// those go that begin within another one.
func reckoned(b []byte) (all, front []Found, taken int) {
	var anywhere []Found
	for at := range b {
		if r, ok := standing(b[at:]); ok {
			anywhere = append(anywhere, Found{at, r})
		}
	}
	free := 0
	for _, x := range anywhere {
		if x.At < free {
			continue
		}
		all = append(all, x)
		free = x.At + 39 + len(x.R.Body)
	}
	for _, x := range all {
		if x.At != taken {
			break
		}
		front = append(front, x)
		taken += 39 + len(x.R.Body)
	}
	return all, front, taken
}

// scanned is what All and Front answer of b, which is handed in with a record
// in its spare room, and held against the other reckoning.
func scanned(t *testing.T, what string, b []byte) (all, front []Found, taken int) {
	t.Helper()
	room := joined(b, written(99, "spare room"), written(98, ""))
	before := bytes.Clone(room)
	all = All(room[:len(b)])
	front, taken = Front(room[:len(b)])
	if !bytes.Equal(room, before) {
		t.Fatalf("P0.3: %s (%d bytes): what was handed in was changed", what, len(b))
	}
	wantAll, wantFront, wantTaken := reckoned(b)
	if !slices.Equal(all, wantAll) {
		t.Fatalf("P7.1: All of %s (%d bytes): %s, want %s", what, len(b), told(all), told(wantAll))
	}
	if !slices.Equal(front, wantFront) || taken != wantTaken {
		t.Fatalf("P7.1: Front of %s (%d bytes): %s, %d, want %s, %d", what, len(b), told(front), taken, told(wantFront), wantTaken)
	}
	return all, front, taken
}

// randomRecord is one that may be, as bytes; some have records in their body.
func randomRecord(random *rand.Rand, deep int) []byte {
	r := api.Record{
		Kind:   1 + random.Intn(4),
		Tenant: random.Uint32(),
		Epoch:  uint64(random.Int63n(api.MaxNum+1)) >> random.Intn(41),
		Object: uint64(random.Int63n(api.MaxNum+1)) >> random.Intn(41),
		Seq:    uint64(random.Int63n(api.MaxNum+1)) >> random.Intn(41),
		Body:   textOf(random.Int63(), random.Intn(1001)>>random.Intn(10)),
	}
	if deep > 0 && random.Intn(2) == 0 {
		inner := anything(random, deep-1)
		r.Body = string(inner[:min(len(inner), api.MaxPart)])
	}
	return record.Encode(r)
}

// anything is a text of a few pieces: records, whole, cut off or spoilt, and
// other bytes.
func anything(random *rand.Rand, deep int) []byte {
	var b []byte
	for range random.Intn(7) {
		x := randomRecord(random, deep)
		switch random.Intn(8) {
		case 0:
			x = x[:random.Intn(len(x))]
		case 1:
			x = x[random.Intn(len(x)):]
		case 2:
			x[random.Intn(len(x))] ^= 1 << random.Intn(8)
		case 3:
			x = []byte("SSRSR\x01"[:random.Intn(7)])
		case 4:
			x = []byte(textOf(random.Int63(), random.Intn(60)))
		}
		b = append(b, x...)
	}
	return b
}
