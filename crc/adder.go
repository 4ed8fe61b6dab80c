package crc

// Adder contains bytes: of them it keeps the checksum and the number.
type Adder struct {
	made bool // by New
	sum  uint32
	n    int
}

// New is an adder that contains no bytes.
func New() *Adder {
	return &Adder{made: true}
}

// Add appends the parts, in order.
func (a *Adder) Add(parts ...[]byte) {
	if a == nil || !a.made {
		return
	}
	for _, b := range parts {
		a.sum = extended(a.sum, b)
		a.n += len(b)
	}
}

// Sum is the checksum of all the bytes. An adder that New did not make has none.
func (a *Adder) Sum() uint32 {
	if a == nil {
		return 0
	}
	return a.sum
}

// Len is how many bytes there are.
func (a *Adder) Len() int {
	if a == nil {
		return 0
	}
	return a.n
}
