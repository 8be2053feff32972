package frame

import "hourglass/api"

// mailbox has datagrams that are not yet opened.
type mailbox chan []byte

// post puts datagrams into a mailbox, which has room for all: nobody takes them out meanwhile.
func post(datagrams ...[]byte) mailbox {
	m := make(mailbox, len(datagrams))
	for _, datagram := range datagrams {
		m <- datagram
	}
	return m
}

// opened are the letters of what is in it, in order, or the first error of them.
func (m mailbox) opened() ([]letter, api.Errno) {
	var letters []letter
	for {
		select {
		case datagram := <-m:
			l, e := open(datagram)
			if e != api.OK {
				return nil, e
			}
			letters = append(letters, l)
		default:
			return letters, api.OK
		}
	}
}
